/-
  Where the districts begin, as an iterator; FewestWards of the program.
  Conditions: none beyond what each theorem states.
-/
import Derived.Test.YtoappopbjnlbdaaZC
import Derived.RangeFuncNested
import Derived.RangeFuncLeaves
import Derived.RangeFuncBound
import Derived.Shelf.Abstract
import Derived.WalkKit
import Derived.OwnWalkIn
import Derived.TacticsInMore
import Derived.LoopNIn
import Derived.LoopIn
import Derived.Maps.AppendAt
namespace Go.Proofs.Ytoappopbjnlbdaa
open Go.ChangeShapes Go.WideShapes Go.ChangeAt Go.RowKit Go.Shelf
set_option linter.unusedVariables false
set_option maxRecDepth 100000
attribute [local go_sem] Oper.semAt_some

/-- What a round keeps of an iterator's memory: all below n, and one block more. -/
structure KpZ (n B : Nat) (W W' : World) : Prop where
  bel : Below n W W'
  box : W'.heap[B]? = W.heap[B]?
theorem KpZ.refl (n B : Nat) (W : World) : KpZ n B W W := ⟨Below.refl _ _, rfl⟩
theorem KpZ.trans {n B : Nat} {a b c : World} (h : KpZ n B a b) (k : KpZ n B b c) : KpZ n B a c := ⟨h.bel.trans k.bel, k.box.trans h.box⟩
theorem kpZ_b {n B : Nat} {w : World} (hn : n ≤ w.heap.size) (hB : B < w.heap.size) (W : World) (l : Nat) (o o' : Obj) (hl : w.heap.size ≤ l) (h : W.heap[l]? = some o) (h1 : o.isCells = false) (h2 : o.isWalk = false) : KpZ n B W (W.putObj l o') :=
  ⟨belowK_b hn W l o o' hl h h1 h2, World.putObj_heap_other (by omega)⟩

set_option maxHeartbeats 4000000 in
/-- The iterator: each street before which a district begins, in order. -/
theorem cuts1_in (n l Bl Bm n₀ len cap : Nat) (hn : 1 ≤ n) (A : Option Addr) (zs : List Int) (m : Int) (hw : Wd zs) (hm : ∀ x, x ∈ zs → x ≤ m) (hm1 : m ≤ 1000) (hlen : zs.length = len) (J Jx : List Int → World → Prop)
    (hY : ∀ pre x W, J pre W → pre.length < len → YieldAt Fence.wide (n - 1) Try.prog l #[.int .i64 x] W fun e W' =>
      (e = .returned (.bool true) ∧ J (pre ++ [x]) W' ∧ KpZ n₀ Bm W W') ∨ (e = .returned (.bool false) ∧ Jx (pre ++ [x]) W'))
    (W : World) (hBl : W.cell? ⟨Bl, 0, none⟩ = some (.slice A len cap)) (hBm : W.cell? ⟨Bm, 0, none⟩ = some (.int .i64 m)) (hr : RdI W n₀ A zs) (h0 : J [] W) :
    CallsIn Fence.wide n Try.prog 64 #[.func (.yield l) #[] #[], .pointer (some ⟨Bl, 0, none⟩), .pointer (some ⟨Bm, 0, none⟩)] W fun e W' => (∃ v, e = .returned v) ∧
      ((∃ ys, ys = ctT m zs len ∧ J ys W') ∨ (∃ pre, True ∧ Jx pre W')) := by
  refine callsIn_of_wp Try.func64 rfl trivial ?_ rfl
  simp only [Try.ntmps64, List.size_toArray, List.length_cons, List.length_nil, Nat.reduceAdd, Nat.reduceSub, Array.replicate_succ, Array.replicate_zero, List.push_toArray, List.append_toArray, List.nil_append, List.cons_append]
  have hl10 := hw.n10
  have hm0 : 0 ≤ m := by have h1 := hm _ (getD_mem (zs := zs) (k := 0) hw.n1); have h2 := hw.at_ hw.n1; omega
  gi_wp2
  gi_loopw [4, 9] (fun p i wr => ∃ k : Nat, ∃ q : Int, k ≤ len ∧ p = .int .i64 q ∧ i = .int .i64 k ∧ Hid (nwT m zs k = q) ∧ J (ctT m zs k) wr ∧ Hid (KpZ n₀ Bm W wr))
    (fun _ i _ => len - (intOf i).toNat)
  case atStart => exact ⟨0, 0, Nat.zero_le _, rfl, rfl, rfl, h0, KpZ.refl _ _ _⟩
  case round =>
    obtain ⟨k, q, hk, rfl, rfl, Hq, hJs, HK⟩ := hrel
    have hcm : wr.cell? ⟨Bm, 0, none⟩ = some (.int .i64 m) := (World.cell?_of_block (by exact HK.out.box)).trans hBm
    by_cases hlt : k < len
    · obtain ⟨b, off, x, rfl, -, Hx, hcx⟩ := (hr.below HK.out.bel).x (k := k) (by omega)
      have hx := hw.at_ (k := k) (by omega)
      rw [Hx.out] at hx
      have hq0 := nwT_ge0 (m := m) hw.ge0 k (by omega)
      have hq1 := nwT_le hm0 hm k (by omega)
      rw [Hq.out] at hq0 hq1
      have hcl := ctT_len m zs k
      by_cases hcut : m < q + x
      · have hcut' : m < nwT m zs k + zs.getD k 0 := by rw [Hq.out, Hx.out]; exact hcut
        have Hn := nwT_cut hcut'
        rw [Hx.out] at Hn
        have HN := Lib.hid Hn
        have HC := Lib.hid (ctT_cut hcut')
        clear Hn hcut'
        obtain ⟨fn, tmps, assign, body, hy, hR⟩ := hY _ (k : Int) wr hJs (by omega)
        gi_wp2
        refine hR.mono ?_
        rintro e W3 (⟨rfl, hJ3, hk3⟩ | ⟨rfl, hJx3⟩)
        · have HK3 := Lib.hid (HK.out.trans hk3)
          rw [← HC.out] at hJ3
          clear hk3
          gi_wp2
          go_roundw
          case rel => exact ⟨k + 1, x, by omega, rfl, by go_num, HN, hJ3, HK3⟩
          case measure => simp [intOf]; omega
        · gi_wp2
          refine bodyPost_ret (results_none rfl _ _ _) rfl ?_
          exact ⟨⟨_, rfl⟩, .inr ⟨_, trivial, hJx3⟩⟩
      · have hcut' : ¬ m < nwT m zs k + zs.getD k 0 := by rw [Hq.out, Hx.out]; exact hcut
        have Hn := nwT_go hcut'
        rw [Hx.out, Hq.out] at Hn
        have HN := Lib.hid Hn
        have HC := Lib.hid (ctT_go hcut')
        rw [← HC.out] at hJs
        clear Hn hcut'
        gi_wp2
        go_roundw
        case rel => exact ⟨k + 1, q + x, by omega, rfl, by go_num, HN, hJs, HK⟩
        case measure => simp [intOf]; omega
    · obtain rfl : k = len := by omega
      gi_wp2
      go_end0
      exact ⟨⟨_, rfl⟩, .inl ⟨_, rfl, hJs⟩⟩

set_option maxHeartbeats 1000000 in
/-- cutsWithin hands back its closure, which has captured the streets and how many people at most. -/
theorem cutsWithin_any (A : Option Addr) (len cap : Nat) (m : Int) (w : World) :
    Calls Try.prog 48 #[.slice A len cap, .int .i64 m] w fun e w' => e = .returned (.func (.func 64) #[] #[.pointer (some ⟨w.heap.size, 0, none⟩), .pointer (some ⟨w.heap.size + 1, 0, none⟩)]) ∧ w' = (w.alloc (.cells #[.slice A len cap] 23)).alloc (.cells #[.int .i64 m] 3) := by
  go_enter Try.func48, Try.ntmps48
  go_wp2
  go_ret
  exact ⟨rfl, rfl⟩
theorem cuts_stops (n : Nat) (hn : 1 ≤ n) (Bl Bm n₀ len cap : Nat) (A : Option Addr) (zs : List Int) (m : Int) (hw : Wd zs) (hm : ∀ x, x ∈ zs → x ≤ m) (hm1 : m ≤ 1000) (hlen : zs.length = len) (w : World) (h1 : Bl < w.heap.size) (h2 : Bm < w.heap.size) (hn₀ : n₀ ≤ w.heap.size)
    (hBl : w.cell? ⟨Bl, 0, none⟩ = some (.slice A len cap)) (hBm : w.cell? ⟨Bm, 0, none⟩ = some (.int .i64 m)) (hr : RdI w n₀ A zs) :
    SeqStopsK Fence.wide n Try.prog 64 #[.pointer (some ⟨Bl, 0, none⟩), .pointer (some ⟨Bm, 0, none⟩)] (fun x : Int => #[Value.int .i64 x]) (KpZ n₀ Bm) (fun ys => ys = ctT m zs len) (fun _ => True) len w := fun l J Jx W hW _ _ hY h0 =>
  cuts1_in n l Bl Bm n₀ len cap hn A zs m hw hm hm1 hlen J Jx hY W ((hW.cell (p := ⟨Bl, 0, none⟩) h1).trans hBl) ((hW.cell (p := ⟨Bm, 0, none⟩) h2).trans hBm) (hr.below (hW.mono hn₀)) h0
end Go.Proofs.Ytoappopbjnlbdaa
