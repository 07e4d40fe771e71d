/-
  FirstCuts of the program: the iterator's places collected.
  Conditions: fewer than 2^20 numbers.
-/
import Derived.Test.YtoappopbjnlbdaaZE
import Derived.RangeFuncBox
namespace Go.Proofs.Ytoappopbjnlbdaa
open Go.ChangeShapes Go.WideShapes Go.ChangeAt Go.RowKit Go.Shelf
set_option linter.unusedVariables false
set_option maxRecDepth 100000
attribute [local go_sem] Oper.semAt_some

set_option maxHeartbeats 4000000 in
/-- slices.AppendSeq of nothing and the iterator: a row of the call's own with the places. -/
theorem appendCuts_in (A : Option Addr) (c n Bl Bm : Nat) (zs : List Int) (m : Int) (w : World) (h : LIn w A c n zs) (hw : Wd zs) (hm : ∀ x, x ∈ zs → x ≤ m) (hm1 : m ≤ 1000) (h1 : Bl < w.heap.size) (h2 : Bm < w.heap.size)
    (hBl : w.cell? ⟨Bl, 0, none⟩ = some (.slice A n c)) (hBm : w.cell? ⟨Bm, 0, none⟩ = some (.int .i64 m)) :
    CallsIn Fence.wide 7 Try.prog 65 #[.slice none 0 0, .func (.func 64) #[] #[.pointer (some ⟨Bl, 0, none⟩), .pointer (some ⟨Bm, 0, none⟩)]] w fun e W' => ∃ v, e = .returned v ∧
      W'.ownsRow w.heap.size 3 1 v (ctT m zs n).length ((ctT m zs n).map (Value.int .i64)) ∧ Below w.heap.size w W' := by
  obtain ⟨i0, hi, hz0, hz1, hz2⟩ := info_parts intInfo
  have hl10 := hw.n10
  rw [h.len] at hl10
  refine callsIn_of_wp_marks Try.func65 rfl trivial ?_ rfl
  simp only [Try.ntmps65, List.size_toArray, List.length_cons, List.length_nil, Nat.reduceAdd, Nat.reduceSub, Array.replicate_succ, Array.replicate_zero, List.push_toArray, List.append_toArray, List.nil_append, List.cons_append]
  gi_wp2
  have bO := Boxed.new w 23 (.slice none 0 0)
  have hB0 : Below w.heap.size w (w.alloc (.cells #[.slice none 0 0] 23)) := (Below.refl _ w).alloc (Nat.le_refl _) _
  refine wpIn_rangeFunc_ownG (F := Fence.wide) rfl (by decide) (gf := 64) (lb := #[.pointer (some ⟨Bl, 0, none⟩), .pointer (some ⟨Bm, 0, none⟩)]) rfl trivial (enters_of Try.func64 (by kernel_rfl) rfl)
    (cuts_stops 6 (by decide) Bl Bm w.heap.size n c A zs m hw hm hm1 h.len _ (by simp; omega) (by simp; omega) (by simp) ((hB0.cell (p := ⟨Bl, 0, none⟩) h1).trans hBl) ((hB0.cell (p := ⟨Bm, 0, none⟩) h2).trans hBm) (h.rd.below hB0)) KpZ.trans (kpZ_b (by simp) (by simp; omega)) (Below.refl _ _) (fun _ => rfl)
    (fun (pre : List Int) W => (∃ v, Boxed W w.heap.size 23 v ∧ W.ownsRow w.heap.size 3 1 v pre.length (pre.map (Value.int .i64)) ∧ True) ∧ Below w.heap.size w W)
    (fun _ _ _ => False)
    (OwnFrom.and (Own.from (holdsRow_own w.heap.size w.heap.size 23 3 1 (fun (pre : List Int) => pre.length) (fun (pre : List Int) => pre.map (Value.int .i64)) (fun _ _ => True)) _) (ownFrom_below (Nat.le_refl _) (by simp)))
    (fun _ _ _ _ _ hs _ _ => hs)
    ⟨⟨_, bO, World.ownsRow_nil _ _ _ _, trivial⟩, hB0⟩
    (fun x => { tmps := #[.slice none 0 0, .func (.func 64) #[] #[.pointer (some ⟨Bl, 0, none⟩), .pointer (some ⟨Bm, 0, none⟩)], .pointer (some ⟨w.heap.size, 0, none⟩), undef, .slice none 0 0, .int .i64 x, .func (.func 64) #[] #[.pointer (some ⟨Bl, 0, none⟩), .pointer (some ⟨Bm, 0, none⟩)], .int .i64 x, undef, undef, undef, undef, undef], defers := [] }) ?assign ?body ?done ?stop
  case assign =>
    intro l x W K hK
    gi_wp2
    exact hK
  case body =>
    rintro l pre x W ⟨⟨v, hv, hrow, -⟩, hB⟩ hlt
    have hc := hv.cell
    gi_wp2_with (gi_at_builtin; refine wpListIn_append_own _ rfl _ _ 23 rfl w.heap.size 3 i0 _ 1 8 Try.underlying23 hi hz0 hz1 hz2 rfl (by decide) _ _ _ rfl (hrow.alloc _) ⟨W.heap.size, 0, none⟩ 1 1 [.int .i64 x] rfl rfl (cell_one_new _ _ _) (by simp [Value.oneCell']) (by unfold maxLen; omega) (by omega) (by have := hB.size; simp; omega) ?_; intro v' w1 hown' hgrow _; obtain ⟨g', cap', rfl⟩ := ownsRow_succ hown'; obtain ⟨hv1, hv2, hr2, hk2, hb2⟩ := hv.appended (by decide) hrow hB.size (Nat.le_refl _) hown' hgrow; have hc1 := hv1.cell; have hf1 := hv1.frozen)
    exact ⟨hk2.from _, ⟨hb2, hb2.block _ h2⟩, ⟨_, hv2, by simpa using hr2, trivial⟩, hB.trans hb2⟩
  case done =>
    rintro D ys W hD rfl ⟨⟨v, hv, hrow, -⟩, hB⟩ hK
    have hc := hv.cell
    gi_wp2
    refine ⟨by simp, .inl ⟨_, _, rfl, run_takeDeferred hK, ?_⟩⟩
    exact ⟨_, results_tmp rfl _ _ _, v, rfl, ownsRow_putObj hrow _ hK rfl, hB.trans (belowK_b (w := w) (Nat.le_refl _) W D _ _ (by simp at hD; omega) hK rfl rfl)⟩
  case stop =>
    rintro D c pre W _ _ h _
    exact h.elim

set_option maxHeartbeats 800000 in
theorem collectCuts_any (A : Option Addr) (c n Bl Bm : Nat) (zs : List Int) (m : Int) (w : World) (h : LIn w A c n zs) (hw : Wd zs) (hm : ∀ x, x ∈ zs → x ≤ m) (hm1 : m ≤ 1000) (h1 : Bl < w.heap.size) (h2 : Bm < w.heap.size)
    (hBl : w.cell? ⟨Bl, 0, none⟩ = some (.slice A n c)) (hBm : w.cell? ⟨Bm, 0, none⟩ = some (.int .i64 m)) :
    Calls Try.prog 51 #[.func (.func 64) #[] #[.pointer (some ⟨Bl, 0, none⟩), .pointer (some ⟨Bm, 0, none⟩)]] w fun e W' => ∃ v, e = .returned v ∧
      W'.ownsRow w.heap.size 3 1 v (ctT m zs n).length ((ctT m zs n).map (Value.int .i64)) ∧ Below w.heap.size w W' := by
  have HA := Lib.hid (callsIn_wide.1 (appendCuts_in A c n Bl Bm zs m w h hw hm hm1 h1 h2 hBl hBm))
  clear h hBl hBm hw hm
  go_enter Try.func51, Try.ntmps51
  go_wp2_with fail
  refine HA.out.mono ?_
  rintro e w' ⟨v, rfl, hO, hB⟩
  have HO := Lib.hid hO
  have HB := Lib.hid hB
  clear hO hB
  go_wp2
  go_ret
  exact ⟨v, rfl, HO.out, HB.out⟩

/-- A row of ints answered, and whether there is one: the row is the call's own. -/
def CutsAre (zs : List Int) (m : Int) (w : World) (e : Ending) (w' : World) : Prop :=
  ∃ v, e = .returned (.tuple #[v, .bool (cbc zs m)]) ∧ w'.ownsRow w.heap.size 3 1 v (if cbc zs m = true then ctT m zs zs.length else []).length ((if cbc zs m = true then ctT m zs zs.length else []).map (Value.int .i64)) ∧ Below w.heap.size w w'
set_option maxHeartbeats 1600000 in
theorem iFirstCuts_any (A : Option Addr) (c n : Nat) (zs : List Int) (m : Int) (w : World) (h : LIn w A c n zs) :
    Calls Try.prog 23 #[.slice A n c, .int .i64 m] w (CutsAre zs m w) := by
  have H1 := Lib.hid (canBeCut_any A c n zs m w h)
  by_cases hc : cbc zs m = true
  · obtain ⟨hw, hm, hm1⟩ := cbc_iff.1 hc
    have hB0 : Below w.heap.size w ((w.alloc (.cells #[.slice A n c] 23)).alloc (.cells #[.int .i64 m] 3)) := ((Below.refl _ w).alloc (Nat.le_refl _) _).alloc (by simp) _
    have bL := (Boxed.new w 23 (.slice A n c)).alloc (.cells #[.int .i64 m] 3)
    have bM := Boxed.new (w.alloc (.cells #[.slice A n c] 23)) 3 (.int .i64 m)
    rw [World.size_alloc] at bM
    have H2 := Lib.hid (collectCuts_any A c n w.heap.size (w.heap.size + 1) zs m _ (h.later hB0) hw hm hm1 (by simp; omega) (by simp) bL.cell bM.cell)
    have HC := Lib.hid (cutsWithin_any A n c m w)
    have HE : Hid (∀ v w', w'.ownsRow w.heap.size 3 1 v (ctT m zs n).length ((ctT m zs n).map (Value.int .i64)) → Below w.heap.size w w' → CutsAre zs m w (.returned (.tuple #[v, .bool true])) w') := by
      intro v w' ho hb
      refine ⟨v, by rw [hc], ?_, hb⟩
      rw [if_pos hc, h.len]
      exact ho
    have HB := Lib.hid hB0
    rw [hc] at H1
    clear h hc hw hm hB0 bL bM
    go_enter Try.func23, Try.ntmps23
    go_wp2_with fail
    refine H1.out.mono ?_
    rintro e w' ⟨rfl, rfl⟩
    go_wp2_with fail
    refine HC.out.mono ?_
    rintro e w' ⟨rfl, rfl⟩
    go_wp2_with fail
    refine H2.out.mono ?_
    rintro e w' ⟨v, rfl, ho, hb⟩
    have HF := Lib.hid (HE.out v w' (own_lowZ ho HB.out.size) (HB.out.trans (hb.mono HB.out.size)))
    clear ho hb
    go_wp2
    go_ret2
    exact HF.out
  · have hc' : cbc zs m = false := by simpa using hc
    have HE : Hid (CutsAre zs m w (.returned (.tuple #[.slice none 0 0, .bool false])) w) := ⟨_, by rw [hc'], by rw [if_neg hc]; exact World.ownsRow_nil _ _ _ _, Below.refl _ _⟩
    rw [hc'] at H1
    clear h hc hc'
    go_enter Try.func23, Try.ntmps23
    go_wp2_with fail
    refine H1.out.mono ?_
    rintro e w' ⟨rfl, rfl⟩
    go_wp2
    go_ret2
    exact HE.out
end Go.Proofs.Ytoappopbjnlbdaa
