/-
  The copy of a slice of slices of ints in the exact laws; two that read the same compare equal.
  Conditions: fewer than 2^20 rows, each shorter than 2^20.
-/
import Derived.Test.YtakljcpneghgnaaWB
import Derived.Test.YtakljcpneghgnaaHT
import Derived.Test.YtakljcpneghgnaaE0
namespace Go.Proofs.Ytakljcpneghgnaa
open Go.ChangeShapes Go.WideShapes Go.ChangeAt Go.RowKit
set_option linter.unusedVariables false
set_option maxRecDepth 4000

theorem rdV_of {w : World} {B g : Nat} {VR : Nat → Value} {L : List (List Int)} (hO : w.ownsRow B 23 1 (.slice (some ⟨g, 0, none⟩) L.length L.length) L.length ((List.range L.length).map VR)) (hT : TT w B L.length VR fun j => L.getD j []) :
    RdV w w.heap.size (some ⟨g, 0, none⟩) L := fun hp => by
  refine ⟨g, 0, rfl, (hO.lt g rfl).2, fun i hi => ?_⟩
  have h1 := hT.own i hi
  obtain ⟨A, c, e, hc, hc2, h3⟩ := own_sliceN h1
  obtain ⟨A', c', e', hrd⟩ := hT.row hi
  rw [e] at e'
  injection e' with e1 e2 e3
  subst e1
  refine ⟨A, c, ?_, hc, hc2, hrd⟩
  rw [Nat.zero_add, hO.cellAt i (by omega)]
  simp [hi, e]
/-- A copy of rows in new blocks. -/
def CopiedV (w : World) (L : List (List Int)) (e : Ending) (w' : World) : Prop :=
  ∃ b, e = .returned (.slice (some ⟨b, 0, none⟩) L.length L.length) ∧ w.heap.size ≤ b ∧ RdV w' w'.heap.size (some ⟨b, 0, none⟩) L ∧ Below w.heap.size w w'
set_option maxHeartbeats 1600000 in
theorem toV_any (A : Option Addr) (c n : Nat) (L : List (List Int)) (w : World) (hr : RdV w w.heap.size A L) (hn : L.length = n) (hs : Small L) :
    Calls Try.prog 39 #[.slice A n c] w (CopiedV w L) := by
  obtain ⟨is, his, hzs0, hzs1, hzs2⟩ := info_parts slInfo2
  have hn20 : n ≤ 1048576 := by rw [← hn]; exact hs.1
  have hbi : is.bytes * n ≤ 281474976710656 := by rw [hzs2]; omega
  have hml : n ≤ maxLen := by unfold maxLen; omega
  have Hn := Lib.hid hn
  have Hs := Lib.hid hs.2
  have Hr := Lib.hid hr
  clear hn hs hr
  go_enter Try.func39, Try.ntmps39
  go_wp2_with (at_make; refine wpList_make_full _ rfl _ _ 24 rfl w.heap.size 23 is _ 1 Try.underlying24 his hzs0 hzs1 _ _ _ _ n rfl rfl rfl rfl hbi hml (Nat.le_refl _) ?_; intro w1 hown1 hg1)
  have hb1 : Below w.heap.size w w1 := (Below.refl _ _).grown hg1 (Nat.le_refl _) (fun j hj => by cases hj)
  rw [Nat.mul_one, half_none] at hown1
  obtain ⟨G, HG⟩ : ∃ G, Hid (w.heap.size = G) := ⟨_, rfl⟩
  have ho1 : w1.ownsRow w.heap.size 23 1 (.slice (some ⟨G, 0, none⟩) n n) n (half (fun _ => .slice none 0 0) 0 n) := by rw [← HG.out]; exact hown1
  rw [HG.out]
  have HO1 := Lib.hid ho1
  have HB1 := Lib.hid hb1
  clear hown1 hg1 ho1 hb1
  go_loopw [4] (fun i wr => ∃ k : Nat, ∃ VR, k ≤ n ∧ i = .int .i64 k ∧ wr.ownsRow w.heap.size 23 1 (.slice (some ⟨G, 0, none⟩) n n) n (half VR k n) ∧ TT wr w.heap.size k VR (fun j => L.getD j []) ∧ Below w.heap.size w wr) (fun i _ => n - (intOf i).toNat)
  case atStart => exact ⟨0, fun _ => .slice none 0 0, Nat.zero_le _, rfl, HO1.out, ⟨fun j hj => by omega, fun i j g hi => by omega⟩, HB1.out⟩
  case round =>
    clear HO1 HB1
    obtain ⟨k, VR, hk, rfl, hO, hT, hnx⟩ := hrel
    by_cases hlt : k < n
    · have hrw := (Hr.out.below hnx).more hnx.size
      obtain ⟨b, off, a, ca, ls, rfl, hbw, Hl, hcl, hca, hcm, hrl⟩ := hrw.x (k := k) (by rw [Hn.out]; exact hlt)
      obtain ⟨t, Ht⟩ : ∃ t, Hid (ls.length = t) := ⟨_, rfl⟩
      have ht20 : t ≤ 1048576 := by rw [← Ht.out, ← Hl.out]; exact Hs.out k (by rw [Hn.out]; exact hlt)
      rw [Ht.out] at hcl hca
      have HO := Lib.hid hO
      have HT := Lib.hid hT
      have HB := Lib.hid hnx
      have Hc := Lib.hid (toInt_any a ca t ls wr hrl Ht.out ht20)
      clear hO hT hnx hrw hrl
      go_wp2_with fail
      refine Hc.out.mono ?_
      rintro e wC ⟨g2, rfl, hg2, hrC, hbC, hownC⟩
      obtain ⟨⟨x, cx⟩, fx, hst, hTT, hgB⟩ := tabH_step (v := .slice (some ⟨g2, 0, none⟩) ls.length ls.length) hlt HB.out.size HT.out HO.out hbC (by show wC.ownsRow wr.heap.size _ 1 _ (L.getD k []).length ((L.getD k []).map _); rw [Hl.out]; exact hownC)
      have HO2 := Lib.hid hst
      have HT2 := Lib.hid hTT
      have HB2 := Lib.hid ((HB.out.trans (hbC.mono HB.out.size)).setCell (p := ⟨G, k, none⟩) hgB (.slice (some ⟨g2, 0, none⟩) ls.length ls.length))
      clear hst hTT hrC hbC hownC hcl
      go_wp2
      go_roundw
      case rel => exact ⟨k + 1, _, by omega, by go_num, HO2.out, HT2.out, HB2.out⟩
      case measure => simp [intOf]; omega
    · obtain rfl : k = n := by omega
      have hend : CopiedV w L (.returned (.slice (some ⟨G, 0, none⟩) k k)) wr := by
        rw [half_all] at hO
        have hn := Hn.out
        subst hn
        exact ⟨G, rfl, Nat.le_of_eq HG.out, rdV_of hO hT, hnx⟩
      have Hend := Lib.hid hend
      clear hO hT hnx hend
      go_wp2
      go_ret
      exact Hend.out
set_option maxHeartbeats 800000 in
theorem eqV_same (A A' : Option Addr) (c c' n n' : Nat) (L : List (List Int)) (w : World) (B B' : Nat) (hr : RdV w B A L) (hn : L.length = n) (hr' : RdV w B' A' L) (hn' : L.length = n') (hs : Small L) :
    Calls Try.prog 41 #[.slice A n c, .slice A' n' c'] w fun e w' => e = .returned (.bool true) ∧ ∃ q, w' = w.drewN q := by
  obtain rfl : n = n' := by omega
  have hn20 : n ≤ 1048576 := by rw [← hn]; exact hs.1
  have Hn := Lib.hid hn
  have Hs := Lib.hid hs.2
  have Hr := Lib.hid hr
  have Hr' := Lib.hid hr'
  clear hn hn' hs hr hr'
  go_enter Try.func41, Try.ntmps41
  go_wp2
  go_loopw [5] (fun i wr => ∃ k : Nat, ∃ q, k ≤ n ∧ i = .int .i64 k ∧ wr = w.drewN q) (fun i _ => n - (intOf i).toNat)
  case atStart => exact ⟨0, 0, by omega, rfl, rfl⟩
  case round =>
    obtain ⟨k, q, hk, rfl, rfl⟩ := hrel
    by_cases hlt : k < n
    · obtain ⟨b, off, a, ca, ls, rfl, hbw, Hl, hcl, hca, hcm, hrl⟩ := Hr.out.x (k := k) (by rw [Hn.out]; exact hlt)
      obtain ⟨b', off', a', ca', ls', rfl, hbw', Hl', hcl', hca', hcm', hrl'⟩ := Hr'.out.x (k := k) (by rw [Hn.out]; exact hlt)
      obtain rfl : ls = ls' := by rw [← Hl.out, ← Hl'.out]
      obtain ⟨t, Ht⟩ : ∃ t, Hid (ls.length = t) := ⟨_, rfl⟩
      have ht20 : t ≤ 1048576 := by rw [← Ht.out, ← Hl.out]; exact Hs.out k (by rw [Hn.out]; exact hlt)
      rw [Ht.out] at hcl hca hcl' hca'
      have HR1 := Lib.hid (hrl.drewN q)
      have HR2 := Lib.hid (hrl'.drewN q)
      have cq1 : (w.drewN q).cell? ⟨b, off + k, none⟩ = some (.slice a t ca) := hcl
      have cq2 : (w.drewN q).cell? ⟨b', off' + k, none⟩ = some (.slice a' t ca') := hcl'
      have Hq : Hid (∀ m, (w.drewN q).drewN m = w.drewN (q + m)) := fun m => World.drewN_drewN _ _ _
      clear hrl hrl' hcl hcl'
      go_wp2
      generalize w.drewN q = wq at HR1 HR2 cq1 cq2 Hq ⊢
      go_quiet (exact Calls.quiet_of (eqInt_same a a' ca ca' t t ls _ B B' (HR1.out.drewN _) Ht.out (HR2.out.drewN _) Ht.out (by omega)))
      go_wp2
      go_roundw
      case rel => exact ⟨k + 1, _, by omega, by go_num, Hq.out _⟩
      case measure => simp [intOf]; omega
    · go_wp2
      go_ret
      exact ⟨rfl, _, rfl⟩
end Go.Proofs.Ytakljcpneghgnaa
