/-
  Lists and tables compared by the laws.
  Conditions: at most seven rows of at most seven numbers.
-/
import Derived.Test.YthphboeboiallaaEL
import Derived.Deep.Quiet
namespace Go.Proofs.Ythphboeboiallaa
open Go.ChangeShapes Go.WideShapes Go.ChangeAt Go.RowKit
set_option linter.unusedVariables false
set_option maxRecDepth 4000

set_option maxHeartbeats 1600000 in
theorem eqLR_any (w : World) (B B' m c c' : Nat) (A A' : Option Addr) (VR VR' : Nat → Value) (ls : Nat → List Int) (hO : Outer w B m (.slice A m c) VR) (hT : TT w B m VR ls) (hO' : Outer w B' m (.slice A' m c') VR') (hT' : TT w B' m VR' ls) (hm : m ≤ 7) (hl : ∀ j, j < m → (ls j).length ≤ 7) :
    Calls Try.prog 34 #[.slice A m c, .slice A' m c'] w fun e w' => e = .returned (.bool true) ∧ ∃ q, w' = w.drewN q := by
  have HO := Lib.hid hO
  have HT := Lib.hid hT
  have HO' := Lib.hid hO'
  have HT' := Lib.hid hT'
  have HL := Lib.hid hl
  have hs : ∀ {B : Nat} {A : Option Addr} {c : Nat} {VR : Nat → Value}, Outer w B m (.slice A m c) VR → 0 < m → ∃ g, A = some ⟨g, 0, none⟩ := fun h hp => by
    obtain ⟨A2, c2, e, _, _, h3⟩ := own_sliceN h
    obtain ⟨g, e2, _⟩ := h3 hp
    injection e with e _ _
    exact ⟨g, e.trans e2⟩
  have HS1 := Lib.hid (hs hO)
  have HS2 := Lib.hid (hs hO')
  clear hO hT hO' hT' hl hs
  go_enter Try.func34, Try.ntmps34
  go_wp2
  go_loopw [5] (fun i wr => ∃ k : Nat, ∃ q, k ≤ m ∧ i = .int .i64 k ∧ wr = w.drewN q) (fun i _ => m - (intOf i).toNat)
  case atStart => exact ⟨0, 0, by omega, rfl, rfl⟩
  case round =>
    obtain ⟨k, q, hk, rfl, rfl⟩ := hrel
    by_cases hlt : k < m
    · obtain ⟨g, rfl⟩ := HS1.out (by omega)
      obtain ⟨g', rfl⟩ := HS2.out (by omega)
      obtain ⟨A1, c1, e1, hr1⟩ := HT.out.row hlt
      obtain ⟨A2, c2, e2, hr2⟩ := HT'.out.row hlt
      have cc1 := Outer.cell HO.out hlt
      have cc2 := Outer.cell HO'.out hlt
      rw [e1] at cc1
      rw [e2] at cc2
      obtain ⟨n, Hn⟩ : ∃ n, Hid ((ls k).length = n) := ⟨_, rfl⟩
      have hn7 := HL.out k hlt
      rw [Hn.out] at cc1 cc2 hn7
      have HR1 := Lib.hid (hr1.drewN q)
      have HR2 := Lib.hid (hr2.drewN q)
      have cq1 : (w.drewN q).cell? ⟨g, k, none⟩ = some (.slice A1 n c1) := cc1
      have cq2 : (w.drewN q).cell? ⟨g', k, none⟩ = some (.slice A2 n c2) := cc2
      have Hq : Hid (∀ m, (w.drewN q).drewN m = w.drewN (q + m)) := fun m => World.drewN_drewN _ _ _
      clear hr1 hr2 e1 e2 cc1 cc2
      go_wp2
      generalize w.drewN q = wq at HR1 HR2 cq1 cq2 Hq ⊢
      go_quiet (exact Calls.quiet_of (eqLi_same A1 A2 c1 c2 n n (ls k) _ w.heap.size w.heap.size (HR1.out.drewN _) Hn.out (HR2.out.drewN _) Hn.out (by omega)))
      go_wp2
      go_roundw
      case rel => exact ⟨k + 1, _, by omega, by go_num, Hq.out _⟩
      case measure => simp [intOf]; omega
    · go_wp2
      go_ret
      exact ⟨rfl, _, rfl⟩
theorem eqLR_below (w : World) (B B' m c c' : Nat) (A A' : Option Addr) (VR VR' : Nat → Value) (ls : Nat → List Int) (hO : Outer w B m (.slice A m c) VR) (hT : TT w B m VR ls) (hO' : Outer w B' m (.slice A' m c') VR') (hT' : TT w B' m VR' ls) (hm : m ≤ 7) (hl : ∀ j, j < m → (ls j).length ≤ 7) :
    Calls Try.prog 34 #[.slice A m c, .slice A' m c'] w fun e w' => e = .returned (.bool true) ∧ Below w.heap.size w w' :=
  calls_drawn (eqLR_any w B B' m c c' A A' VR VR' ls hO hT hO' hT' hm hl)
end Go.Proofs.Ythphboeboiallaa
