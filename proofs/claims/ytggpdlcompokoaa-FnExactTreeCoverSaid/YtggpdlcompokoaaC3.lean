/-
  highestNear: from a node on towards the node 0, while it is at most far.
  Conditions: none beyond what each theorem states.
-/
import Derived.Test.YtggpdlcompokoaaN0
import Derived.Test.YtggpdlcompokoaaC1
import Derived.Deep.LoopGhost
namespace Go.Proofs.Ytggpdlcompokoaa
open Go.ChangeShapes Go.WideShapes Go.ChangeAt Go.RowKit
set_option linter.unusedVariables false
set_option maxRecDepth 4000

/-- s lies on the way from a to the node 0, so the ways add up. -/
def OnWay (t : List (Int × Int)) (n a s : Nat) : Prop := s ≤ a ∧ Bh t s a ∧ dn t n a s = dn t n a 0 - dn t n s 0
theorem onWay_self (t : List (Int × Int)) {n a : Nat} (ha : a < n) : OnWay t n a a := ⟨Nat.le_refl _, bh_self t a, by rw [dn_diag t n a ha]; omega⟩
theorem onWay_up {t : List (Int × Int)} (ht : Ahead t) {n a s : Nat} (hn : n ≤ t.length) (ha : a < n) (hs : 0 < s) (h : OnWay t n a s) : OnWay t n a (tto t s) := by
  obtain ⟨h1, h2, h3⟩ := h
  have hto := (ht s hs (by omega)).1
  have hb : Bh t (tto t s) s := (bh_up ht (by omega) hto).2 (bh_self t _)
  have hba := bh_trans ht (by omega) (by omega) hb h2
  have e1 := dn_over ht hn hs (by omega) a ha
  rw [if_pos h2] at e1
  have e2 := dn_road ht hn (show s < n by omega) hs
  rw [dn_symm t n s a] at e1
  rw [dn_symm t n (tto t s) a] at e1
  exact ⟨by omega, hba, by omega⟩

set_option maxHeartbeats 800000 in
theorem highestNear_any (P : Nat → Nat) (RV : Nat → Value) (B n a : Nat) (t : List (Int × Int)) (far : Int) (w : World) (ht : Ahead t) (hn : n ≤ t.length) (hn7 : n ≤ 7) (hlk : LkN w B n P RV t) (ha : a < n) (hfar : (Lit.int .i64 far).wf = true) :
    Calls Try.prog 71 #[.pointer (some ⟨P a, 0, none⟩), .int .i64 far] w fun e w' => e = .returned (.pointer (some ⟨P (clmC t (dn t n) far a a a), 0, none⟩)) ∧ ∃ q, w' = w.drewN q := by
  have Hlk := Lib.hid hlk
  have hda := dn_bd ht n a 0 hn ha (by omega)
  obtain ⟨-, ca, -, -, -⟩ := hlk.cells ha
  obtain ⟨DA, HDA⟩ : ∃ x, Hid (dn t n a 0 = x) := ⟨_, rfl⟩
  rw [HDA.out] at hda ca
  obtain ⟨Z, HZ⟩ : ∃ z, Hid (clmC t (dn t n) far a a a = z) := ⟨_, rfl⟩
  rw [HZ.out]
  clear hlk
  go_enter Try.func71, Try.ntmps71
  go_wp2
  go_loopg [5] a (fun f s wr => ∃ sp q : Nat, sp ≤ f ∧ s = .pointer (some ⟨P sp, 0, none⟩) ∧ Hid (OnWay t n a sp) ∧ Hid (Z = clmC t (dn t n) far a f sp) ∧ wr = w.drewN q)
  case atStart => exact ⟨a, 0, Nat.le_refl _, rfl, onWay_self t ha, HZ.out.symm, rfl⟩
  case round =>
    obtain ⟨sp, q, hsf, rfl, HW, HZ2, rfl⟩ := hrel
    have hspn : sp < n := by have := HW.out.1; omega
    obtain ⟨-, -, cu, -, -⟩ := Hlk.out.cells hspn
    by_cases hs0 : 0 < sp
    · have hto := (ht sp hs0 (by omega)).1
      obtain ⟨p, Hp⟩ : ∃ p, Hid (tto t sp = p) := ⟨_, rfl⟩
      have cu' : w.cell? ⟨P sp, 2, none⟩ = some (.pointer (some ⟨P p, 0, none⟩)) := by
        rw [cu]; unfold upv; rw [if_neg (by omega), Hp.out]; rfl
      have hpn : p < n := by have := Hp.out; omega
      obtain ⟨-, cd, -, -, -⟩ := Hlk.out.cells hpn
      have hw := Lib.hid (onWay_up ht hn ha hs0 HW.out)
      rw [Hp.out] at hw
      have hdp := dn_bd ht n p 0 hn hpn (by omega)
      obtain ⟨DP, HDP⟩ : ∃ x, Hid (dn t n p 0 = x) := ⟨_, rfl⟩
      rw [HDP.out] at hdp cd
      have hway : dn t n a p = DA - DP := by rw [← HDA.out, ← HDP.out]; exact hw.out.2.2
      clear cu
      by_cases hc : DA - DP ≤ far
      · obtain ⟨f', rfl⟩ : ∃ f', gk = f' + 1 := ⟨gk - 1, by omega⟩
        have HZ' := Lib.hid (show Z = clmC t (dn t n) far a f' p by rw [HZ2.out, clmC_up ⟨hs0, by rw [Hp.out, hway]; exact hc⟩, Hp.out])
        have hpf : p ≤ f' := by have := Hp.out; omega
        clear hto hway
        go_wp2
        go_quiet (fail)
        go_wp2
        go_roundg f'
        case rel => exact ⟨p, _, hpf, rfl, hw, HZ', rfl⟩
        case measure => omega
      · have HZ' := Lib.hid (show Z = sp by rw [HZ2.out, clmC_stop (by rintro ⟨_, h⟩; rw [Hp.out, hway] at h; exact hc h)])
        clear hto hway
        go_wp2
        go_quiet (fail)
        go_wp2
        go_ret
        exact ⟨by rw [HZ'.out]; rfl, _, World.drewN_drewN _ _ _⟩
    · have HZ' := Lib.hid (show Z = sp by rw [HZ2.out, clmC_stop (by rintro ⟨h, _⟩; exact hs0 h)])
      have cu' : w.cell? ⟨P sp, 2, none⟩ = some (.pointer none) := by
        rw [cu]; unfold upv; rw [if_pos (by omega)]
      clear cu
      go_wp2
      go_quiet (fail)
      go_wp2
      go_ret
      exact ⟨by rw [HZ'.out]; rfl, _, World.drewN_drewN _ _ _⟩
end Go.Proofs.Ytggpdlcompokoaa
