/-
  slices.BinarySearch at a list of places in order: where one more goes in.
  Conditions: at most a hundred places, each at most a hundred.
-/
import Derived.Test.Ythphboeboiallaa0J
namespace Go.Proofs.Ythphboeboiallaa
open Go.ChangeShapes Go.WideShapes Go.ChangeAt Go.RowKit
set_option linter.unusedVariables false
set_option maxRecDepth 4000

theorem ascS_mem {p : Nat} : ∀ {ss : List Nat} {a : Nat}, ascS a ss = true → p ≤ a → ∀ s ∈ ss, p ≤ s
  | [], _, _, _, s, hs => by cases hs
  | t :: r, a, h, hp, s, hs => by
    simp only [ascS, Bool.and_eq_true, decide_eq_true_eq] at h
    rcases List.mem_cons.1 hs with rfl | hs
    · omega
    · exact ascS_mem (a := t) h.2 (by omega) s hs
theorem kS_below : ∀ {ss : List Nat} {p t : Nat}, t < kS ss p → ss.getD t 0 < p
  | [], _, _, h => by simp [kS] at h
  | s :: r, p, t, h => by
    simp only [kS] at h
    by_cases hs : s < p
    · rw [if_pos hs] at h
      cases t with
      | zero => simpa [List.getD] using hs
      | succ t =>
        have := kS_below (ss := r) (p := p) (t := t) (by omega)
        simpa [List.getD] using this
    · rw [if_neg hs] at h; omega
theorem kS_from : ∀ {ss : List Nat} {a p t : Nat}, ascS a ss = true → kS ss p ≤ t → t < ss.length → p ≤ ss.getD t 0
  | [], _, _, _, _, _, h => by simp at h
  | s :: r, a, p, t, ha, h, hl => by
    simp only [kS] at h
    by_cases hs : s < p
    · rw [if_pos hs] at h
      simp only [ascS, Bool.and_eq_true, decide_eq_true_eq] at ha
      cases t with
      | zero => omega
      | succ t =>
        have := kS_from (ss := r) (a := s) (p := p) (t := t) ha.2 (by omega) (by simpa using hl)
        simpa [List.getD] using this
    · have hall := ascS_mem (p := p) (ss := s :: r) (a := p) (by
        simp only [ascS, Bool.and_eq_true, decide_eq_true_eq] at ha ⊢
        exact ⟨by omega, ha.2⟩) (Nat.le_refl _)
      exact hall _ (getDN_mem hl)
def BsPost (k : Nat) (w : World) (e : Ending) (w' : World) : Prop := ∃ b, e = .returned (.tuple #[.int .i64 ((k : Nat) : Int), .bool b]) ∧ w = w'
def BsRel (ss : List Nat) (p m : Nat) (a b : Value) : Prop := ∃ i j : Nat, a = .int .i64 i ∧ b = .int .i64 j ∧ i ≤ j ∧ j ≤ m ∧ Hid (i ≤ kS ss p ∧ kS ss p ≤ j)
set_option maxHeartbeats 800000 in
theorem bsearch_any (A : Option Addr) (c m p : Nat) (ss : List Nat) (w : World) (B : Nat) (hr : RdI w B A (cI ss)) (hm : ss.length = m) (hm4 : m ≤ 100) (ha : ascS 0 ss = true) (hp : p ≤ 100) :
    Calls Try.prog 70 #[.slice A m c, .int .i64 (p : Int)] w (BsPost (kS ss p) w) := by
  have Hm := Lib.hid hm
  have Hr := Lib.hid hr
  have Hlo := Lib.hid (fun t (h : t < kS ss p) => kS_below h)
  have Hhi := Lib.hid (fun t (h : kS ss p ≤ t) (hl : t < ss.length) => kS_from ha h hl)
  have hk := kS_le ss p
  rw [hm] at hk
  have Hk := Lib.hid hk
  obtain ⟨K, HK⟩ : ∃ K, Hid (kS ss p = K) := ⟨_, rfl⟩
  clear hm hr ha hk
  rw [HK.out]
  go_enter Try.func70, Try.ntmps70
  go_wp2
  go_loop [7, 8] (fun a b => BsRel ss p m a b) (fun a b => (intOf b).toNat - (intOf a).toNat)
  case atStart => exact ⟨0, m, rfl, rfl, Nat.zero_le _, Nat.le_refl _, Nat.zero_le _, Hk.out⟩
  case round =>
    obtain ⟨i, j, rfl, rfl, hij, hjm, HI⟩ := hrel
    by_cases hlt : i < j
    · obtain ⟨h, Hh⟩ : ∃ h, Hid ((i + j) / 2 = h) := ⟨_, rfl⟩
      have hh1 : i ≤ h := by have := Hh.out; omega
      have hh2 : h < j := by have := Hh.out; omega
      have e1 : IntKind.u64.wrap ((i : Int) + (j : Int)) = (i : Int) + (j : Int) := by rw [IntKind.wrap_u64]; omega
      have e2 : ((i : Int) + (j : Int)) / 2 = (h : Int) := by have := Hh.out; omega
      have e3 : IntKind.u64.wrap (h : Int) = (h : Int) := by rw [IntKind.wrap_u64]; omega
      have e4 : IntKind.i64.wrap (h : Int) = (h : Int) := IntWalk.i64_in _ (by omega)
      have e5 : IntKind.i64.wrap ((i : Int) + (j : Int)) = (i : Int) + (j : Int) := IntWalk.i64_in _ (by omega)
      obtain ⟨b, off, s, rfl, hbw, Hs, hc⟩ := Hr.out.q (k := h) (by rw [Hm.out]; omega)
      have hne : ∀ x : Int, (x != x) = false := fun x => by simp
      by_cases hsp : s < p
      · have HI2 : Hid (h + 1 ≤ kS ss p ∧ kS ss p ≤ j) := by
          refine ⟨?_, HI.out.2⟩
          rcases Nat.lt_or_ge h (kS ss p) with h1 | h1
          · exact h1
          · have := Hhi.out h h1 (by rw [Hm.out]; omega)
            rw [Hs.out] at this; omega
        go_wp2
        go_round
        case rel => exact ⟨h + 1, j, by go_num, rfl, by omega, hjm, HI2⟩
        case measure => simp [intOf]; omega
      · have HI2 : Hid (i ≤ kS ss p ∧ kS ss p ≤ h) := by
          refine ⟨HI.out.1, ?_⟩
          rcases Nat.lt_or_ge h (kS ss p) with h1 | h1
          · have := Hlo.out h h1
            rw [Hs.out] at this; omega
          · exact h1
        go_wp2
        go_round
        case rel => exact ⟨i, h, rfl, rfl, hh1, by omega, HI2⟩
        case measure => simp [intOf]; omega
    · obtain rfl : i = j := by omega
      have hiK : i = K := by have := HI.out; have := HK.out; omega
      by_cases him : i < m
      · obtain ⟨b, off, s, rfl, hbw, Hs, hc⟩ := Hr.out.q (k := i) (by rw [Hm.out]; exact him)
        have hne : ∀ x : Int, (x != x) = false := fun x => by simp
        by_cases hsp : s = p
        · have ht : ((s : Int) == (p : Int)) = true := by rw [beq_iff_eq]; omega
          subst hiK
          clear hsp
          go_wp2
          go_ret2
          exact ⟨_, rfl, rfl⟩
        · have ht : ((s : Int) == (p : Int)) = false := by rw [beq_eq_false_iff_ne]; omega
          subst hiK
          clear hsp
          go_wp2
          go_ret2
          exact ⟨_, rfl, rfl⟩
      · subst hiK
        go_wp2
        go_ret2
        exact ⟨_, rfl, rfl⟩
end Go.Proofs.Ythphboeboiallaa
