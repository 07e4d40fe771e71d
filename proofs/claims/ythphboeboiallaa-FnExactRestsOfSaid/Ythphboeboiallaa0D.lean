/-
  Shops: what the facts looked up say.
  Conditions: as each theorem states.
-/
import Derived.Test.Ythphboeboiallaa0B
namespace Go.Proofs.Ythphboeboiallaa
open Go.ChangeShapes Go.WideShapes Go.ChangeAt Go.RowKit
set_option linter.unusedVariables false
set_option maxRecDepth 4000

theorem Sh.rev {n : Nat} {ss : List Nat} (h : Sh n ss) : Sh n (revS n ss) := by
  have ha := h.all allA
  simp only [chkA, Bool.and_eq_true] at ha
  have h1 := h.n1
  refine ⟨h.n1, h.n9, by rw [revS_length]; exact h.l1, by rw [revS_length]; exact h.l4, ?_, ha.1.1⟩
  intro s hs
  simp only [revS, List.mem_map] at hs
  obtain ⟨t, -, rfl⟩ := hs
  omega
theorem Sh.total {n : Nat} {ss : List Nat} (h : Sh n ss) : (shL n ss).sum = 12 * n := by
  have ha := h.all allA
  simp only [chkA, Bool.and_eq_true, beq_iff_eq] at ha
  exact ha.1.2
theorem Sh.turned {n : Nat} {ss : List Nat} (h : Sh n ss) : shL n (revS n ss) = (shL n ss).reverse := by
  have ha := h.all allA
  simp only [chkA, Bool.and_eq_true, beq_iff_eq] at ha
  exact ha.2
theorem Sh.ins {n : Nat} {ss : List Nat} (h : Sh n ss) (h4 : ss.length ≠ 4) {p : Nat} (hp : p < n) : Sh n (insS ss p) ∧ 0 < adS n ss p := by
  have hb := h.all allB
  simp only [chkB, Bool.or_eq_true, beq_iff_eq, h4, false_or, List.all_eq_true, List.mem_range, Bool.and_eq_true, decide_eq_true_eq] at hb
  have hl := h.l4
  have hl1 := h.l1
  refine ⟨⟨h.n1, h.n9, by rw [insS_length]; omega, by rw [insS_length]; omega, ?_, (hb p hp).1⟩, (hb p hp).2⟩
  intro s hs
  have := (insS_perm ss p).mem_iff.1 hs
  rcases List.mem_append.1 this with h1 | h1
  · exact h.lt s h1
  · rw [List.mem_singleton.1 h1]; exact hp
theorem Sh.others {n : Nat} {ss : List Nat} (h : Sh n ss) (h2 : 2 ≤ ss.length) {i : Nat} (hi : i < ss.length) : Sh n (otS ss i) := by
  have hc := h.all allC
  simp only [chkC, Bool.or_eq_true, beq_iff_eq, List.all_eq_true, List.mem_range] at hc
  rcases hc with hc | hc
  · omega
  have hl := h.l4
  refine ⟨h.n1, h.n9, by rw [otS_length hi]; omega, by rw [otS_length hi]; omega, ?_, hc i hi⟩
  intro s hs
  rcases List.mem_append.1 hs with h1 | h1
  · exact h.lt s (List.mem_of_mem_take h1)
  · exact h.lt s (List.mem_of_mem_drop h1)
theorem Sh.rest_two {n : Nat} {ss : List Nat} (h : Sh n ss) (h2 : ss.length = 2) : rstS n ss = (decide ((n - 1) / 2 ≤ ss.getD 0 0) && decide (ss.getD 1 0 ≤ n / 2)) := by
  have hd := h.all allD
  simp only [chkD, Bool.or_eq_true, decide_eq_true_eq, Bool.and_eq_true, beq_iff_eq] at hd
  rcases hd with hd | ⟨hd | hd, -⟩
  · omega
  · exact absurd h2 hd
  · exact hd
theorem Sh.rest_rev {n : Nat} {ss : List Nat} (h : Sh n ss) (h2 : 2 ≤ ss.length) : rstS n (revS n ss) = rstS n ss := by
  have hd := h.all allD
  simp only [chkD, Bool.or_eq_true, decide_eq_true_eq, Bool.and_eq_true, beq_iff_eq] at hd
  rcases hd with hd | hd
  · omega
  · exact hd.2

theorem chnS_get : ∀ {L : List (List Nat)} {i : Nat}, chnS L = true → i + 1 < L.length → lsS (L.getD i []) (L.getD (i + 1) []) = true
  | [], i, _, h => by simp at h
  | [a], i, _, h => by simp at h
  | a :: b :: r, 0, hc, _ => by simp only [chnS, Bool.and_eq_true] at hc; exact hc.1
  | a :: b :: r, i + 1, hc, h => by
    simp only [chnS, Bool.and_eq_true] at hc
    have := chnS_get (L := b :: r) (i := i) hc.2 (by simpa using h)
    simpa [List.getD] using this
theorem chkR_at {n k : Nat} (h1 : 1 ≤ n) (h9 : n ≤ 9) (h2 : 2 ≤ k) (h4 : k ≤ 4) : chkR n k = true := by
  have h := allR
  simp only [List.all_eq_true, List.mem_range] at h
  have := h (n - 1) (by omega) (k - 2) (by omega)
  rwa [show n - 1 + 1 = n by omega, show k - 2 + 2 = k by omega] at this
theorem rsS_chain {n k : Nat} (h1 : 1 ≤ n) (h9 : n ≤ 9) (h2 : 2 ≤ k) (h4 : k ≤ 4) {i : Nat} (hi : i + 1 < (rsS n k).length) : lsS ((rsS n k).getD i []) ((rsS n k).getD (i + 1) []) = true := by
  have h := chkR_at h1 h9 h2 h4
  simp only [chkR, Bool.and_eq_true] at h
  exact chnS_get h.1.1 hi
theorem rsS_two {n : Nat} (h1 : 1 ≤ n) (h9 : n ≤ 9) : (rsS n 2).length = 3 - 2 * (n % 2) := by
  have h := chkR_at h1 h9 (k := 2) (by omega) (by omega)
  simp only [chkR, Bool.and_eq_true, Bool.or_eq_true, beq_iff_eq, decide_eq_true_eq] at h
  simpa using h.1.2
theorem rsS_three {n : Nat} (h1 : 4 ≤ n) (h9 : n ≤ 9) {l : List Nat} (hl : l ∈ rsS n 3) : l.getD 0 0 ≠ l.getD 2 0 := by
  have h := chkR_at (by omega) h9 (k := 3) (by omega) (by omega)
  simp only [chkR, Bool.and_eq_true, Bool.or_eq_true, decide_eq_true_eq, List.all_eq_true, bne_iff_ne] at h
  rcases h.2 with h3 | h3
  · omega
  · exact h3 l hl
theorem rsS_mem {n k : Nat} (h1 : 1 ≤ n) (h9 : n ≤ 9) (h2 : 2 ≤ k) (h4 : k ≤ 4) {l : List Nat} (hl : l ∈ rsS n k) : Sh n l ∧ l.length = k ∧ rstS n l = true := by
  simp only [rsS, List.mem_filter] at hl
  have hm := lstS_mem.1 hl.1
  exact ⟨⟨h1, h9, by omega, by omega, hm.2.2, hm.2.1⟩, hm.1, hl.2⟩
theorem alone_at {n p : Nat} (h9 : n ≤ 9) (hp : p < n) : shL n [p] = [12 * n] ∧ shL n [p, p] = [6 * n, 6 * n] := by
  have h := alone_all
  simp only [List.all_eq_true, List.mem_range, Bool.and_eq_true, beq_iff_eq] at h
  exact h n (by omega) p hp
theorem sh_one {n p : Nat} (h9 : n ≤ 9) (hp : p < n) : Sh n [p] := ⟨by omega, h9, by simp, by simp, by simpa using hp, by simp [ascS]⟩
theorem sh_same {n p : Nat} (h9 : n ≤ 9) (hp : p < n) : Sh n [p, p] := ⟨by omega, h9, by simp, by simp, by simpa using hp, by simp [ascS]⟩
end Go.Proofs.Ythphboeboiallaa
