/-
  Shares as the program finds them: from near to far, house by house.
  Conditions: as each theorem states.
-/
import Derived.Test.Ythphboeboiallaa0A
namespace Go.Proofs.Ythphboeboiallaa
open Go.ChangeShapes Go.WideShapes Go.ChangeAt Go.RowKit
set_option linter.unusedVariables false
set_option maxRecDepth 4000

/-- Houses that are shared already: those with a nearer shop, and the first ones of those with one as far. -/
def dnS (ss : List Nat) (far h x : Nat) : Bool := decide (nrS ss x < far) || (decide (nrS ss x = far) && decide (x < h))
/-- What a place has of the first houses so far. -/
def prK (ss : List Nat) (far h s : Nat) : Nat → Nat
  | 0 => 0
  | x + 1 => prK ss far h s x + (if dnS ss far h x = true then ptS ss x s else 0)
theorem prK_congr {ss : List Nat} {far h far' h' s : Nat} : ∀ {n : Nat}, (∀ x, x < n → dnS ss far h x = dnS ss far' h' x) → prK ss far h s n = prK ss far' h' s n
  | 0, _ => rfl
  | n + 1, e => by simp only [prK]; rw [prK_congr (n := n) fun x hx => e x (by omega), e n (by omega)]
theorem dnQ_start (ss : List Nat) (x : Nat) : dnS ss 0 0 x = false := by simp [dnS]
theorem pr_start (ss : List Nat) (s : Nat) : ∀ n, prK ss 0 0 s n = 0
  | 0 => rfl
  | n + 1 => by simp only [prK]; rw [pr_start ss s n, dnQ_start]; rfl
theorem dnQ_next {ss : List Nat} {far n x : Nat} (hx : x < n) : dnS ss far n x = dnS ss (far + 1) 0 x := by
  rw [Bool.eq_iff_iff]; simp [dnS]; omega
theorem pr_next (ss : List Nat) (far s n : Nat) : prK ss far n s n = prK ss (far + 1) 0 s n := prK_congr fun x hx => dnQ_next hx
theorem dnQ_other {ss : List Nat} {far h x : Nat} (e : nrS ss h ≠ far) : dnS ss far (h + 1) x = dnS ss far h x := by
  rw [Bool.eq_iff_iff]
  simp only [dnS, Bool.or_eq_true, Bool.and_eq_true, decide_eq_true_eq]
  by_cases hx : x = h
  · subst hx; constructor <;> intro hh <;> omega
  · constructor <;> intro hh <;> omega
theorem pr_other {ss : List Nat} {far h s n : Nat} (e : nrS ss h ≠ far) : prK ss far (h + 1) s n = prK ss far h s n := prK_congr fun x _ => dnQ_other e
theorem dnQ_same {ss : List Nat} {far h : Nat} (e : nrS ss h = far) : dnS ss far h h = false ∧ dnS ss far (h + 1) h = true := by
  simp [dnS, e]
theorem dnQ_else {ss : List Nat} {far h x : Nat} (hx : x ≠ h) : dnS ss far (h + 1) x = dnS ss far h x := by
  rw [Bool.eq_iff_iff]
  simp only [dnS, Bool.or_eq_true, Bool.and_eq_true, decide_eq_true_eq]
  constructor <;> intro hh <;> omega
theorem pr_same {ss : List Nat} {far h s : Nat} (e : nrS ss h = far) : ∀ {n : Nat}, h < n → prK ss far (h + 1) s n = prK ss far h s n + ptS ss h s
  | n + 1, hh => by
    simp only [prK]
    by_cases hn : h = n
    · subst hn
      rw [(dnQ_same e).1, (dnQ_same e).2, prK_congr (far' := far) (h' := h) (fun x hx => dnQ_else (by omega))]
      simp
    · rw [pr_same e (n := n) (by omega), dnQ_else (show n ≠ h by omega)]
      omega
theorem pr_done {ss : List Nat} {far s : Nat} : ∀ {n : Nat}, (∀ x, x < n → dnS ss far 0 x = true) → prK ss far 0 s n = shK ss s n
  | 0, _ => rfl
  | n + 1, h => by simp only [prK, shK]; rw [pr_done (n := n) fun x hx => h x (by omega), h n (by omega)]; rfl
theorem prK_le (ss : List Nat) (far h s : Nat) : ∀ n, prK ss far h s n ≤ 12 * n
  | 0 => Nat.le_refl _
  | n + 1 => by have := prK_le ss far h s n; have := ptS_le ss n s; simp only [prK]; split <;> omega
theorem dnQ_far {n : Nat} {ss : List Nat} (h : Sh n ss) {x : Nat} (hx : x < n) : dnS ss n 0 x = true := by
  have := h.nr_lt hx
  simp [dnS]; exact this

/-- The indices of the shops that are just so far from a house. -/
def awS (ss : List Nat) (h far : Nat) : List Nat := (List.range ss.length).filter fun i => gpS (ss.getD i 0) h == far
/-- The first ones of them. -/
def awK (ss : List Nat) (h far : Nat) (k : Nat) : List Nat := (List.range k).filter fun i => gpS (ss.getD i 0) h == far
theorem awK_succ (ss : List Nat) (h far k : Nat) : awK ss h far (k + 1) = awK ss h far k ++ (if gpS (ss.getD k 0) h = far then [k] else []) := by
  unfold awK
  rw [List.range_succ, List.filter_append]
  congr 1
  by_cases e : gpS (ss.getD k 0) h = far
  · rw [if_pos e, List.filter_cons_of_pos (by rw [e]; exact beq_self_eq_true far), List.filter_nil]
  · rw [if_neg e, List.filter_cons_of_neg (by simpa using e), List.filter_nil]
theorem awS_mem {ss : List Nat} {h far i : Nat} : i ∈ awS ss h far ↔ i < ss.length ∧ gpS (ss.getD i 0) h = far := by simp [awS]
theorem awS_nodup (ss : List Nat) (h far : Nat) : (awS ss h far).Nodup := List.nodup_range.filter _
theorem awK_length_le (ss : List Nat) (h far k : Nat) : (awK ss h far k).length ≤ k := by
  have := List.length_filter_le (fun i => gpS (ss.getD i 0) h == far) (List.range k)
  rwa [List.length_range] at this
theorem range_getD (ss : List Nat) : (List.range ss.length).map (fun i => ss.getD i 0) = ss := by
  apply List.ext_getElem?
  intro i
  by_cases hi : i < ss.length
  · simp [hi, List.getD]
  · simp [hi]
theorem awS_length (ss : List Nat) (h far : Nat) : (awS ss h far).length = ctS ss h far := by
  unfold awS ctS
  rw [← List.countP_eq_length_filter]
  conv => rhs; rw [← range_getD ss]
  rw [List.countP_map]
  rfl
theorem awS_none {n : Nat} {ss : List Nat} (hs : Sh n ss) {h far : Nat} (hh : far < nrS ss h) : awS ss h far = [] := by
  rw [List.eq_nil_iff_forall_not_mem]
  intro i hi
  have hm := awS_mem.1 hi
  have := nrS_le (h := h) (getDN_mem hm.1)
  omega
theorem awS_some {n : Nat} {ss : List Nat} (hs : Sh n ss) {h : Nat} (hh : h < n) : 0 < (awS ss h (nrS ss h)).length := by
  obtain ⟨s, h1, e⟩ := nrS_at hs.n9 hh hs.ne hs.lt
  obtain ⟨i, hi, rfl⟩ := List.getElem_of_mem h1
  refine List.length_pos_iff.2 (List.ne_nil_of_mem (a := i) (awS_mem.2 ⟨hi, ?_⟩))
  simpa [List.getD, hi] using e
/-- The part of a house, by indices. -/
theorem ptS_at {ss : List Nat} {h far i : Nat} (e : nrS ss h = far) (hi : i < ss.length) : ptS ss h (ss.getD i 0) = if i ∈ awS ss h far then 12 / (awS ss h far).length else 0 := by
  unfold ptS
  rw [awS_length, e]
  by_cases hc : gpS (ss.getD i 0) h = far
  · rw [if_pos hc, if_pos (awS_mem.2 ⟨hi, hc⟩)]
  · rw [if_neg hc, if_neg fun hm => hc (awS_mem.1 hm).2]
end Go.Proofs.Ythphboeboiallaa
