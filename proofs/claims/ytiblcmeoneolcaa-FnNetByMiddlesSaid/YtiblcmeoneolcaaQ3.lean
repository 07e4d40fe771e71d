/-
  The model's choices are the ascending lists; what NetFar answers over them.
  Conditions: as each theorem states.
-/
import Derived.Test.YtiblcmeoneolcaaQ2
import Derived.Test.YtiblcmeoneolcaaS4
namespace Go.Proofs.Ytiblcmeoneolcaa
open Go.ChangeShapes Go.WideShapes Go.ChangeAt Go.RowKit
set_option linter.unusedVariables false

/-- Ascending lists of k numbers from f on, below to. -/
def AscI (f to k : Nat) (J : List Nat) : Prop := J.Pairwise (· < ·) ∧ (∀ i ∈ J, f ≤ i ∧ i < to) ∧ J.length = k
theorem chd_mem (to : Nat) : ∀ k d, d ≤ to → ∀ l, l ∈ chd to k d ↔ ∃ J, l = J.map Int.ofNat ∧ AscI (to - d) to k J
  | 0, d, hd, l => by
    simp only [chd, List.mem_singleton]
    constructor
    · rintro rfl
      exact ⟨[], rfl, List.Pairwise.nil, (fun i hi => by cases hi), rfl⟩
    · rintro ⟨J, rfl, _, _, h⟩
      rw [List.length_eq_zero_iff.1 h]; rfl
  | k + 1, d, hd, l => by
    show l ∈ chs (chd to k) to d ↔ _
    induction d with
    | zero =>
      simp only [chs, List.not_mem_nil, false_iff]
      rintro ⟨J, _, _, h2, h3⟩
      cases J with
      | nil => simp at h3
      | cons j J => have := h2 j (by simp); omega
    | succ d ih =>
      simp only [chs, List.mem_append, List.mem_map]
      rw [ih (by omega)]
      constructor
      · rintro (⟨l', h1, rfl⟩ | ⟨J, rfl, h1, h2, h3⟩)
        · obtain ⟨J, rfl, h2, h3, h4⟩ := (chd_mem to k d (by omega) l').1 h1
          refine ⟨(to - (d + 1)) :: J, rfl, List.pairwise_cons.2 ⟨fun i hi => by have := h3 i hi; omega, h2⟩, fun i hi => ?_, by simp [h4]⟩
          rcases List.mem_cons.1 hi with rfl | hi
          · omega
          · have := h3 i hi; omega
        · exact ⟨J, rfl, h1, fun i hi => by have := h2 i hi; omega, h3⟩
      · rintro ⟨J, rfl, h1, h2, h3⟩
        cases J with
        | nil => simp at h3
        | cons j J =>
          obtain ⟨h4, h5⟩ := List.pairwise_cons.1 h1
          have hj := h2 j (by simp)
          by_cases e : j = to - (d + 1)
          · subst e
            refine .inl ⟨J.map Int.ofNat, (chd_mem to k d (by omega) _).2 ⟨J, rfl, h5, fun i hi => ?_, by simpa using h3⟩, rfl⟩
            have := h4 i hi
            have := h2 i (by simp [hi])
            omega
          · refine .inr ⟨j :: J, rfl, h1, fun i hi => ?_, h3⟩
            rcases List.mem_cons.1 hi with rfl | hi
            · omega
            · have := h4 i hi
              have := h2 i (by simp [hi])
              omega
theorem toNat_ofNat (J : List Nat) : (J.map Int.ofNat).map Int.toNat = J := by
  rw [List.map_map]
  have : Int.toNat ∘ Int.ofNat = id := by funext i; rfl
  rw [this, List.map_id]
theorem ascI_zero {to k : Nat} {J : List Nat} : AscI (to - to) to k J ↔ Asc to k J := by
  unfold AscI Asc
  rw [Nat.sub_self]
  exact ⟨fun ⟨h1, h2, h3⟩ => ⟨h1, fun i hi => (h2 i hi).2, h3⟩, fun ⟨h1, h2, h3⟩ => ⟨h1, fun i hi => ⟨Nat.zero_le _, h2 i hi⟩, h3⟩⟩
/-- How far it is with a choice. -/
def radI (d : Nat → Nat → Int) (n : Nat) (l : List Int) : Int := radL d (l.map Int.toNat) n
def nfar (d : Nat → Nat → Int) (n m : Nat) : Int := pkL (radI d n) (chd n m n) (-1)
theorem nfar_is (d : Nat → Nat → Int) (n m : Nat) : NfIs d n m (nfar d n m) := by
  have hmem : ∀ l, l ∈ chd n m n ↔ ∃ J, l = J.map Int.ofNat ∧ Asc n m J := fun l => by
    rw [chd_mem n m n (Nat.le_refl _)]
    constructor
    · rintro ⟨J, h1, h2⟩; exact ⟨J, h1, ascI_zero.1 h2⟩
    · rintro ⟨J, h1, h2⟩; exact ⟨J, h1, ascI_zero.2 h2⟩
  rcases pkL_cases (radI d n) (chd n m n) with ⟨h1, h2⟩ | ⟨h1, ⟨l, hl, h2⟩, h3⟩
  · refine .inl ⟨h1, fun J hJ => ?_⟩
    have := h2 _ ((hmem _).2 ⟨J, rfl, hJ⟩)
    unfold radI at this
    rwa [toNat_ofNat] at this
  · refine .inr ⟨h1, ?_, fun J hJ h0 => ?_⟩
    · obtain ⟨J, rfl, hJ⟩ := (hmem l).1 hl
      refine ⟨J, hJ, ?_⟩
      have : radI d n (J.map Int.ofNat) = nfar d n m := h2
      unfold radI at this
      rwa [toNat_ofNat] at this
    · have := h3 _ ((hmem _).2 ⟨J, rfl, hJ⟩)
      unfold radI at this
      rw [toNat_ofNat] at this
      exact this h0
/-- One step of a loop that picks the least one. -/
theorem pkL_take {α : Type} (f : α → Int) {L : List α} {t : Nat} {x : α} (h : L[t]? = some x) (acc : Int) : pkL f (L.take (t + 1)) acc = if 0 ≤ f x ∧ (pkL f (L.take t) acc < 0 ∨ f x < pkL f (L.take t) acc) then f x else pkL f (L.take t) acc := by
  obtain ⟨hlt, e⟩ := List.getElem?_eq_some_iff.1 h
  rw [List.take_succ_eq_append_getElem hlt, pkL_append, e]
  rfl
theorem pkL_yes {α : Type} {f : α → Int} {L : List α} {t : Nat} {x : α} {acc p y : Int} (h : L[t]? = some x) (hp : pkL f (L.take t) acc = p) (hy : f x = y) (h0 : 0 ≤ y) (hc : p < 0 ∨ y < p) : pkL f (L.take (t + 1)) acc = y := by
  rw [pkL_take f h, hp, hy, if_pos ⟨h0, hc⟩]
theorem pkL_no {α : Type} {f : α → Int} {L : List α} {t : Nat} {x : α} {acc p y : Int} (h : L[t]? = some x) (hp : pkL f (L.take t) acc = p) (hy : f x = y) (hc : ¬ (0 ≤ y ∧ (p < 0 ∨ y < p))) : pkL f (L.take (t + 1)) acc = p := by
  rw [pkL_take f h, hp, hy, if_neg hc]
theorem rad_stay {d : Nat → Nat → Int} {L : List Nat} {v : Nat} (h : radL d L v < 0) : ∀ m, v ≤ m → radL d L m = radL d L v := by
  intro m hm
  induction m with
  | zero => have : v = 0 := by omega
            subst this; rfl
  | succ m ih =>
    by_cases e : v = m + 1
    · subst e; rfl
    · have := ih (by omega)
      simp only [radL]
      rw [this, if_pos h]
theorem rad_none {d : Nat → Nat → Int} {L : List Nat} {v : Nat} {f y : Int} (h : radL d L v = f) (h0 : 0 ≤ f) (hy : wy d v L = y) (hn : y < 0) : radL d L (v + 1) = -1 := by
  simp only [radL]
  rw [h, if_neg (by omega), hy, if_pos hn]
theorem rad_some {d : Nat → Nat → Int} {L : List Nat} {v : Nat} {f y : Int} (h : radL d L v = f) (h0 : 0 ≤ f) (hy : wy d v L = y) (hn : 0 ≤ y) : radL d L (v + 1) = max f y := by
  simp only [radL]
  rw [h, if_neg (by omega), hy, if_neg (by omega)]
theorem pkL_low {α : Type} (f : α → Int) {L : List α} : -1 ≤ pkL f L (-1) := by
  rcases pkL_cases f L with ⟨h, _⟩ | ⟨h, _⟩ <;> omega
theorem pkL_high {α : Type} {f : α → Int} {L : List α} {b : Int} (hb : 0 ≤ b) (h : ∀ x ∈ L, f x ≤ b) : pkL f L (-1) ≤ b := by
  rcases pkL_cases f L with ⟨h1, _⟩ | ⟨_, ⟨x, hx, h1⟩, _⟩
  · omega
  · have := h x hx; omega
end Go.Proofs.Ytiblcmeoneolcaa
