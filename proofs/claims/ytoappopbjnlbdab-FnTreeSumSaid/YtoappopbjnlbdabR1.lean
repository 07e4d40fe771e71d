/-
  Words for slices of roads: two cells an element, To and Long.
  Conditions: none beyond what each theorem states.
-/
import Derived.Test.YtoappopbjnlbdabT1
namespace Go.Proofs.Ytoappopbjnlbdab
open Go.ChangeShapes Go.WideShapes Go.ChangeAt Go.RowKit
set_option linter.unusedVariables false

/-- The roads as the cells hold them. -/
def flat : List (Int × Int) → List Int
  | [] => []
  | p :: r => p.1 :: p.2 :: flat r
theorem flat_len : ∀ ts, (flat ts).length = ts.length * 2
  | [] => rfl
  | p :: r => by simp only [flat, List.length_cons, flat_len r]; omega
theorem flat_to : ∀ (ts : List (Int × Int)) k, k < ts.length → (flat ts).getD (k * 2) 0 = (ts.getD k (-1, 0)).1
  | [], k, h => by simp at h
  | p :: r, 0, h => rfl
  | p :: r, k + 1, h => by
    rw [show (k + 1) * 2 = k * 2 + 1 + 1 by omega]
    simp only [flat, List.getD_cons_succ]
    exact flat_to r k (by simpa using h)
theorem flat_long : ∀ (ts : List (Int × Int)) k, k < ts.length → (flat ts).getD (k * 2 + 1) 0 = (ts.getD k (-1, 0)).2
  | [], k, h => by simp at h
  | p :: r, 0, h => rfl
  | p :: r, k + 1, h => by
    rw [show (k + 1) * 2 + 1 = k * 2 + 1 + 1 + 1 by omega]
    simp only [flat, List.getD_cons_succ]
    exact flat_long r k (by simpa using h)
theorem flat_append : ∀ a b, flat (a ++ b) = flat a ++ flat b
  | [], b => rfl
  | p :: r, b => by simp [flat, flat_append r b]
theorem flat_set0 : ∀ (ts : List (Int × Int)) (k : Nat) {d : Int}, k < ts.length → flat (ts.set k (d, (ts.getD k (-1, 0)).2)) = (flat ts).set (k * 2) d
  | [], k, _, h => by simp at h
  | p :: r, 0, _, h => rfl
  | p :: r, k + 1, d, h => by
    rw [show (k + 1) * 2 = k * 2 + 1 + 1 by omega]
    simp only [List.set_cons_succ, flat, List.getD_cons_succ]
    rw [flat_set0 r k (by simpa using h)]
theorem flat_set1 : ∀ (ts : List (Int × Int)) (k : Nat) {d : Int}, k < ts.length → flat (ts.set k ((ts.getD k (-1, 0)).1, d)) = (flat ts).set (k * 2 + 1) d
  | [], k, _, h => by simp at h
  | p :: r, 0, _, h => rfl
  | p :: r, k + 1, d, h => by
    rw [show (k + 1) * 2 + 1 = k * 2 + 1 + 1 + 1 by omega]
    simp only [List.set_cons_succ, flat, List.getD_cons_succ]
    rw [flat_set1 r k (by simpa using h)]
/-- The slice with address A reads as the roads ts, below block B. -/
def RdR (w : World) (B : Nat) (A : Option Addr) (ts : List (Int × Int)) : Prop := RdI w B A (flat ts)
theorem RdR.x {w : World} {B : Nat} {A : Option Addr} {ts : List (Int × Int)} (h : RdR w B A ts) {k : Nat} (hk : k < ts.length) :
    ∃ b off x y, A = some ⟨b, off, none⟩ ∧ b < B ∧ Hid (ts.getD k (-1, 0) = (x, y)) ∧ w.cell? ⟨b, off + k * 2, none⟩ = some (.int .i64 x) ∧ w.cell? ⟨b, off + k * 2 + 1, none⟩ = some (.int .i64 y) := by
  have hl := flat_len ts
  obtain ⟨b, off, e, hb, hc⟩ := h (by omega)
  refine ⟨b, off, (ts.getD k (-1, 0)).1, (ts.getD k (-1, 0)).2, e, hb, rfl, ?_, ?_⟩
  · rw [hc _ (by omega), flat_to _ _ hk]
  · rw [Nat.add_assoc, hc _ (by omega), flat_long _ _ hk]
theorem RdR.keep {w w' : World} {B : Nat} {A : Option Addr} {ts : List (Int × Int)} (h : RdR w B A ts) (hk : ∀ p : Addr, p.block < B → w'.cell? p = w.cell? p) : RdR w' B A ts := RdI.keep h hk
theorem RdR.below {w w' : World} {B : Nat} {A : Option Addr} {ts : List (Int × Int)} (h : RdR w B A ts) (hb : Below B w w') : RdR w' B A ts := RdI.below h hb
theorem RdR.more {w : World} {B B' : Nat} {A : Option Addr} {ts : List (Int × Int)} (h : RdR w B A ts) (hB : B ≤ B') : RdR w B' A ts := RdI.more h hB
theorem RdR.drewN {w : World} {B : Nat} {A : Option Addr} {ts : List (Int × Int)} (h : RdR w B A ts) (n : Nat) : RdR (w.drewN n) B A ts := h
theorem RdR.nil (w : World) (B : Nat) (A : Option Addr) : RdR w B A [] := RdI.nil w B A
/-- A slice cut at its front. -/
theorem flat_drop : ∀ (ts : List (Int × Int)) k, flat (ts.drop k) = (flat ts).drop (k * 2)
  | [], k => by simp [flat]
  | p :: r, 0 => by simp
  | p :: r, k + 1 => by
    rw [List.drop_succ_cons, flat_drop r k, show (k + 1) * 2 = k * 2 + 1 + 1 by omega]
    simp [flat]
theorem flat_take : ∀ (ts : List (Int × Int)) k, flat (ts.take k) = (flat ts).take (k * 2)
  | [], k => by simp [flat]
  | p :: r, 0 => by simp [flat]
  | p :: r, k + 1 => by
    rw [show (k + 1) * 2 = k * 2 + 1 + 1 by omega]
    simp [flat, flat_take r k]
theorem RdR.take {w : World} {B : Nat} {A : Option Addr} {ts : List (Int × Int)} (h : RdR w B A ts) (k : Nat) : RdR w B A (ts.take k) := by
  intro hp
  rw [flat_take] at hp ⊢
  rw [List.length_take] at hp
  obtain ⟨b, off, e, hb, hc⟩ := h (by omega)
  refine ⟨b, off, e, hb, fun i hi => ?_⟩
  rw [List.length_take] at hi
  rw [hc i (by omega)]
  congr 2
  simp only [List.getD, List.getElem?_take]
  rw [if_pos (by omega)]

/-- One road of a node: to a node ahead, its length in 1..9. -/
def okRoad (i : Nat) (p : Int × Int) : Bool := decide (0 ≤ p.1) && (decide (p.1 < i) && (decide (1 ≤ p.2) && decide (p.2 ≤ 9)))
def okFromT : Nat → List (Int × Int) → Bool
  | _, [] => true
  | i, p :: r => okRoad i p && okFromT (i + 1) r
/-- ValidTree. -/
def vt (ts : List (Int × Int)) : Bool := decide (ts.length ≤ 7) && (match ts with | [] => false | p :: r => (decide (p.1 = -1) && decide (p.2 = 0)) && okFromT 1 r)
theorem okFromT_get : ∀ {r : List (Int × Int)} {i : Nat}, okFromT i r = true → ∀ k, k < r.length → okRoad (i + k) (r.getD k (-1, 0)) = true
  | [], _, _, k, hk => by simp at hk
  | p :: r, i, h, 0, hk => by simp only [okFromT, Bool.and_eq_true] at h; exact h.1
  | p :: r, i, h, k + 1, hk => by
    simp only [okFromT, Bool.and_eq_true] at h
    have := okFromT_get h.2 k (by simpa using hk)
    rw [show i + 1 + k = i + (k + 1) by omega] at this
    exact this
theorem okFromT_of : ∀ {r : List (Int × Int)} {i : Nat}, (∀ k, k < r.length → okRoad (i + k) (r.getD k (-1, 0)) = true) → okFromT i r = true
  | [], _, _ => rfl
  | p :: r, i, h => by
    simp only [okFromT, Bool.and_eq_true]
    refine ⟨h 0 (by simp), okFromT_of fun k hk => ?_⟩
    have := h (k + 1) (by simpa using hk)
    rw [show i + (k + 1) = i + 1 + k by omega] at this
    exact this
theorem vt_iff (ts : List (Int × Int)) : vt ts = true ↔ 1 ≤ ts.length ∧ ts.length ≤ 7 ∧ (ts.getD 0 (-1, 0)).1 = -1 ∧ (ts.getD 0 (-1, 0)).2 = 0 ∧ ∀ k, 1 ≤ k → k < ts.length → okRoad k (ts.getD k (-1, 0)) = true := by
  cases ts with
  | nil => simp [vt]
  | cons p r =>
    simp only [vt, Bool.and_eq_true, decide_eq_true_eq, List.length_cons, List.getD_cons_zero]
    constructor
    · rintro ⟨h1, ⟨h2, h3⟩, h4⟩
      refine ⟨by omega, h1, h2, h3, fun k hk hl => ?_⟩
      obtain ⟨m, rfl⟩ : ∃ m, k = m + 1 := ⟨k - 1, by omega⟩
      have := okFromT_get h4 m (by omega)
      rw [show 1 + m = m + 1 by omega] at this
      simpa using this
    · rintro ⟨h0, h1, h2, h3, h4⟩
      refine ⟨h1, ⟨h2, h3⟩, okFromT_of fun k hk => ?_⟩
      have := h4 (k + 1) (by omega) (by omega)
      rw [show 1 + k = k + 1 by omega]
      simpa using this
theorem vt_ahead {ts : List (Int × Int)} (h : vt ts = true) : Ahead ts := by
  obtain ⟨h1, h2, h3, h4, h5⟩ := (vt_iff ts).1 h
  intro i hi hl
  have := h5 i hi hl
  simp only [okRoad, Bool.and_eq_true, decide_eq_true_eq] at this
  unfold tto tlg
  omega
theorem vt_to {ts : List (Int × Int)} (h : vt ts = true) {i : Nat} (hi : 1 ≤ i) (hl : i < ts.length) : (ts.getD i (-1, 0)).1 = tto ts i := by
  obtain ⟨h1, h2, h3, h4, h5⟩ := (vt_iff ts).1 h
  have := h5 i hi hl
  simp only [okRoad, Bool.and_eq_true, decide_eq_true_eq] at this
  unfold tto
  omega
/-- Fewer nodes are a tree. -/
theorem vt_take {ts : List (Int × Int)} (h : vt ts = true) {k : Nat} (hk : 1 ≤ k) : vt (ts.take k) = true := by
  obtain ⟨h1, h2, h3, h4, h5⟩ := (vt_iff ts).1 h
  have hg : ∀ i, i < k → (ts.take k).getD i (-1, 0) = ts.getD i (-1, 0) := fun i hi => by
    simp only [List.getD, List.getElem?_take]; rw [if_pos hi]
  rw [vt_iff]
  rw [List.length_take, hg 0 (by omega)]
  refine ⟨by omega, by omega, h3, h4, fun i hi hl => ?_⟩
  rw [hg i (by omega)]
  exact h5 i hi (by omega)
theorem vt_no_len {ts : List (Int × Int)} (h : ts.length < 1 ∨ 7 < ts.length) : vt ts = false := by
  rw [Bool.eq_false_iff]; intro h'
  obtain ⟨h1, h2, -⟩ := (vt_iff ts).1 h'
  omega
theorem vt_no_head {ts : List (Int × Int)} {x y : Int} (hx : ts.getD 0 (-1, 0) = (x, y)) (h : x ≠ -1 ∨ y ≠ 0) : vt ts = false := by
  rw [Bool.eq_false_iff]; intro h'
  obtain ⟨h1, h2, h3, h4, -⟩ := (vt_iff ts).1 h'
  rw [hx] at h3 h4
  simp only at h3 h4
  omega
theorem vt_no_at {ts : List (Int × Int)} {k : Nat} {x y : Int} (hk : 1 ≤ k) (hl : k < ts.length) (hx : ts.getD k (-1, 0) = (x, y)) (h : x < 0 ∨ (k : Int) ≤ x ∨ y < 1 ∨ 9 < y) : vt ts = false := by
  rw [Bool.eq_false_iff]; intro h'
  obtain ⟨h1, h2, h3, h4, h5⟩ := (vt_iff ts).1 h'
  have := h5 k hk hl
  rw [hx] at this
  simp only [okRoad, Bool.and_eq_true, decide_eq_true_eq] at this
  omega
/-- So far, all roads are fine. -/
def OkT (ts : List (Int × Int)) (k : Nat) : Prop := ∀ i, 1 ≤ i → i < k → okRoad i (ts.getD i (-1, 0)) = true
theorem OkT.step {ts : List (Int × Int)} {k : Nat} {x y : Int} (h : OkT ts k) (hx : ts.getD k (-1, 0) = (x, y)) (h1 : 0 ≤ x) (h2 : x < k) (h3 : 1 ≤ y) (h4 : y ≤ 9) : OkT ts (k + 1) := fun i hi hl => by
  by_cases e : i = k
  · subst e; rw [hx]; simp [okRoad, h1, h2, h3, h4]
  · exact h i hi (by omega)
theorem OkT.one (ts : List (Int × Int)) : OkT ts 1 := fun i h1 h2 => by omega
theorem OkT.step0 {ts : List (Int × Int)} (h : OkT ts 0) : OkT ts 1 := OkT.one ts
theorem vt_yes {ts : List (Int × Int)} {k : Nat} (h : OkT ts k) (h1 : 1 ≤ ts.length) (h7 : ts.length ≤ 7) (hk : ts.length ≤ k) (h0 : ts.getD 0 (-1, 0) = (-1, 0)) : vt ts = true :=
  (vt_iff ts).2 ⟨h1, h7, by rw [h0], by rw [h0], fun i hi hl => h i hi (by omega)⟩
end Go.Proofs.Ytoappopbjnlbdab
