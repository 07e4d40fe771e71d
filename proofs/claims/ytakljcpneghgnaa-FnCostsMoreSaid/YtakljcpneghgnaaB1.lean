/-
  Words for slices of streets: three cells an element, From, To and Long; what a valid net is.
  Conditions: none beyond what each theorem states.
-/
import Derived.Test.YtakljcpneghgnaaU2
namespace Go.Proofs.Ytakljcpneghgnaa
open Go.ChangeShapes Go.WideShapes Go.ChangeAt Go.RowKit
set_option linter.unusedVariables false

abbrev Str := Int × Int × Int
abbrev str0 : Str := (0, 0, 0)
/-- The streets as the cells hold them. -/
def flat3 : List Str → List Int
  | [] => []
  | p :: r => p.1 :: p.2.1 :: p.2.2 :: flat3 r
theorem flat3_len : ∀ ss, (flat3 ss).length = ss.length * 3
  | [] => rfl
  | p :: r => by simp only [flat3, List.length_cons, flat3_len r]; omega
theorem flat3_0 : ∀ (ss : List Str) k, k < ss.length → (flat3 ss).getD (k * 3) 0 = (ss.getD k str0).1
  | [], k, h => by simp at h
  | p :: r, 0, h => rfl
  | p :: r, k + 1, h => by
    rw [show (k + 1) * 3 = k * 3 + 1 + 1 + 1 by omega]
    simp only [flat3, List.getD_cons_succ]
    exact flat3_0 r k (by simpa using h)
theorem flat3_1 : ∀ (ss : List Str) k, k < ss.length → (flat3 ss).getD (k * 3 + 1) 0 = (ss.getD k str0).2.1
  | [], k, h => by simp at h
  | p :: r, 0, h => rfl
  | p :: r, k + 1, h => by
    rw [show (k + 1) * 3 + 1 = k * 3 + 1 + 1 + 1 + 1 by omega]
    simp only [flat3, List.getD_cons_succ]
    exact flat3_1 r k (by simpa using h)
theorem flat3_2 : ∀ (ss : List Str) k, k < ss.length → (flat3 ss).getD (k * 3 + 2) 0 = (ss.getD k str0).2.2
  | [], k, h => by simp at h
  | p :: r, 0, h => rfl
  | p :: r, k + 1, h => by
    rw [show (k + 1) * 3 + 2 = k * 3 + 2 + 1 + 1 + 1 by omega]
    simp only [flat3, List.getD_cons_succ]
    exact flat3_2 r k (by simpa using h)
theorem flat3_append : ∀ a b, flat3 (a ++ b) = flat3 a ++ flat3 b
  | [], b => rfl
  | p :: r, b => by simp [flat3, flat3_append r b]
theorem flat3_take : ∀ (ss : List Str) k, flat3 (ss.take k) = (flat3 ss).take (k * 3)
  | [], k => by simp [flat3]
  | p :: r, 0 => by simp [flat3]
  | p :: r, k + 1 => by
    rw [show (k + 1) * 3 = k * 3 + 1 + 1 + 1 by omega]
    simp [flat3, flat3_take r k]
/-- The slice with address A reads as the streets ss, below block B. -/
def RdS (w : World) (B : Nat) (A : Option Addr) (ss : List Str) : Prop := RdI w B A (flat3 ss)
theorem RdS.x {w : World} {B : Nat} {A : Option Addr} {ss : List Str} (h : RdS w B A ss) {k : Nat} (hk : k < ss.length) :
    ∃ b off x y z, A = some ⟨b, off, none⟩ ∧ b < B ∧ Hid (ss.getD k str0 = (x, y, z)) ∧ w.cell? ⟨b, off + k * 3, none⟩ = some (.int .i64 x) ∧ w.cell? ⟨b, off + k * 3 + 1, none⟩ = some (.int .i64 y) ∧ w.cell? ⟨b, off + k * 3 + 2, none⟩ = some (.int .i64 z) := by
  have hl := flat3_len ss
  obtain ⟨b, off, e, hb, hc⟩ := h (by omega)
  refine ⟨b, off, (ss.getD k str0).1, (ss.getD k str0).2.1, (ss.getD k str0).2.2, e, hb, rfl, ?_, ?_, ?_⟩
  · rw [hc _ (by omega), flat3_0 _ _ hk]
  · rw [Nat.add_assoc, hc _ (by omega), flat3_1 _ _ hk]
  · rw [Nat.add_assoc, hc _ (by omega), flat3_2 _ _ hk]
theorem RdS.keep {w w' : World} {B : Nat} {A : Option Addr} {ss : List Str} (h : RdS w B A ss) (hk : ∀ p : Addr, p.block < B → w'.cell? p = w.cell? p) : RdS w' B A ss := RdI.keep h hk
theorem RdS.below {w w' : World} {B : Nat} {A : Option Addr} {ss : List Str} (h : RdS w B A ss) (hb : Below B w w') : RdS w' B A ss := RdI.below h hb
theorem RdS.more {w : World} {B B' : Nat} {A : Option Addr} {ss : List Str} (h : RdS w B A ss) (hB : B ≤ B') : RdS w B' A ss := RdI.more h hB
theorem RdS.drewN {w : World} {B : Nat} {A : Option Addr} {ss : List Str} (h : RdS w B A ss) (n : Nat) : RdS (w.drewN n) B A ss := h
theorem RdS.nil (w : World) (B : Nat) (A : Option Addr) : RdS w B A [] := RdI.nil w B A
theorem RdS.take {w : World} {B : Nat} {A : Option Addr} {ss : List Str} (h : RdS w B A ss) (k : Nat) : RdS w B A (ss.take k) := by
  intro hp
  rw [flat3_take] at hp ⊢
  rw [List.length_take] at hp
  obtain ⟨b, off, e, hb, hc⟩ := h (by omega)
  refine ⟨b, off, e, hb, fun i hi => ?_⟩
  rw [List.length_take] at hi
  rw [hc i (by omega)]
  congr 2
  simp only [List.getD, List.getElem?_take]
  rw [if_pos (by omega)]

/-- One street of a net of n nodes. -/
def OkS (n : Int) (p : Str) : Prop := (0 ≤ p.1 ∧ p.1 < n) ∧ (0 ≤ p.2.1 ∧ p.2.1 < n) ∧ 1 ≤ p.2.2 ∧ p.2.2 ≤ 9
instance (n : Int) (p : Str) : Decidable (OkS n p) := by unfold OkS; infer_instance
/-- ValidNet. -/
def vnet (n : Int) (ss : List Str) : Bool := decide ((1 ≤ n ∧ n ≤ 7) ∧ ss.length ≤ 12 ∧ ∀ p ∈ ss, OkS n p)
theorem vnet_iff (n : Int) (ss : List Str) : vnet n ss = true ↔ (1 ≤ n ∧ n ≤ 7) ∧ ss.length ≤ 12 ∧ ∀ p ∈ ss, OkS n p := by unfold vnet; rw [decide_eq_true_iff]
theorem getD_mem3 {ss : List Str} {k : Nat} (hk : k < ss.length) : ss.getD k str0 ∈ ss := by
  rw [List.getD_eq_getElem?_getD, List.getElem?_eq_getElem hk]
  exact List.getElem_mem hk
theorem mem_getD3 {ss : List Str} {p : Str} (h : p ∈ ss) : ∃ k, k < ss.length ∧ ss.getD k str0 = p := by
  obtain ⟨k, hk, e⟩ := List.getElem_of_mem h
  exact ⟨k, hk, by rw [List.getD_eq_getElem?_getD, List.getElem?_eq_getElem hk, ← e]; rfl⟩
theorem vnet_no_n {n : Int} {ss : List Str} (h : n < 1 ∨ 7 < n) : vnet n ss = false := by
  rw [Bool.eq_false_iff]; intro h'
  have := (vnet_iff n ss).1 h'
  omega
theorem vnet_no_len {n : Int} {ss : List Str} (h : 12 < ss.length) : vnet n ss = false := by
  rw [Bool.eq_false_iff]; intro h'
  have := (vnet_iff n ss).1 h'
  omega
theorem vnet_no_at {n : Int} {ss : List Str} {k : Nat} {x y z : Int} (hk : k < ss.length) (hx : ss.getD k str0 = (x, y, z)) (h : x < 0 ∨ n ≤ x ∨ y < 0 ∨ n ≤ y ∨ z < 1 ∨ 9 < z) : vnet n ss = false := by
  rw [Bool.eq_false_iff]; intro h'
  have := ((vnet_iff n ss).1 h').2.2 _ (getD_mem3 hk)
  rw [hx] at this
  unfold OkS at this
  simp only at this
  omega
/-- So far, all streets are fine. -/
def OkN (n : Int) (ss : List Str) (k : Nat) : Prop := ∀ i, i < k → OkS n (ss.getD i str0)
theorem OkN.zero (n : Int) (ss : List Str) : OkN n ss 0 := fun i hi => by omega
theorem OkN.step {n : Int} {ss : List Str} {k : Nat} {x y z : Int} (h : OkN n ss k) (hx : ss.getD k str0 = (x, y, z)) (h0 : 0 ≤ x) (h1 : x < n) (h2 : 0 ≤ y) (h3 : y < n) (h4 : 1 ≤ z) (h5 : z ≤ 9) : OkN n ss (k + 1) := fun i hi => by
  by_cases e : i = k
  · subst e; rw [hx]; exact ⟨⟨h0, h1⟩, ⟨h2, h3⟩, h4, h5⟩
  · exact h i (by omega)
theorem vnet_yes {n : Int} {ss : List Str} {k : Nat} (h : OkN n ss k) (h1 : 1 ≤ n) (h7 : n ≤ 7) (h12 : ss.length ≤ 12) (hk : ss.length ≤ k) : vnet n ss = true :=
  (vnet_iff n ss).2 ⟨⟨h1, h7⟩, h12, fun p hp => by
    obtain ⟨i, hi, e⟩ := mem_getD3 hp
    rw [← e]; exact h i (by omega)⟩
/-- Fewer streets are a net. -/
theorem vnet_take {n : Int} {ss : List Str} (h : vnet n ss = true) (k : Nat) : vnet n (ss.take k) = true := by
  obtain ⟨h1, h2, h3⟩ := (vnet_iff n ss).1 h
  exact (vnet_iff _ _).2 ⟨h1, by rw [List.length_take]; omega, fun p hp => h3 p (List.mem_of_mem_take hp)⟩
end Go.Proofs.Ytakljcpneghgnaa
