/-
  Words for slices of slices of ints that came in; what lists of helpers with room are, and what costs are.
  Conditions: none beyond what each theorem states.
-/
import Derived.Test.YtakljcpneghgnaaU2
import Derived.Test.YtakljcpneghgnaaE0
namespace Go.Proofs.Ytakljcpneghgnaa
open Go.ChangeShapes Go.WideShapes Go.ChangeAt Go.RowKit
set_option linter.unusedVariables false

/-- The slice with address A reads as the lists of ints L, all below block B. -/
def RdV (w : World) (B : Nat) (A : Option Addr) (L : List (List Int)) : Prop :=
  0 < L.length → ∃ b off, A = some ⟨b, off, none⟩ ∧ b < B ∧ ∀ i, i < L.length → ∃ a c, w.cell? ⟨b, off + i, none⟩ = some (.slice a (L.getD i []).length c) ∧ (L.getD i []).length ≤ c ∧ c ≤ 9223372036854775807 ∧ RdI w B a (L.getD i [])
theorem RdV.x {w : World} {B : Nat} {A : Option Addr} {L : List (List Int)} (h : RdV w B A L) {k : Nat} (hk : k < L.length) :
    ∃ b off a c ls, A = some ⟨b, off, none⟩ ∧ b < B ∧ Hid (L.getD k [] = ls) ∧ w.cell? ⟨b, off + k, none⟩ = some (.slice a ls.length c) ∧ ls.length ≤ c ∧ c ≤ 9223372036854775807 ∧ RdI w B a ls := by
  obtain ⟨b, off, e, hb, hc⟩ := h (by omega)
  obtain ⟨a, c, h1, h2, h3, h4⟩ := hc k hk
  exact ⟨b, off, a, c, _, e, hb, rfl, h1, h2, h3, h4⟩
theorem RdV.keep {w w' : World} {B : Nat} {A : Option Addr} {L : List (List Int)} (h : RdV w B A L) (hk : ∀ p : Addr, p.block < B → w'.cell? p = w.cell? p) : RdV w' B A L := fun hp => by
  obtain ⟨b, off, e, hb, hc⟩ := h hp
  refine ⟨b, off, e, hb, fun i hi => ?_⟩
  obtain ⟨a, c, h1, h2, h3, h4⟩ := hc i hi
  exact ⟨a, c, by rw [hk _ hb]; exact h1, h2, h3, h4.keep hk⟩
theorem RdV.below {w w' : World} {B : Nat} {A : Option Addr} {L : List (List Int)} (h : RdV w B A L) (hb : Below B w w') : RdV w' B A L := h.keep fun p hp => hb.cell hp
theorem RdV.more {w : World} {B B' : Nat} {A : Option Addr} {L : List (List Int)} (h : RdV w B A L) (hB : B ≤ B') : RdV w B' A L := fun hp => by
  obtain ⟨b, off, e, hb, hc⟩ := h hp
  refine ⟨b, off, e, by omega, fun i hi => ?_⟩
  obtain ⟨a, c, h1, h2, h3, h4⟩ := hc i hi
  exact ⟨a, c, h1, h2, h3, h4.more hB⟩
theorem RdV.drewN {w : World} {B : Nat} {A : Option Addr} {L : List (List Int)} (h : RdV w B A L) (n : Nat) : RdV (w.drewN n) B A L := h
theorem RdV.take {w : World} {B : Nat} {A : Option Addr} {L : List (List Int)} (h : RdV w B A L) (k : Nat) : RdV w B A (L.take k) := fun hp => by
  rw [List.length_take] at hp
  obtain ⟨b, off, e, hb, hc⟩ := h (by omega)
  refine ⟨b, off, e, hb, fun i hi => ?_⟩
  rw [List.length_take] at hi
  have hg : (L.take k).getD i [] = L.getD i [] := by
    simp only [List.getD, List.getElem?_take]
    rw [if_pos (by omega)]
  rw [hg]
  exact hc i (by omega)

/-- An ascending list of helpers below H. -/
def AscL (H : Int) (l : List Int) (k : Nat) : Prop := ∀ i, i < k → 0 ≤ l.getD i 0 ∧ l.getD i 0 ≤ H - 1 ∧ (0 < i → l.getD (i - 1) 0 < l.getD i 0)
instance (H : Int) (l : List Int) (k : Nat) : Decidable (AscL H l k) := by unfold AscL; infer_instance
/-- The first k numbers of room are fine. -/
def OkR (room : List Int) (k : Nat) : Prop := ∀ i, i < k → 0 ≤ room.getD i 0 ∧ room.getD i 0 ≤ 7
instance (room : List Int) (k : Nat) : Decidable (OkR room k) := by unfold OkR; infer_instance
def OkW (H : Int) (wish : List (List Int)) (k : Nat) : Prop := ∀ i, i < k → AscL H (wish.getD i []) (wish.getD i []).length
instance (H : Int) (wish : List (List Int)) (k : Nat) : Decidable (OkW H wish k) := by unfold OkW; infer_instance
/-- ValidRoom. -/
def vroom (room : List Int) (wish : List (List Int)) : Bool := decide (room.length ≤ 4 ∧ wish.length ≤ 7 ∧ OkR room room.length ∧ OkW room.length wish wish.length)
theorem vroom_iff (room : List Int) (wish : List (List Int)) : vroom room wish = true ↔ room.length ≤ 4 ∧ wish.length ≤ 7 ∧ OkR room room.length ∧ OkW room.length wish wish.length := by unfold vroom; rw [decide_eq_true_iff]
theorem vroom_no_len {room : List Int} {wish : List (List Int)} (h : 4 < room.length ∨ 7 < wish.length) : vroom room wish = false := by
  rw [Bool.eq_false_iff]; intro h'
  have := (vroom_iff room wish).1 h'
  omega
theorem vroom_no_room {room : List Int} {wish : List (List Int)} {k : Nat} {x : Int} (hk : k < room.length) (hx : room.getD k 0 = x) (h : x < 0 ∨ 7 < x) : vroom room wish = false := by
  rw [Bool.eq_false_iff]; intro h'
  have := ((vroom_iff room wish).1 h').2.2.1 k hk
  rw [hx] at this; omega
theorem vroom_no_wish {room : List Int} {wish : List (List Int)} {k j : Nat} {l : List Int} {x : Int} (hk : k < wish.length) (hl : wish.getD k [] = l) (hj : j < l.length) (hx : l.getD j 0 = x) (h : x < 0 ∨ (room.length : Int) - 1 < x ∨ (0 < j ∧ x ≤ l.getD (j - 1) 0)) : vroom room wish = false := by
  rw [Bool.eq_false_iff]; intro h'
  have := ((vroom_iff room wish).1 h').2.2.2 k hk
  rw [hl] at this
  have := this j hj
  rw [hx] at this
  omega
theorem OkR.zero (room : List Int) : OkR room 0 := fun i hi => by omega
theorem OkR.step {room : List Int} {k : Nat} {x : Int} (h : OkR room k) (hx : room.getD k 0 = x) (h0 : 0 ≤ x) (h7 : x ≤ 7) : OkR room (k + 1) := fun i hi => by
  by_cases e : i = k
  · subst e; rw [hx]; exact ⟨h0, h7⟩
  · exact h i (by omega)
theorem OkW.zero (H : Int) (wish : List (List Int)) : OkW H wish 0 := fun i hi => by omega
theorem OkW.step {H : Int} {wish : List (List Int)} {k : Nat} {l : List Int} (h : OkW H wish k) (hl : wish.getD k [] = l) (ha : AscL H l l.length) : OkW H wish (k + 1) := fun i hi => by
  by_cases e : i = k
  · subst e; rw [hl]; exact ha
  · exact h i (by omega)
theorem AscL.zero (H : Int) (l : List Int) : AscL H l 0 := fun i hi => by omega
theorem AscL.step {H : Int} {l : List Int} {k : Nat} {x : Int} (h : AscL H l k) (hx : l.getD k 0 = x) (h0 : 0 ≤ x) (h1 : x ≤ H - 1) (h2 : 0 < k → l.getD (k - 1) 0 < x) : AscL H l (k + 1) := fun i hi => by
  by_cases e : i = k
  · subst e; rw [hx]; exact ⟨h0, h1, h2⟩
  · exact h i (by omega)
theorem vroom_yes {room : List Int} {wish : List (List Int)} (h1 : room.length ≤ 4) (h2 : wish.length ≤ 7) (h3 : OkR room room.length) (h4 : OkW room.length wish wish.length) : vroom room wish = true := (vroom_iff _ _).2 ⟨h1, h2, h3, h4⟩
theorem vroom_take {room : List Int} {wish : List (List Int)} (h : vroom room wish = true) (k : Nat) : vroom room (wish.take k) = true := by
  obtain ⟨h1, h2, h3, h4⟩ := (vroom_iff _ _).1 h
  refine (vroom_iff _ _).2 ⟨h1, by rw [List.length_take]; omega, h3, fun i hi => ?_⟩
  rw [List.length_take] at hi
  have hg : (wish.take k).getD i [] = wish.getD i [] := by
    simp only [List.getD, List.getElem?_take]
    rw [if_pos (by omega)]
  rw [hg]
  exact h4 i (by omega)
end Go.Proofs.Ytakljcpneghgnaa
