/-
  What the laws of chapter 11 share: the functions' contracts with their answers' lengths named, beginnings of lists.
  Conditions: none beyond what each theorem states.
-/
import Derived.Test.Ythphboeboiallab1DR
import Derived.Test.Ythphboeboiallab1F
import Derived.Test.Ythphboeboiallab1MB
import Derived.Test.YthphboeboiallabEL
namespace Go.Proofs.Ythphboeboiallab
open Go.ChangeShapes Go.WideShapes Go.ChangeAt Go.RowKit
set_option linter.unusedVariables false
set_option maxRecDepth 4000

/-- A row's answer as it is read, its length named. -/
def RowP (xs : List Int) (L : Nat) (w : World) (e : Ending) (w' : World) : Prop := ∃ A c, e = .returned (.slice A L c) ∧ Hid (PIn w' A c L xs) ∧ Hid (PartQ w' A L c xs) ∧ Hid (Below w.heap.size w w')
theorem RowQ.pinU {xs : List Int} {L : Nat} {w : World} {e : Ending} {w' : World} (h : RowQ xs w e w') (hL : xs.length = L) (hm : L ≤ 1000) : RowP xs L w e w' := by
  obtain ⟨A, c, he, ho, hb⟩ := h
  rw [hL] at ho he
  exact ⟨A, c, he, own_pinU ho.out hL (by omega), (by
    obtain ⟨A', c', e', hp⟩ := part_own ho.out hL
    injection e' with e1 _ e3
    subst e1 e3
    exact hp), hb⟩
theorem OwnQ.pinU {w : World} {B g c L : Nat} {xs : List Int} (h : OwnQ w B g c L xs) (hm : L ≤ 1000) : PIn w (some ⟨g, 0, none⟩) c L xs := own_pinU h.2 h.1 (by omega)
/-- The beginning of a list. -/
theorem PIn.headU {w : World} {A : Option Addr} {c m k : Nat} {zs : List Int} (h : PIn w A c m zs) (hk : k ≤ m) : PIn w A c k (zs.take k) := by
  refine ⟨fun hp => ?_, by rw [List.length_take, h.len]; omega, ⟨Nat.le_trans hk h.cap.1, h.cap.2⟩, Nat.le_trans hk h.most⟩
  have hp2 : 0 < zs.length := by rw [List.length_take] at hp; omega
  obtain ⟨b, off, e, hb, hc⟩ := h.rd hp2
  refine ⟨b, off, e, hb, fun i hi => ?_⟩
  rw [List.length_take] at hi
  rw [hc i (by omega)]
  congr 2
  simp only [List.getD, List.getElem?_take]
  rw [if_pos (by omega)]
theorem bkQ_some {zs ss : List Int} {far : Int} (h : (bkQ zs ss far).length ≠ 0) : vbB zs ss far = true ∧ bkQ zs ss far = bkL far zs ss := by
  by_cases hv : vbB zs ss far = true
  · exact ⟨hv, bkQ_yes hv⟩
  · rw [bkQ_no (by simpa using hv)] at h; simp at h
theorem bkQ_len10 (zs ss : List Int) (far : Int) : (bkQ zs ss far).length ≤ 10 := by
  by_cases h : vbB zs ss far = true
  · rw [bkQ_yes h, bkL_length]; exact vh_len (vbB_get h).1
  · rw [bkQ_no (by simpa using h)]; simp
theorem bkL_at {far : Int} {zs ss : List Int} {i : Nat} (hi : i < zs.length) : (bkL far zs ss).getD i 0 = ((nbB (nrF far) ss (zs.getD i 0) : Nat) : Int) := by
  simp [bkL, List.getD, List.getElem?_eq_getElem hi]
theorem nbB_head (nr : Int → Int → Bool) (ss : List Int) (k : Nat) (x : Int) : nbB nr (ss.take k) x ≤ nbB nr ss x := by
  conv => rhs; rw [← List.take_append_drop k ss]
  rw [nbB_append]; omega
theorem okFrom_take : ∀ {l : List Int} {a : Int} (k : Nat), okFrom a l = true → okFrom a (l.take k) = true
  | [], _, k, _ => by simp [okFrom]
  | x :: r, a, 0, _ => rfl
  | x :: r, a, k + 1, h => by
    simp only [okFrom, Bool.and_eq_true, decide_eq_true_eq, List.take_succ_cons] at h ⊢
    exact ⟨h.1, h.2.1, okFrom_take k h.2.2⟩
theorem vh_take {l : List Int} (h : vh l = true) (k : Nat) : vh (l.take k) = true := by
  have h1 := vh_len h
  have h2 := okFrom_take k (vh_ok h)
  unfold vh
  rw [h2, List.length_take]
  simp
  omega
theorem vbB_take {zs ss : List Int} {far : Int} (h : vbB zs ss far = true) (k : Nat) : vbB zs (ss.take k) far = true := by
  obtain ⟨h1, h2, h3, h4, h5⟩ := vbB_get h
  simp only [vbB, vfar, Bool.and_eq_true, decide_eq_true_eq]
  exact ⟨h1, vh_take h2 k, by rw [List.length_take]; omega, h4, h5⟩
end Go.Proofs.Ythphboeboiallab
