/-
  Plain mathematics of MostApart: the table of the most homes that are apart and end at a home.
  Conditions: none beyond what each theorem states.
-/
import Derived.Test.YtoohfipicmdohabLV
namespace Go.Proofs.Ytoohfipicmdohab
open Go.RowKit
set_option linter.unusedVariables false

def inn (far x : Int) (zs bs : List Int) : Nat → Int
  | 0 => 1
  | j + 1 => if 2 * far < x - zs.getD j 0 then max (inn far x zs bs j) (bs.getD j 0 + 1) else inn far x zs bs j
def bests (far : Int) (zs : List Int) : Nat → List Int
  | 0 => []
  | i + 1 => bests far zs i ++ [inn far (zs.getD i 0) zs (bests far zs i) i]
def topp (far : Int) (zs : List Int) : Nat → Int
  | 0 => 0
  | i + 1 => max (topp far zs i) (inn far (zs.getD i 0) zs (bests far zs i) i)
def mapart (zs : List Int) (far : Int) : Int := if vh zs = true ∧ vfar far = true then topp far zs zs.length else -1
theorem mapart_no {zs : List Int} {far : Int} (h : vh zs = false) : mapart zs far = -1 := by simp [mapart, h]
theorem mapart_no' {zs : List Int} {far : Int} (h : vfar far = false) : mapart zs far = -1 := by simp [mapart, h]
theorem mapart_yes {zs : List Int} {far : Int} (h : vh zs = true) (h' : vfar far = true) : mapart zs far = topp far zs zs.length := by simp [mapart, h, h']
theorem bests_length (far : Int) (zs : List Int) : ∀ i, (bests far zs i).length = i
  | 0 => rfl
  | i + 1 => by simp [bests, bests_length far zs i]
theorem inn_bd {far x : Int} {zs bs : List Int} : ∀ {j : Nat}, (∀ i, i < j → bs.getD i 0 ≤ i + 1) → 1 ≤ inn far x zs bs j ∧ inn far x zs bs j ≤ j + 1
  | 0, _ => by simp [inn]
  | j + 1, h => by
    have ih := inn_bd (far := far) (x := x) (zs := zs) (bs := bs) (j := j) (fun i hi => h i (by omega))
    have hj := h j (by omega)
    simp only [inn]
    split <;> omega
theorem bests_bd {far : Int} {zs : List Int} : ∀ {i : Nat}, ∀ j, j < i → 1 ≤ (bests far zs i).getD j 0 ∧ (bests far zs i).getD j 0 ≤ j + 1
  | 0, j, h => by omega
  | i + 1, j, h => by
    have hl := bests_length far zs i
    rcases Nat.lt_or_ge j i with hj | hj
    · have e : (bests far zs (i + 1)).getD j 0 = (bests far zs i).getD j 0 := by
        simp only [bests, List.getD_eq_getElem?_getD]
        rw [List.getElem?_append_left (by omega)]
      rw [e]
      exact bests_bd j hj
    · obtain rfl : j = i := by omega
      have e : (bests far zs (j + 1)).getD j 0 = inn far (zs.getD j 0) zs (bests far zs j) j := by
        simp only [bests, List.getD_eq_getElem?_getD]
        rw [List.getElem?_append_right (by omega), hl, Nat.sub_self]; rfl
      rw [e]
      exact inn_bd (fun i hi => (bests_bd i hi).2)
theorem topp_bd {far : Int} {zs : List Int} : ∀ i, 0 ≤ topp far zs i ∧ topp far zs i ≤ i
  | 0 => by simp [topp]
  | i + 1 => by
    have ih := topp_bd (far := far) (zs := zs) i
    have := inn_bd (far := far) (x := zs.getD i 0) (zs := zs) (bs := bests far zs i) (j := i) (fun j hj => (bests_bd j hj).2)
    simp only [topp]
    omega
theorem inn_yes {far x y v t : Int} {zs bs : List Int} {j : Nat} (hy : zs.getD j 0 = y) (hb : bs.getD j 0 = v) (ht : inn far x zs bs j = t) (h : 2 * far < x - y) : inn far x zs bs (j + 1) = max t (v + 1) := by
  subst hy hb ht
  simp only [inn, h, if_true]
theorem inn_no {far x y t : Int} {zs bs : List Int} {j : Nat} (hy : zs.getD j 0 = y) (ht : inn far x zs bs j = t) (h : ¬ 2 * far < x - y) : inn far x zs bs (j + 1) = t := by
  subst hy ht
  simp only [inn, h, if_false]

/-- The cells of the table: the numbers so far, the one at work, and zeros. -/
def rowc (pre : List Int) (u : Int) (m : Nat) : List Value := (pre ++ u :: List.replicate m 0).map (Value.int .i64)
theorem rowc_zero (pre : List Int) (m : Nat) : rowc pre 0 m = (pre ++ List.replicate (m + 1) 0).map (Value.int .i64) := rfl
theorem rowc_set (pre : List Int) (u v : Int) (m : Nat) : (rowc pre u m).set pre.length (.int .i64 v) = rowc pre v m := by
  unfold rowc
  rw [List.map_append, List.map_append, List.set_append_right _ _ (by simp)]
  simp
theorem rowc_next (pre : List Int) (u : Int) (m : Nat) : rowc pre u (m + 1) = rowc (pre ++ [u]) 0 m := by
  unfold rowc
  rw [List.append_assoc]; rfl
theorem rowc_at (pre : List Int) (u : Int) (m : Nat) : (rowc pre u m)[pre.length]? = some (.int .i64 u) := by simp [rowc]
theorem rowc_lt (pre : List Int) (u : Int) (m : Nat) {j : Nat} (hj : j < pre.length) : (rowc pre u m)[j]? = some (.int .i64 (pre.getD j 0)) := by
  simp [rowc, List.getElem?_append_left, hj]
end Go.Proofs.Ytoohfipicmdohab
