/-
  The visit of TreeTable: a row's element is written.
  Conditions: none beyond what each theorem states.
-/
import Derived.Test.YtoappopbjnlbdabN2T
namespace Go.Proofs.Ytoappopbjnlbdab
open Go.ChangeShapes Go.WideShapes Go.ChangeAt Go.RowKit
set_option linter.unusedVariables false
set_option maxRecDepth 4000

/-- The row after the visits. -/
def trow (n : Nat) : List (Nat × Int) → List Int → List Int
  | [], r => r
  | y :: L, r => trow n L (r.set y.1 y.2)
theorem trow_append (n : Nat) : ∀ L y r, trow n (L ++ [y]) r = (trow n L r).set y.1 y.2
  | [], y, r => rfl
  | z :: L, y, r => trow_append n L y (r.set z.1 z.2)
theorem trow_len (n : Nat) : ∀ L r, (trow n L r).length = r.length
  | [], r => rfl
  | z :: L, r => by simp only [trow]; rw [trow_len n L]; simp
theorem trow_keep (n : Nat) {d : Nat → Int} : ∀ {L : List (Nat × Int)} {r : List Int} {j : Nat}, (∀ y ∈ L, y.2 = d y.1) → j < r.length → r.getD j 0 = d j → (trow n L r).getD j 0 = d j
  | [], r, j, _, _, h => h
  | z :: L, r, j, hd, hj, h => by
    simp only [trow]
    refine trow_keep n (fun y hy => hd y (List.mem_cons_of_mem _ hy)) (by simpa using hj) ?_
    simp only [List.getD, List.getElem?_set]
    by_cases e : z.1 = j
    · rw [if_pos e, if_pos (by omega), hd z (List.mem_cons_self ..), e]; rfl
    · rw [if_neg e]; exact h
theorem trow_get (n : Nat) {d : Nat → Int} : ∀ {L : List (Nat × Int)} {r : List Int} {j : Nat}, (∀ y ∈ L, y.2 = d y.1) → j < r.length → (∃ y ∈ L, y.1 = j) → (trow n L r).getD j 0 = d j
  | [], r, j, _, _, h => by obtain ⟨y, hy, _⟩ := h; cases hy
  | z :: L, r, j, hd, hj, h => by
    simp only [trow]
    by_cases e : z.1 = j
    · refine trow_keep n (fun y hy => hd y (List.mem_cons_of_mem _ hy)) (by simpa using hj) ?_
      simp only [List.getD, List.getElem?_set]
      rw [if_pos e, if_pos (by omega), hd z (List.mem_cons_self ..), e]; rfl
    · refine trow_get n (fun y hy => hd y (List.mem_cons_of_mem _ hy)) (by simpa using hj) ?_
      obtain ⟨y, hy, e'⟩ := h
      rcases List.mem_cons.1 hy with h | h
      · subst h; exact absurd e' e
      · exact ⟨y, h, e'⟩
def rowObj (n : Nat) (L : List (Nat × Int)) : Obj := .cells ((trow n L (List.replicate n 0)).map (Value.int .i64)).toArray 3 (0, 0)
theorem rowObj_cells (n : Nat) (L : List (Nat × Int)) : rowObj n L = .cells ((trow n L (List.replicate n 0)).map (Value.int .i64)).toArray 3 (0, 0) := rfl

set_option maxHeartbeats 800000 in
theorem visitT_any (w0 : World) (P : Nat → Nat) (RV : Nat → Value) (B R rb n : Nat) (F : List (Nat × Int)) (t : List (Int × Int)) (hlk : LkN w0 B n P RV t)
    (hR : ∃ cs, w0.heap[R]? = some (.cells cs 3 (0, 0))) (hrb : rb ≠ R) (hcr : w0.cell? ⟨rb, 0, none⟩ = some (.slice (some ⟨R, 0, none⟩) n n)) :
    VisitT w0 P R n (.pointer (some ⟨rb, 0, none⟩)) (rowObj n) F := by
  intro w L i x hg hL hpre hi
  obtain ⟨cs, hRc⟩ := hR
  have lk := hlk.kept hg (fun g e _ => by injection e with e; subst e; exact ⟨cs, _, _, hRc, by decide, by decide⟩)
  obtain ⟨c0, -, -, -, -⟩ := lk.cells hi
  have crb : w.cell? ⟨rb, 0, none⟩ = some (.slice (some ⟨R, 0, none⟩) n n) := (World.cell?_of_block (hg.block _ (World.block_lt_of_cell? w0 _ hcr) (fun e => hrb (by injection e)))).trans hcr
  have hlen : ((trow n L (List.replicate n 0)).map (Value.int .i64)).length = n := by rw [List.length_map, trow_len]; simp
  obtain ⟨v, cR⟩ : ∃ v, w.cell? ⟨R, i, none⟩ = some v := by
    rw [cell_of_row _ _ _ _ _ _ hL]
    exact ⟨_, by rw [List.getElem?_toArray]; exact List.getElem?_eq_getElem (by rw [hlen]; exact hi)⟩
  have fR : w.frozen? ⟨R, i, none⟩ = false := frozen_of_row _ _ _ _ _ hL
  have hst : (w.setCell ⟨R, i, none⟩ (.int .i64 x)).heap[R]? = some (rowObj n (L ++ [(i, x)])) := by
    unfold rowObj at hL ⊢
    rw [trow_append]
    simp [World.setCell, Array.getElem?_modify, hL, List.map_set]
  have hgr : w.grownBy (w.setCell ⟨R, i, none⟩ (.int .i64 x)) (some R) := ⟨rfl, rfl, rfl, by simp [World.setCell], fun k hk hne => Below.heap_setCell w _ _ k (by rintro rfl; exact hne rfl)⟩
  have HS := Lib.hid hst
  have HG := Lib.hid hgr
  clear hst hgr hg hL hpre lk hcr hRc hlen
  go_enter Try.func54, Try.ntmps54
  go_wp2_with fail
  go_region
  go_wp2
  go_end0
  exact ⟨rfl, HS.out, ⟨HG.out.os, HG.out.tape, HG.out.output, HG.out.size, HG.out.block⟩⟩
/-- A walk from node k writes the row of node k. -/
theorem treeRow_walk {w4 : World} {P : Nat → Nat} {RV : Nat → Value} {B R rb n k : Nat} {t : List (Int × Int)} (ht : Ahead t) (hn : t.length = n) (hn7 : n ≤ 7) (hk : k < n) (hlk : LkN w4 B n P RV t)
    (hR : w4.heap[R]? = some (.cells ((List.replicate n (0 : Int)).map (Value.int .i64)).toArray 3 (0, 0))) (hrb : rb ≠ R) (hcr : w4.cell? ⟨rb, 0, none⟩ = some (.slice (some ⟨R, 0, none⟩) n n)) :
    Calls Try.prog 48 #[.pointer (some ⟨P k, 0, none⟩), .pointer none, .func (.func 54) #[] #[.pointer (some ⟨rb, 0, none⟩)]] w4 fun e w' => e = .returned (.tuple #[]) ∧ w'.heap[R]? = some (.cells (((List.range n).map fun j => dn t n k j).map (Value.int .i64)).toArray 3 (0, 0)) ∧ w4.grownBy w' (some R) := by
  obtain ⟨M, hV, hs⟩ := walks_all ht n (by omega) k hk 0
  have hway := visited_way hs
  have hvis := visitT_any w4 P RV B R rb n ((k, 0) :: M) t hlk ⟨_, hR⟩ hrb hcr
  refine (walkT_any w4 P RV B R n _ (rowObj n) t ht (by omega) hn7 hlk ⟨_, _, _, hR, by decide, by decide⟩ hR k none M hk (fun g e => by cases e) hV hvis (fun y hy => by
    obtain ⟨h1, _, h2⟩ := hway y hy
    have := dn_bd ht n k y.1 (by omega) hk h1
    omega)).mono ?_
  rintro e w' ⟨he, hh, hg⟩
  refine ⟨he, ?_, hg⟩
  rw [hh]
  unfold rowObj
  have e1 : trow n ((k, 0) :: M) (List.replicate n 0) = (List.range n).map fun j => dn t n k j := by
    apply List.ext_getElem
    · rw [trow_len]; simp
    · intro j h1 h2
      have hj : j < n := by simpa using h2
      have := trow_get n (d := fun j => dn t n k j) (L := (k, 0) :: M) (r := List.replicate n 0) (j := j) (fun y hy => by have := (hway y hy).2.2; omega) (by simpa using hj) ⟨_, visited_all hs hj trivial, rfl⟩
      simp only [List.getD, List.getElem?_eq_getElem h1, Option.getD_some] at this
      rw [this]; simp
  rw [e1]
end Go.Proofs.Ytoappopbjnlbdab
