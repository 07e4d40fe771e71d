/-
  The visit of TreeCover: who is near has one.
  Conditions: none beyond what each theorem states.
-/
import Derived.Test.YtggpdlcompokoaaN2C
import Derived.Test.YtggpdlcompokoaaC1
namespace Go.Proofs.Ytggpdlcompokoaa
open Go.ChangeShapes Go.WideShapes Go.ChangeAt Go.RowKit
set_option linter.unusedVariables false
set_option maxRecDepth 4000

/-- Who has one, after the visits L. -/
def mkC (far : Int) (has : Nat → Bool) (L : List (Nat × Int)) : Nat → Bool := fun i => has i || L.any fun y => decide (y.1 = i) && decide (y.2 ≤ far)
theorem mkC_nil (far : Int) (has : Nat → Bool) : mkC far has [] = has := by funext i; simp [mkC]
theorem mkC_near {far : Int} {has : Nat → Bool} {L : List (Nat × Int)} {i : Nat} {x : Int} (h : x ≤ far) (n : Nat) : hrow (mkC far has (L ++ [(i, x)])) n = hrow (upd (mkC far has L) i true) n := by
  refine hrow_congr fun j hj => ?_
  unfold upd mkC
  by_cases e : j = i
  · subst e; simp [h]
  · rw [if_neg e]
    have : ¬ i = j := fun e' => e e'.symm
    simp [this]
theorem mkC_far {far : Int} {has : Nat → Bool} {L : List (Nat × Int)} {i : Nat} {x : Int} (h : ¬ x ≤ far) : mkC far has (L ++ [(i, x)]) = mkC far has L := by
  funext j; simp [mkC, h]
def covObj (far : Int) (has : Nat → Bool) (n : Nat) (L : List (Nat × Int)) : Obj := .cells (hrow (mkC far has L) n).toArray 4 (0, 0)

set_option maxHeartbeats 800000 in
theorem visitC_any (w0 : World) (P : Nat → Nat) (RV : Nat → Value) (B R fb sb n : Nat) (far : Int) (has : Nat → Bool) (F : List (Nat × Int)) (t : List (Int × Int)) (hlk : LkN w0 B n P RV t)
    (hR : ∃ cs, w0.heap[R]? = some (.cells cs 4 (0, 0))) (hfb : fb ≠ R) (hsb : sb ≠ R) (hcf : w0.cell? ⟨fb, 0, none⟩ = some (.int .i64 far)) (hcs : w0.cell? ⟨sb, 0, none⟩ = some (.slice (some ⟨R, 0, none⟩) n n)) (hn7 : n ≤ 7)
    (hF : ∀ y ∈ F, y.1 < n ∧ 0 ≤ y.2 ∧ y.2 ≤ 1000) :
    VisitC w0 P R n (.pointer (some ⟨fb, 0, none⟩)) (.pointer (some ⟨sb, 0, none⟩)) (covObj far has n) F := by
  intro w L i x hg hL hpre hi
  obtain ⟨cs, hRc⟩ := hR
  have lk := hlk.kept hg (fun g e _ => by injection e with e; subst e; exact ⟨cs, _, _, hRc, by decide, by decide⟩)
  obtain ⟨c0, -, -, -, -⟩ := lk.cells hi
  have hx := hF (i, x) (hpre.subset (by simp))
  have cfb : w.cell? ⟨fb, 0, none⟩ = some (.int .i64 far) := (World.cell?_of_block (hg.block _ (World.block_lt_of_cell? w0 _ hcf) (fun e => hfb (by injection e)))).trans hcf
  have csb : w.cell? ⟨sb, 0, none⟩ = some (.slice (some ⟨R, 0, none⟩) n n) := (World.cell?_of_block (hg.block _ (World.block_lt_of_cell? w0 _ hcs) (fun e => hsb (by injection e)))).trans hcs
  simp only at hx
  have hin : (i : Int) < (n : Int) := by omega
  by_cases hxf : x ≤ far
  · have cR : w.cell? ⟨R, i, none⟩ = some (.bool (mkC far has L i)) := by
      rw [cell_of_row _ _ _ _ _ _ hL]
      simp only [List.getElem?_toArray]
      exact hrow_at _ hi
    have fR : w.frozen? ⟨R, i, none⟩ = false := frozen_of_row _ _ _ _ _ hL
    have hst : (w.setCell ⟨R, i, none⟩ (.bool true)).heap[R]? = some (covObj far has n (L ++ [(i, x)])) := by
      unfold covObj at hL ⊢
      rw [mkC_near hxf, ← hrow_set _ true hi]
      simp [World.setCell, Array.getElem?_modify, hL]
    have hgr : w.grownBy (w.setCell ⟨R, i, none⟩ (.bool true)) (some R) := ⟨rfl, rfl, rfl, by simp [World.setCell], fun k hk hne => Below.heap_setCell w _ _ k (by rintro rfl; exact hne rfl)⟩
    have HS := Lib.hid hst
    have HG := Lib.hid hgr
    clear hst hgr hg hL hpre lk hcf hcs hRc hx
    go_enter Try.func72, Try.ntmps72
    go_wp2_with fail
    go_region
    go_wp2
    go_end0
    exact ⟨rfl, HS.out, ⟨HG.out.os, HG.out.tape, HG.out.output, HG.out.size, HG.out.block⟩⟩
  · have hst : w.heap[R]? = some (covObj far has n (L ++ [(i, x)])) := by
      unfold covObj at hL ⊢
      rw [mkC_far hxf]; exact hL
    have HS := Lib.hid hst
    clear hst hg hL hpre lk hcf hcs hRc hx
    go_enter Try.func72, Try.ntmps72
    go_wp2_with fail
    go_end0
    exact ⟨rfl, HS.out, grown_refl _ _⟩
end Go.Proofs.Ytggpdlcompokoaa
