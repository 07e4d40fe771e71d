/-
  The visit of TreeSum: people times the way are added.
  Conditions: none beyond what each theorem states.
-/
import Derived.Test.YtoappopbjnlbdabN2S
namespace Go.Proofs.Ytoappopbjnlbdab
open Go.ChangeShapes Go.WideShapes Go.ChangeAt Go.RowKit
set_option linter.unusedVariables false
set_option maxRecDepth 4000

def wsum (fs : List Int) (L : List (Nat × Int)) : Int := sumL (fun i x => fs.getD i 0 * x) L
theorem wsum_bd {fs : List Int} : ∀ {L : List (Nat × Int)}, (∀ y ∈ L, 0 ≤ fs.getD y.1 0 ∧ fs.getD y.1 0 ≤ 20 ∧ 0 ≤ y.2 ∧ y.2 ≤ 1000) → 0 ≤ wsum fs L ∧ wsum fs L ≤ 20000 * L.length
  | [], _ => by simp [wsum, sumL]
  | y :: r, h => by
    obtain ⟨h1, h2⟩ := wsum_bd (L := r) fun z hz => h z (List.mem_cons_of_mem _ hz)
    obtain ⟨a1, a2, a3, a4⟩ := h y (List.mem_cons_self ..)
    have m1 : 0 ≤ fs.getD y.1 0 * y.2 := Int.mul_nonneg a1 a3
    have m2 : fs.getD y.1 0 * y.2 ≤ 20 * 1000 := Int.mul_le_mul a2 a4 a3 (by omega)
    unfold wsum at h1 h2 ⊢
    simp only [sumL, List.length_cons]
    omega
theorem wsum_step (fs : List Int) (L : List (Nat × Int)) (i : Nat) (x : Int) : wsum fs (L ++ [(i, x)]) = wsum fs L + fs.getD i 0 * x := by
  unfold wsum; rw [sumL_append]; simp [sumL]
def sumObj (fs : List Int) (L : List (Nat × Int)) : Obj := .cells #[.int .i64 (wsum fs L)] 3 (0, 0)

set_option maxHeartbeats 800000 in
theorem visitS_any (w0 : World) (P : Nat → Nat) (RV : Nat → Value) (B R fb n cf : Nat) (Af : Option Addr) (fs : List Int) (F : List (Nat × Int)) (t : List (Int × Int)) (hlk : LkN w0 B n P RV t)
    (hR : ∃ cs, w0.heap[R]? = some (.cells cs 3 (0, 0))) (hfb : fb ≠ R) (hcf : w0.cell? ⟨fb, 0, none⟩ = some (.slice Af fs.length cf)) (B' : Nat) (hrd : RdI w0 B' Af fs) (hBR : B' ≤ R) (hB' : B' ≤ w0.heap.size) (hfl : fs.length = n) (hn7 : n ≤ 7)
    (hfs : ∀ i, i < n → 0 ≤ fs.getD i 0 ∧ fs.getD i 0 ≤ 20) (hF : ∀ y ∈ F, y.1 < n ∧ 0 ≤ y.2 ∧ y.2 ≤ 1000) (hFl : F.length ≤ 100) :
    VisitS w0 P R n (.pointer (some ⟨R, 0, none⟩)) (.pointer (some ⟨fb, 0, none⟩)) (sumObj fs) F := by
  intro w L i x hg hL hpre hi
  obtain ⟨cs, hRc⟩ := hR
  have lk := hlk.kept hg (fun g e _ => by injection e with e; subst e; exact ⟨cs, _, _, hRc, by decide, by decide⟩)
  obtain ⟨c0, -, -, -, -⟩ := lk.cells hi
  have hpm : ∀ y ∈ L ++ [(i, x)], y ∈ F := fun y hy => hpre.subset hy
  have hx := hF (i, x) (hpm _ (by simp))
  have hfi := hfs i hi
  have hb := wsum_bd (fs := fs) (L := L) fun y hy => by
    have := hF y (hpm y (by simp [hy]))
    have := hfs y.1 this.1
    omega
  have hLl : L.length ≤ 100 := by have := hpre.length_le; simp at this; omega
  have cfb : w.cell? ⟨fb, 0, none⟩ = some (.slice Af fs.length cf) := (World.cell?_of_block (hg.block _ (World.block_lt_of_cell? w0 _ hcf) (fun e => hfb (by injection e)))).trans hcf
  obtain ⟨b, off, y, rfl, hbb, Hy, hcy⟩ := (hrd.keep (w' := w) fun p hp => World.cell?_of_block (hg.block _ (by omega) (fun e => by injection e with e; omega))).x (k := i) (by omega)
  have cR : w.cell? ⟨R, 0, none⟩ = some (.int .i64 (wsum fs L)) := by rw [cell_of_row _ _ _ _ _ _ hL]; rfl
  have fR : w.frozen? ⟨R, 0, none⟩ = false := frozen_of_row _ _ _ _ _ hL
  have hst : (w.setCell ⟨R, 0, none⟩ (.int .i64 (wsum fs L + y * x))).heap[R]? = some (sumObj fs (L ++ [(i, x)])) := by
    unfold sumObj at hL ⊢
    rw [wsum_step, Hy.out]
    simp [World.setCell, Array.getElem?_modify, hL]
  have hgr : w.grownBy (w.setCell ⟨R, 0, none⟩ (.int .i64 (wsum fs L + y * x))) (some R) := ⟨rfl, rfl, rfl, by simp [World.setCell], fun k hk hne => Below.heap_setCell w _ _ k (by rintro rfl; exact hne rfl)⟩
  rw [Hy.out] at hfi
  simp only at hx
  have hyx : 0 ≤ y * x := Int.mul_nonneg hfi.1 hx.2.1
  have hyx2 : y * x ≤ 20 * 1000 := Int.mul_le_mul hfi.2 hx.2.2 hx.2.1 (by omega)
  have w1 : IntKind.i64.wrap (y * x) = y * x := IntWalk.i64_in _ (by omega)
  have w2 : IntKind.i64.wrap (wsum fs L + y * x) = wsum fs L + y * x := IntWalk.i64_in _ (by omega)
  have HS := Lib.hid hst
  have HG := Lib.hid hgr
  have hin : (i : Int) < ((fs.length : Nat) : Int) := by omega
  obtain ⟨S, HSS⟩ : ∃ S, Hid (wsum fs L = S) := ⟨_, rfl⟩
  rw [HSS.out] at cR w2 HS HG
  obtain ⟨nf, Hnf⟩ : ∃ nf, Hid (fs.length = nf) := ⟨_, rfl⟩
  rw [Hnf.out] at cfb hin
  have hin' : i < nf := by omega
  clear hst hgr hg hL hpre lk hpm hb hyx hyx2 hx hfi hrd hcf hRc
  go_enter Try.func50, Try.ntmps50
  go_wp2_with fail
  go_region
  go_wp2
  go_end0
  exact ⟨rfl, HS.out, ⟨HG.out.os, HG.out.tape, HG.out.output, HG.out.size, HG.out.block⟩⟩
end Go.Proofs.Ytoappopbjnlbdab
