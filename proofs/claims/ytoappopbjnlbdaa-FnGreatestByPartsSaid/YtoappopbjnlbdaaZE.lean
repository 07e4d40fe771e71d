/-
  FewestWards and FirstCuts of the program.
  Conditions: fewer than 2^20 numbers.
-/
import Derived.Test.YtoappopbjnlbdaaZD
namespace Go.Proofs.Ytoappopbjnlbdaa
open Go.ChangeShapes Go.WideShapes Go.ChangeAt Go.RowKit Go.Shelf
set_option linter.unusedVariables false
set_option maxRecDepth 100000
attribute [local go_sem] Oper.semAt_some

/-- How many districts, as the program says it. -/
def fwA (zs : List Int) (m : Int) : Int := if cbc zs m = true then ((ctT m zs zs.length).length : Int) + 1 else -1

set_option maxHeartbeats 4000000 in
theorem iFewest_in (A : Option Addr) (c n : Nat) (zs : List Int) (m : Int) (w : World) (h : LIn w A c n zs) :
    CallsIn Fence.wide 9 Try.prog 21 #[.slice A n c, .int .i64 m] w fun e w' => e = .returned (.int .i64 (fwA zs m)) ∧ Below w.heap.size w w' := by
  have H1 := Lib.hid (canBeCut_any A c n zs m w h)
  refine callsIn_of_wp_marks Try.func21 rfl trivial ?_ rfl
  simp only [Try.ntmps21, List.size_toArray, List.length_cons, List.length_nil, Nat.reduceAdd, Nat.reduceSub, Array.replicate_succ, Array.replicate_zero, List.push_toArray, List.append_toArray, List.nil_append, List.cons_append]
  by_cases hc : cbc zs m = true
  · rw [hc] at H1
    obtain ⟨hw, hm, hm1⟩ := cbc_iff.1 hc
    have HV : Hid (fwA zs m = ((ctT m zs n).length : Int) + 1) := by show _ = _; unfold fwA; rw [if_pos hc, h.len]
    have HL := Lib.hid h
    have hl10 := hw.n10
    rw [h.len] at hl10
    clear h hc
    gi_wp2_with fail
    refine ⟨trivial, (callsIn_wide.2 H1.out).mono ?_⟩
    rintro e w' ⟨rfl, rfl⟩
    gi_wp2_with fail
    refine ⟨trivial, (callsIn_wide.2 (cutsWithin_any A n c m _)).mono ?_⟩
    rintro e w' ⟨rfl, rfl⟩
    gi_wp2
    have bD := ((Boxed.new w 3 (.int .i64 1)).alloc (.cells #[.slice A n c] 23)).alloc (.cells #[.int .i64 m] 3)
    have bL := (Boxed.new (w.alloc (.cells #[.int .i64 1] 3)) 23 (.slice A n c)).alloc (.cells #[.int .i64 m] 3)
    have bM := Boxed.new ((w.alloc (.cells #[.int .i64 1] 3)).alloc (.cells #[.slice A n c] 23)) 3 (.int .i64 m)
    have hB0 : Below w.heap.size w (((w.alloc (.cells #[.int .i64 1] 3)).alloc (.cells #[.slice A n c] 23)).alloc (.cells #[.int .i64 m] 3)) := (((Below.refl _ w).alloc (Nat.le_refl _) _).alloc (by simp) _).alloc (by simp; omega) _
    have hsz : (((w.alloc (.cells #[.int .i64 1] 3)).alloc (.cells #[.slice A n c] 23)).alloc (.cells #[.int .i64 m] 3)).heap.size = w.heap.size + 3 := by simp
    simp only [World.size_alloc] at bL bM
    generalize ((w.alloc (.cells #[.int .i64 1] 3)).alloc (.cells #[.slice A n c] 23)).alloc (.cells #[.int .i64 m] 3) = W0 at bD bL bM hB0 hsz ⊢
    obtain ⟨bn, Hbn⟩ : ∃ bn, Hid (w.heap.size = bn) := ⟨_, rfl⟩
    refine wpIn_rangeFunc_ownG (F := Fence.wide) rfl (by decide) (gf := 64) (lb := #[.pointer (some ⟨w.heap.size + 1, 0, none⟩), .pointer (some ⟨w.heap.size + 1 + 1, 0, none⟩)]) rfl trivial (enters_of Try.func64 (by kernel_rfl) rfl)
      (cuts_stops 8 (by decide) (w.heap.size + 1) (w.heap.size + 1 + 1) w.heap.size n c A zs m hw hm hm1 HL.out.len W0 (by omega) (by omega) (by omega) bL.cell bM.cell (HL.out.rd.below hB0)) KpZ.trans (kpZ_b (by omega) (by omega)) (Below.refl _ _) (fun _ => rfl)
      (fun pre W => Boxed W w.heap.size 3 (.int .i64 ((pre.length : Int) + 1)) ∧ Below w.heap.size w W)
      (fun _ _ _ => False)
      (OwnFrom.and (Own.from (boxed_own _ _ _) _) (ownFrom_below (Nat.le_refl _) (by omega)))
      (fun _ _ _ _ _ hs _ _ => hs)
      ⟨by simpa using bD, hB0⟩
      (fun x => { tmps := #[.slice A n c, .int .i64 m, undef, undef, .int .i64 0, .pointer (some ⟨w.heap.size, 0, none⟩), .slice A n c, .int .i64 m, .bool true, .bool false, .slice A n c, .int .i64 m, .func (.func 64) #[] #[.pointer (some ⟨w.heap.size + 1, 0, none⟩), .pointer (some ⟨w.heap.size + 1 + 1, 0, none⟩)], .int .i64 x, undef, undef, undef], defers := [] }) ?assign ?body ?done ?stop
    case assign =>
      intro l x W K hK
      gi_wp2
      simpa using hK
    case body =>
      rintro l pre x W ⟨hv, hB⟩ hlt
      have hcv := hv.cell
      have hfv := hv.frozen
      have hp : pre.length < 10 := by omega
      gi_wp2
      refine ⟨(KeepsOthers.setCell _ _ _).from _, ⟨(Below.refl w.heap.size W).setCell (p := ⟨w.heap.size, 0, none⟩) (Nat.le_refl _) _, Below.heap_setCell _ _ _ _ (by show w.heap.size + 1 + 1 ≠ w.heap.size; omega)⟩, ?_, hB.setCell (p := ⟨w.heap.size, 0, none⟩) (Nat.le_refl _) _⟩
      have := hv.set (.int .i64 (((pre ++ [x]).length : Int) + 1))
      simpa using this
    case done =>
      rintro D ys W hD rfl ⟨hv, hB⟩ hK
      have hcv := hv.cell
      gi_wp2
      refine ⟨by simp, .inl ⟨_, _, rfl, run_takeDeferred hK, ?_⟩⟩
      exact ⟨_, results_tmp rfl _ _ _, by rw [HV.out]; rfl, hB.trans (belowK_b (w := w) (Nat.le_refl _) W D _ _ (by omega) hK rfl rfl)⟩
    case stop =>
      rintro D c pre W _ _ h _
      exact h.elim
  · have hc' : cbc zs m = false := by simpa using hc
    rw [hc'] at H1
    have HV : Hid (fwA zs m = -1) := by show _ = _; unfold fwA; rw [if_neg hc]
    rw [HV.out]
    clear h hc hc'
    gi_wp2_with fail
    refine ⟨trivial, (callsIn_wide.2 H1.out).mono ?_⟩
    rintro e w' ⟨rfl, rfl⟩
    gi_wp2
    exact ⟨_, results_tmp rfl _ _ _, rfl, Below.refl _ _⟩
theorem iFewestWards_any (A : Option Addr) (c n : Nat) (zs : List Int) (m : Int) (w : World) (h : LIn w A c n zs) :
    Calls Try.prog 21 #[.slice A n c, .int .i64 m] w fun e w' => e = .returned (.int .i64 (fwA zs m)) ∧ Below w.heap.size w w' := callsIn_wide.1 (iFewest_in A c n zs m w h)
end Go.Proofs.Ytoappopbjnlbdaa
