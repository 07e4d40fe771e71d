/-
  The statement FnExactMeanReached holds for every input: the law returns true and leaves its arguments as they were.
  Conditions: none.
-/
import Derived.Test.YthphboeboiallabOI
import Derived.Test.Ythphboeboiallab1EM
import Derived.Test.YthphboeboiallabZK
import Derived.WalkKit
import Derived.ProofKit
import Derived.OpenShut
import Derived.ShutString
import Derived.ChangeOld
import Derived.Below
import Derived.Lib.SmallJoins
namespace Go.Proofs.Ythphboeboiallab.fnExactMeanReached
open Go.ChangeShapes Go.WideShapes Go.ChangeAt Go.RowKit
set_option linter.unusedVariables false

theorem own : ownKnob Try.prog.godebug = none := by kernel_rfl
theorem laidOut : laidOutB Try.prog = true := by kernel_rfl

theorem cellsF : Try.prog.cellsOf 43 = 2 := by kernel_rfl
set_option maxRecDepth 100000 in
theorem lifted (os : Os) (started : os.Started) (H : Type) (enc : TypeId × Value → H) :
    ReturnsInHanded {} Try.checked os 10 .any (Rows.fnExactMeanReachedSpec.pre6 enc Try.prog Try.f10 Rows.fnExactMeanReachedRow.domain false) (Rows.fnExactMeanReachedSpec.post enc Try.prog Try.f10 false true false false) := by
  refine returnsInHanded_of_change (C := Try.checked) own started (by kernel_rfl) Try.func10
    (ChangeSpec.witness6 (enc := enc) (C := Try.checked) false ⟨#[], #[.slice none 0 0, .slice none 0 0, .int .i64 0, .agg #[.int .i64 0, .int .i64 0]], []⟩ 8 (by kernel_rfl) (by kernel_rfl) (by kernel_rfl) (by kernel_rfl)) ?_
  intro W base args ds gs before hval0 hW hcnd _
  have hval : ∀ (j : Nat) t v, Try.f10.params[j]? = some t → args[j]? = some v → Value.okWide Try.prog W .any base t v := hval0
  have hW' := hW
  obtain ⟨p, q, hA0, hV, rfl, hfz, hnd⟩ := hW
  have hA : DataW.TrodAll enc Try.prog W 0 (fun _ => true) true Try.f10.params.toList args.toList ds p := hA0
  rw [Try.params10] at hA hval
  obtain ⟨v0, vs0, d0, ds0, p0, q0, hargs, rfl, rfl, h0, r0⟩ := trodAll_cons hA
  obtain ⟨v1, vs1, d1, ds1, p1, q1, rfl, rfl, rfl, h1, r1⟩ := trodAll_cons r0
  obtain ⟨v2, vs2, d2, ds2, p2, q2, rfl, rfl, rfl, h2, r2⟩ := trodAll_cons r1
  obtain ⟨v3, vs3, d3, ds3, p3, q3, rfl, rfl, rfl, h3, r3⟩ := trodAll_cons r2
  obtain ⟨rfl, rfl, rfl⟩ := trodAll_nil r3
  obtain rfl : args = #[v0, v1, v2, v3] := by cases args; simp_all
  obtain ⟨rfl, rfl⟩ := trodVars_none hV
  obtain ⟨a0, len0, cap0, rfl⟩ := okWide_slice Try.underlying23 (hval 0 23 v0 rfl rfl)
  have k0 := h0
  have lt0 : ∀ x ∈ p0, x.block < W.heap.size := by obtain ⟨m, hm⟩ := k0; exact DataW.trod_lt m _ _ _ hm
  obtain ⟨z0, w0, l0, m0⟩ := (by obtain ⟨fuel, hf⟩ := h0; exact open_ints_at hf : ∃ zs, RdI W W.heap.size a0 zs ∧ zs.length = len0 ∧ zs.length ≤ maxLen)
  subst l0
  obtain ⟨a1, len1, cap1, rfl⟩ := okWide_slice Try.underlying23 (hval 1 23 v1 rfl rfl)
  have k1 := h1
  have lt1 : ∀ x ∈ p1, x.block < W.heap.size := by obtain ⟨m, hm⟩ := k1; exact DataW.trod_lt m _ _ _ hm
  obtain ⟨z1, w1, l1, m1⟩ := (by obtain ⟨fuel, hf⟩ := h1; exact open_ints_at hf : ∃ zs, RdI W W.heap.size a1 zs ∧ zs.length = len1 ∧ zs.length ≤ maxLen)
  subst l1
  obtain ⟨a2, rfl, rfl, rfl, w2⟩ := open_int Try.underlying3 (hval 2 3 v2 rfl rfl) h2
  obtain ⟨c3, e3, y3, z3, m3, rfl, rfl, rfl, hy3, hz3⟩ := Go.Joins.open_agg2 Try.underlying43 (by kernel_rfl) cellsF (hval 3 43 v3 rfl rfl) h3
  obtain ⟨u3, ey3, rfl, wu3⟩ := DataW.trod_int Try.underlying3 hy3
  obtain ⟨b3, ez3, rfl, wb3⟩ := DataW.trod_int Try.underlying3 hz3
  simp at ey3 ez3
  subst ey3 ez3
  have f3 : ∀ (W1 : World) (sp : Nat → Bool), DataW.Trod enc Try.prog W1 0 sp true 43 (.agg #[.int .i64 u3, .int .i64 b3]) (.agg [.lit (.int .i64 u3), .lit (.int .i64 b3)]) [] := fun W1 sp =>
    Go.Joins.shut_agg2 (y0 := (.lit (.int .i64 u3), [])) (y1 := (.lit (.int .i64 b3), [])) Try.underlying43 (by kernel_rfl) cellsF ⟨1, by simp [DataW.trod, Try.underlying3, wu3]⟩ ⟨1, by simp [DataW.trod, Try.underlying3, wb3]⟩
  clear hA0 hval0
  refine (exMeanReached_walk a0 cap0 z0 a1 cap1 z1 a2 u3 b3 W w0 m0 w1 m1 w2 wu3 wb3).mono fun e W' ⟨he, bel⟩ => ?_
  subst he
  exact ⟨_, rfl, _, _, _, [], _, [], hW', trodAll_mk1 (shut_bool Try.underlying4 _), (trodAll_cons_mk (Below.trod laidOut (by kernel_rfl) (of_decide_eq_true (by kernel_rfl)) k0 bel lt0) (trodAll_cons_mk (Below.trod laidOut (by kernel_rfl) (of_decide_eq_true (by kernel_rfl)) k1 bel lt1) (trodAll_cons_mk (shut_int Try.underlying3 w2) (trodAll_cons_mk (f3 _ _) trodAll_mk0)))), rfl, bel.frame _, fun h => by cases h⟩

theorem closed : joinedFacts Try.pinned.checked.prog 10 Try.f10 Rows.fnExactMeanReachedSpec Rows.fnExactMeanReachedRow = true := by
  unfold joinedFacts
  repeat' (with_reducible refine Bool.and_eq_true_iff.2 ⟨?_, ?_⟩)
  all_goals first | with_reducible exact seat_enter | (rw [seat_lift]; kernel_rfl) | (rw [seat_make]; kernel_rfl) | as_aux_lemma => kernel_rfl

theorem over : Rows.fnExactMeanReachedRow.holds Try.pinned (OpenSpec.ofChange Rows.fnExactMeanReachedSpec) :=
  OpenClaim.holds_of_wide 10 Try.f10 rfl rfl rfl rfl rfl rfl rfl ⟨rfl, rfl, rfl, rfl, rfl⟩ rfl rfl rfl rfl rfl (by as_aux_lemma => kernel_rfl) Try.func10 closed
    (of_decide_eq_true (by as_aux_lemma => kernel_rfl)) (by as_aux_lemma => unfold Func.isWrapper; first | (rw [if_pos (by decide +kernel)]; kernel_rfl) | (rw [if_neg (by decide +kernel)]; exact ⟨rfl, rfl⟩))
    (fun os started H enc _ => lifted os started H enc)

theorem proved : Rows.FnExactMeanReachedSaid := over
end Go.Proofs.Ythphboeboiallab.fnExactMeanReached
