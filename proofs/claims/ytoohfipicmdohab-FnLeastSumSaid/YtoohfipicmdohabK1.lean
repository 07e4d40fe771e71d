/-
  A map keyed by a struct of two ints: how its keys read.
  Conditions: none beyond what each theorem states.
-/
import Derived.Test.YtoohfipicmdohabU2
import Derived.DeepKeys4
import Derived.Maps.RangeWalk
import Derived.Maps.Views
namespace Go.Proofs.Ytoohfipicmdohab
open Go.ChangeShapes Go.WideShapes Go.ChangeAt Go.RowKit Go.Maps
set_option linter.unusedVariables false

theorem keyLaid : laidOutB Try.prog = true := by kernel_rfl
theorem keyRow : (52 : TypeId) < Try.prog.types.size := of_decide_eq_true (by kernel_rfl)
theorem keyWide : (match Try.prog.underlying 52 with | some (.array _ _) | some (.struct _) => true | _ => false) = true := by kernel_rfl
theorem keyLaw : Keyed Try.prog 52 := Keyed.of_law (deep_law_laid keyLaid (m := 3) (by omega) keyRow (by kernel_rfl) keyWide)
theorem keyCells : Try.prog.cellsOf 52 = 2 := by kernel_rfl
theorem keyCells3 : Try.prog.cellsOf 3 = 1 := by kernel_rfl
theorem keyType : Try.prog.keyType 52 = true := by kernel_rfl

def kk (f e : Int) : Lit := .string (keyBytes [.int .i64 f, .int .i64 e])
def kv (f e : Int) : Value := .agg #[.int .i64 f, .int .i64 e]
theorem lits_int (d : Nat) {n : Int} (h : (Lit.int .i64 n).wf = true) : Try.prog.keyLits (d + 1) 3 [.int .i64 n] = some [.int .i64 n] := by
  simp [Program.keyLits, Try.underlying3, h]
theorem lits_int_inv (d : Nat) {v : Value} {ls : List Lit} (h : Try.prog.keyLits (d + 1) 3 [v] = some ls) : ∃ n, v = .int .i64 n ∧ (Lit.int .i64 n).wf = true := by
  cases v <;> simp [Program.keyLits, Try.underlying3] at h
  obtain ⟨⟨rfl, hw⟩, _⟩ := h
  exact ⟨_, rfl, hw⟩
theorem lits_group (d : Nat) (v0 v1 : Value) : Try.prog.keyLits (d + 2) 52 [v0, v1] = ((Try.prog.keyLits (d + 1) 3 [v0]).bind fun a => (Try.prog.keyLits (d + 1) 3 [v1]).map fun b => a ++ b) := by
  conv => lhs; unfold Program.keyLits
  rw [Try.underlying52]
  simp [keyCells, keyCells3]
  cases Try.prog.keyLits (d + 1) 3 [v0] <;> cases Try.prog.keyLits (d + 1) 3 [v1] <;> simp
theorem types_two : ∃ d, Try.prog.types.size + 1 = d + 2 := ⟨Try.prog.types.size - 1, by have h : (52 : Nat) < Try.prog.types.size := keyRow; omega⟩
theorem key_mk {f e : Int} (hf : (Lit.int .i64 f).wf = true) (he : (Lit.int .i64 e).wf = true) : keyOf Try.prog 52 (kv f e) = some (kk f e) := by
  obtain ⟨d, hd⟩ := types_two
  unfold keyOf kv kk
  rw [Try.underlying52]
  simp only [keyType, Value.formed, hd, Value.cells, lits_group, lits_int _ hf, lits_int _ he, Try.underlying52, keyCells]
  simp
theorem key_inv {v : Value} {kl : Lit} (h : keyOf Try.prog 52 v = some kl) : ∃ p : Int × Int, v = kv p.1 p.2 ∧ (Lit.int .i64 p.1).wf = true ∧ (Lit.int .i64 p.2).wf = true := by
  obtain ⟨d, hd⟩ := types_two
  unfold keyOf at h
  rw [Try.underlying52] at h
  simp only [keyType, Bool.true_and] at h
  cases v with
  | agg cs =>
    simp only [Value.formed, hd, Value.cells, Try.underlying52, keyCells] at h
    split at h
    · rename_i hc
      obtain ⟨l⟩ := cs
      match l, hc with
      | [v0, v1], _ =>
        simp only [lits_group] at h
        cases h0 : Try.prog.keyLits (d + 1) 3 [v0] with
        | none => rw [h0] at h; simp at h
        | some a =>
          cases h1 : Try.prog.keyLits (d + 1) 3 [v1] with
          | none => rw [h0, h1] at h; simp at h
          | some b =>
            obtain ⟨x, rfl, hx⟩ := lits_int_inv d h0
            obtain ⟨y, rfl, hy⟩ := lits_int_inv d h1
            exact ⟨(x, y), rfl, hx, hy⟩
    · cases h
  | _ => simp [Value.formed, Try.underlying52] at h
theorem kk_inj {f e f' e' : Int} (h1 : (Lit.int .i64 f).wf = true) (h2 : (Lit.int .i64 e).wf = true) (h3 : (Lit.int .i64 f').wf = true) (h4 : (Lit.int .i64 e').wf = true) (h : kk f e = kk f' e') : f = f' ∧ e = e' := by
  have ha := key_mk h1 h2
  have hb := key_mk h3 h4
  rw [h] at ha
  have := keyLaw.inj ha hb
  unfold kv at this
  simpa using this
theorem kk_key (f e : Int) : WideAt.IsKeyLit (kk f e) := trivial
end Go.Proofs.Ytoohfipicmdohab
