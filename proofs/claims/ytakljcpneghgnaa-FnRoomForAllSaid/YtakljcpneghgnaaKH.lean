/-
  The map of the helpers asked: how its keys read, its look-up, its mark.
  Conditions: none beyond what each theorem states.
-/
import Derived.Test.YtakljcpneghgnaaHC
import Derived.DeepKeys4
import Derived.Maps.RangeWalk
import Derived.Maps.Views
import Derived.Maps.OwnOps
namespace Go.Proofs.Ytakljcpneghgnaa
open Go.ChangeShapes Go.WideShapes Go.ChangeAt Go.RowKit Go.Maps
set_option linter.unusedVariables false
set_option maxRecDepth 4000

theorem kLaidH : laidOutB Try.prog = true := by kernel_rfl
theorem kRowH : (75 : TypeId) < Try.prog.types.size := of_decide_eq_true (by kernel_rfl)
theorem kWideH : (match Try.prog.underlying 75 with | some (.array _ _) | some (.struct _) => true | _ => false) = true := by kernel_rfl
theorem kLawH : Keyed Try.prog 75 := Keyed.of_law (deep_law_laid kLaidH (m := 3) (by omega) kRowH (by kernel_rfl) kWideH)
theorem kCellsH : Try.prog.cellsOf 75 = 2 := by kernel_rfl
theorem kCellsU : Try.prog.cellsOf 53 = 1 := by kernel_rfl
theorem kCellsI : Try.prog.cellsOf 3 = 1 := by kernel_rfl
theorem kTypeH : Try.prog.keyType 75 = true := by kernel_rfl

def kkH (a r : Int) : Lit := .string (keyBytes [.int .u64 a, .int .i64 r])
def kvH (a r : Int) : Value := .agg #[.int .u64 a, .int .i64 r]
theorem litsU (d : Nat) {n : Int} (h : (Lit.int .u64 n).wf = true) : Try.prog.keyLits (d + 1) 53 [.int .u64 n] = some [.int .u64 n] := by
  simp [Program.keyLits, Try.underlying53, h]
theorem litsI (d : Nat) {n : Int} (h : (Lit.int .i64 n).wf = true) : Try.prog.keyLits (d + 1) 3 [.int .i64 n] = some [.int .i64 n] := by
  simp [Program.keyLits, Try.underlying3, h]
theorem litsH (d : Nat) (v0 v1 : Value) : Try.prog.keyLits (d + 2) 75 [v0, v1] = ((Try.prog.keyLits (d + 1) 53 [v0]).bind fun a => (Try.prog.keyLits (d + 1) 3 [v1]).map fun b => a ++ b) := by
  conv => lhs; unfold Program.keyLits
  rw [Try.underlying75]
  simp [kCellsU, kCellsI, kCellsH]
  cases Try.prog.keyLits (d + 1) 53 [v0] <;> cases Try.prog.keyLits (d + 1) 3 [v1] <;> simp
theorem typesTwoH : ∃ d, Try.prog.types.size + 1 = d + 2 := ⟨Try.prog.types.size - 1, by have h : (75 : Nat) < Try.prog.types.size := kRowH; omega⟩
theorem keyH_mk {a r : Int} (ha : (Lit.int .u64 a).wf = true) (hr : (Lit.int .i64 r).wf = true) : keyOf Try.prog 75 (kvH a r) = some (kkH a r) := by
  obtain ⟨d, hd⟩ := typesTwoH
  unfold keyOf kvH kkH
  rw [Try.underlying75]
  simp only [kTypeH, Value.formed, hd, Value.cells, litsH, litsU _ ha, litsI _ hr, Try.underlying75, kCellsH]
  simp
theorem kkH_inj {a r a' r' : Int} (h1 : (Lit.int .u64 a).wf = true) (h2 : (Lit.int .i64 r).wf = true) (h3 : (Lit.int .u64 a').wf = true) (h4 : (Lit.int .i64 r').wf = true) (h : kkH a r = kkH a' r') : a = a' ∧ r = r' := by
  have ha := keyH_mk h1 h2
  have hb := keyH_mk h3 h4
  rw [h] at ha
  have := kLawH.inj ha hb
  unfold kvH at this
  simpa using this
theorem kkH_key (a r : Int) : WideAt.IsKeyLit (kkH a r) := trivial
theorem pow_inj4 : ∀ x h : Fin 4, 2 ^ x.val = 2 ^ h.val → x.val = h.val := by decide
/-- An element that reads as a bool's datum is that bool. -/
theorem plainElem_bool_inv {H : Type} {P : Program} {e : TypeId} (he : P.underlying e = some .bool) {v : Value} {z : DataW H × List MemPlace} (h : plainElem P e v = some z) : ∃ b, v = .bool b ∧ z = (.lit (.bool b), []) := by
  unfold plainElem at h
  rw [he] at h
  cases v <;> simp at h
  subst h
  exact ⟨_, rfl, rfl⟩
/-- Which helpers were asked. -/
def Ask (w : World) (room : List Int) (H mb m : Nat) (s : Nat → Bool) : Prop :=
  ∃ D : DataW Unit, w.ownsMap Try.prog 75 (plainElem Try.prog 4) mb m D ∧ IsMap D ∧ ∀ h, h < H → D.atKey (kkH ((2 ^ h : Nat) : Int) (rR room h)) (.lit (.bool false)) = .lit (.bool (s h))
theorem Ask.lt {w : World} {room : List Int} {H mb m : Nat} {s : Nat → Bool} (h : Ask w room H mb m s) : mb < w.heap.size := by obtain ⟨D, hD, -⟩ := h; exact hD.lt
theorem wfU (h : Nat) (hh : h < 4) : (Lit.int .u64 ((2 ^ h : Nat) : Int)).wf = true := by
  have : ∀ i : Fin 4, (Lit.int .u64 ((2 ^ i.val : Nat) : Int)).wf = true := by decide +kernel
  exact this ⟨h, hh⟩
/-- The look-up of a bool in the call's own map. -/
theorem wpList_lookup_own_boolH {P : Program} (w : World) {ops : Array Oper} {rest : List Oper} {o : Oper} {a : Act} {Q : Exit → Act → World → Prop}
    (gd : Option (Nat × Bool)) (hg : o.guard = none) (m x : Operand) (t : TypeId) (hop : o.op = Op.lookup t m x false)
    (k e : TypeId) (K : Keyed P k) (ht : P.underlying t = some (.map k e)) (he : P.underlying e = some .bool) (hz : (zeroValue e).run P w = .ok (.bool false) w) (b n : Nat) (D : DataW Unit)
    (hm : a.eval m = .map (some b)) (hown : w.ownsMap P k (plainElem P e) b n D) (key : Value) (kl : Lit) (hx : a.eval x = key) (hkey : keyOf P k key = some kl)
    (hK : ∀ c : Bool, D.atKey kl (.lit (.bool false)) = .lit (.bool c) → wpList P ops Q rest (a.put o.dst (.bool c)) w) :
    wpList P ops Q (o :: rest) a w := by
  refine wpList_plain hg fun K' hK' => ?_
  obtain ⟨v, ps, hrun, hv⟩ := hown.lookup K ht hz (plainElem_bool he false) hkey
  obtain ⟨c, rfl, hc⟩ := plainElem_bool_inv he hv
  simp only [Prod.mk.injEq] at hc
  unfold Oper.wp
  simp [execOp, hop, hm, hx, hrun, Result.andThen]
  exact hK' _ _ (hK c hc.1)
theorem zeroBoolH (w : World) : (zeroValue 4).run Try.prog w = .ok (.bool false) w := Try.zeroValue4 w
/-- The look-up, as an equation on the operation's run. -/
theorem Ask.look {w : World} {room : List Int} {H mb m h : Nat} {s : Nat → Bool} (hA : Ask w room H mb m s) (hh : h < H) (h4 : H ≤ 4) (hr : (Lit.int .i64 (rR room h)).wf = true) :
    (Instr.lookup 57 (.map (some mb)) (kvH ((2 ^ h : Nat) : Int) (rR room h)) false).run Try.prog w = .ok (.bool (s h)) w := by
  obtain ⟨D, hD, -, hat⟩ := hA
  obtain ⟨v, ps, hrun, hv⟩ := hD.lookup kLawH Try.underlying57 (z := .bool false) (zeroBoolH w) (plainElem_bool Try.underlying4 false) (keyH_mk (wfU h (by omega)) hr)
  obtain ⟨c, rfl, hc⟩ := plainElem_bool_inv Try.underlying4 hv
  simp only [Prod.mk.injEq] at hc
  rw [hat h hh] at hc
  have := hc.1
  simp at this
  rw [this]; exact hrun
/-- The mark. -/
theorem Ask.mark {w w' : World} {room : List Int} {H mb m h : Nat} {s : Nat → Bool} {D : DataW Unit} (hm : IsMap D) (hat : ∀ h, h < H → D.atKey (kkH ((2 ^ h : Nat) : Int) (rR room h)) (.lit (.bool false)) = .lit (.bool (s h))) (hh : h < H) (h4 : H ≤ 4)
    (hR : ∀ h, h < H → (Lit.int .i64 (rR room h)).wf = true) (hown : w'.ownsMap Try.prog 75 (plainElem Try.prog 4) mb (m + 1) (D.put (kkH ((2 ^ h : Nat) : Int) (rR room h)) (.lit (.bool true)))) : Ask w' room H mb (m + 1) (upB s h) := by
  refine ⟨_, hown, hm.put _ _, fun x hx => ?_⟩
  by_cases e : x = h
  · subst e
    rw [atKey_put_same hm (kkH_key _ _), upB_at]
  · rw [atKey_put_other (fun he => e ?_), upB_other s e]
    · exact hat x hx
    · have := (kkH_inj (wfU x (by omega)) (hR x hx) (wfU h (by omega)) (hR h hh) he).1
      have : 2 ^ x = 2 ^ h := by exact_mod_cast this
      exact pow_inj4 ⟨x, by omega⟩ ⟨h, by omega⟩ this
end Go.Proofs.Ytakljcpneghgnaa
