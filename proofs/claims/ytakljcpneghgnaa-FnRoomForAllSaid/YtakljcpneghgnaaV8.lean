/-
  Words for the model's push: the helpers seen as a row of bools, what it must answer.
  Conditions: as each theorem states.
-/
import Derived.Test.YtakljcpneghgnaaV7
import Derived.Test.YtakljcpneghgnaaUG
import Derived.Test.YtakljcpneghgnaaHT
namespace Go.Proofs.Ytakljcpneghgnaa
open Go.ChangeShapes Go.WideShapes Go.ChangeAt Go.RowKit
set_option linter.unusedVariables false
set_option maxRecDepth 4000

/-- The helpers seen, as a row. -/
def bRow (s : Nat → Bool) (H : Nat) : List Value := (List.range H).map fun h => .bool (s h)
def upB (s : Nat → Bool) (h : Nat) : Nat → Bool := fun x => decide (x = h) || s x
theorem upB_at (s : Nat → Bool) (h : Nat) : upB s h h = true := by simp [upB]
theorem upB_grow (s : Nat → Bool) (h x : Nat) (hx : s x = true) : upB s h x = true := by simp [upB, hx]
theorem upB_other (s : Nat → Bool) {h x : Nat} (hne : x ≠ h) : upB s h x = s x := by simp [upB, hne]
theorem bRow_len (s : Nat → Bool) (H : Nat) : (bRow s H).length = H := by simp [bRow]
theorem bRow_get (s : Nat → Bool) {H h : Nat} (hh : h < H) : (bRow s H)[h]? = some (.bool (s h)) := by simp [bRow, hh]
theorem bRow_set (s : Nat → Bool) {H h : Nat} (hh : h < H) : (bRow s H).set h (.bool true) = bRow (upB s h) H := by
  unfold bRow
  apply List.ext_getElem?
  intro i
  rw [List.getElem?_set]
  by_cases hi : i < H
  · by_cases e : h = i
    · subst e; simp [hi, upB_at]
    · simp [hi, e, upB_other s (fun h' => e h'.symm)]
  · simp [hi]; omega
/-- How many of the first m helpers are not seen. -/
def unS (s : Nat → Bool) : Nat → Nat
  | 0 => 0
  | h + 1 => unS s h + (if s h = true then 0 else 1)
theorem unS_mono {s s' : Nat → Bool} (h : ∀ x, s x = true → s' x = true) : ∀ H, unS s' H ≤ unS s H
  | 0 => Nat.le_refl _
  | k + 1 => by
    have ih := unS_mono h k
    simp only [unS]
    by_cases h1 : s k = true
    · rw [if_pos h1, if_pos (h k h1)]; omega
    · rw [if_neg h1]; split <;> omega
theorem unS_mark {s : Nat → Bool} {h : Nat} (hs : ¬ s h = true) : ∀ {H}, h < H → unS (upB s h) H < unS s H
  | 0, hh => by omega
  | k + 1, hh => by
    simp only [unS]
    by_cases e : h = k
    · subst e
      have := unS_mono (upB_grow s h) h
      rw [if_pos (upB_at s h), if_neg hs]; omega
    · have := unS_mark (s := s) (h := h) hs (H := k) (by omega)
      rw [upB_other s (fun e' => e e'.symm)]
      omega
/-- The calls' helpers, read. -/
def HasR (w : World) (gh n : Nat) (M : Nat → Int) : Prop := gh < w.heap.size ∧ ∀ i, i < n → w.cell? ⟨gh, i, none⟩ = some (.int .i64 (M i))
theorem HasR.kept {w w' : World} {gh gs n : Nat} {M : Nat → Int} (h : HasR w gh n M) (hg : w.grownBy w' (some gs)) (hne : gh ≠ gs) : HasR w' gh n M :=
  ⟨Nat.lt_of_lt_of_le h.1 hg.size, fun i hi => by
    rw [← h.2 i hi]
    exact World.cell?_of_block (hg.block gh h.1 (fun e => hne (by injection e)))⟩
def mRow (M : Nat → Int) (n : Nat) : List Value := (List.range n).map fun i => .int .i64 (M i)
theorem mRow_len (M : Nat → Int) (n : Nat) : (mRow M n).length = n := by simp [mRow]
theorem mRow_get (M : Nat → Int) {n i : Nat} (hi : i < n) : (mRow M n)[i]? = some (.int .i64 (M i)) := by simp [mRow, hi]
theorem mRow_set (M : Nat → Int) {n c : Nat} (v : Int) (hc : c < n) : (mRow M n).set c (.int .i64 v) = mRow (upM M c v) n := by
  unfold mRow
  apply List.ext_getElem?
  intro i
  rw [List.getElem?_set]
  by_cases hi : i < n
  · by_cases e : c = i
    · subst e; simp [hi, upM_at]
    · simp [hi, e, upM_other M v (fun h => e h.symm)]
  · simp [hi]; omega
theorem mRow_one (M : Nat → Int) (n : Nat) : ∀ x ∈ mRow M n, x.oneCell' = true := by
  intro x hx
  unfold mRow at hx
  obtain ⟨i, _, rfl⟩ := List.mem_map.1 hx
  rfl
theorem gb_on {a b c : World} {R : Nat} (h : a.grownBy b (some R)) (k : Below b.heap.size b c) : a.grownBy c (some R) :=
  ⟨k.os.trans h.os, k.tape.trans h.tape, k.output.trans h.output, Nat.le_trans h.size k.size, fun i hi hne => (k.block i (Nat.lt_of_lt_of_le hi h.size)).trans (h.block i hi hne)⟩
theorem cnt_pos {M : Nat → Int} {h j : Nat} (hm : M j = h) : ∀ {n}, j < n → 1 ≤ cntM M h n
  | 0, hj => by omega
  | n + 1, hj => by
    simp only [cntM]
    by_cases e : j = n
    · subst e; rw [if_pos hm]; omega
    · have := cnt_pos hm (n := n) (by omega); omega
theorem cnt_bd (M : Nat → Int) (h : Nat) : ∀ n, cntM M h n ≤ n
  | 0 => Nat.le_refl _
  | n + 1 => by have := cnt_bd M h n; simp only [cntM]; split <;> omega
/-- The helper h marked, and nothing found for its calls. -/
theorem puNo_mark {R : Nat → Int} {W : Nat → Nat → Prop} {H n h : Nat} {M : Nat → Int} {s s1 : Nat → Bool} (hg : Giv R W H n M) (hr : ¬ (cntM M h n : Int) < R h) (hp : PuNo R W H n M (upB s h) s1) (hc : ∀ j, j < n → M j = h → ∀ x, W j x → s1 x = true) : PuNo R W H n M s s1 :=
  ⟨fun x hx => hp.grow x (upB_grow s h x hx), fun x hx h1 h2 => by
    by_cases e : x = h
    · subst e
      have := hg.room x hx
      exact ⟨by omega, hc⟩
    · exact hp.full x hx h1 (by rw [upB_other s e]; exact h2)⟩
/-- What push answers. -/
def PushPost (room : List Int) (wish : List (List Int)) (B H n gs : Nat) (has : Value) (M : Nat → Int) (c : Nat) (sn : Nat → Bool) (w : World) (e : Ending) (w' : World) : Prop :=
  ∃ s', w'.ownsRow B 4 1 (.slice (some ⟨gs, 0, none⟩) H H) H (bRow s' H) ∧ w.grownBy w' (some gs) ∧
    ((∃ v M', e = .returned (.tuple #[v, .bool true]) ∧ w'.ownsRow w.heap.size 3 1 v n (mRow M' n) ∧ PuOk (rR room) (mayW wish) H n M M' c sn) ∨
     (e = .returned (.tuple #[has, .bool false]) ∧ PuNo (rR room) (mayW wish) H n M sn s' ∧ ∀ x, mayW wish c x → s' x = true))
/-- push does so, with at most f helpers not seen. -/
def PushAt (room : List Int) (wish : List (List Int)) (B H n f : Nat) : Prop :=
  ∀ (A A' : Option Addr) (cr cw gh ch gs c : Nat) (M : Nat → Int) (sn : Nat → Bool) (w : World), RdI w B A room → RdV w B A' wish → B ≤ gs → HasR w gh n M → gh ≠ gs → c < n → n ≤ ch → unS sn H ≤ f →
    w.ownsRow B 4 1 (.slice (some ⟨gs, 0, none⟩) H H) H (bRow sn H) → Giv (rR room) (mayW wish) H n M → (M c = -1 ∨ ∃ x : Nat, M c = x ∧ sn x = true) →
    Calls Try.prog 74 #[.slice A H cr, .slice A' n cw, .slice (some ⟨gh, 0, none⟩) n ch, .int .i64 c, .slice (some ⟨gs, 0, none⟩) H H] w (PushPost room wish B H n gs (.slice (some ⟨gh, 0, none⟩) n ch) M c sn w)
end Go.Proofs.Ytakljcpneghgnaa
