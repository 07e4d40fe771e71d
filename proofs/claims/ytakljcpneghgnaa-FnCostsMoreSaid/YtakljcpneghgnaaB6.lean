/-
  Tables in memory: a row more, an entry changed; what the loops of NetTable keep.
  Conditions: none beyond what each theorem states.
-/
import Derived.Test.YtakljcpneghgnaaUG
import Derived.Test.YtakljcpneghgnaaB2
namespace Go.Proofs.Ytakljcpneghgnaa
open Go.ChangeShapes Go.WideShapes Go.ChangeAt Go.RowKit
set_option linter.unusedVariables false
set_option maxRecDepth 4000

/-- A table's row. -/
def rowX (X : Nat → Nat → Int) (n a : Nat) : List Int := (List.range n).map fun b => X a b
theorem rowX_len (X : Nat → Nat → Int) (n a : Nat) : (rowX X n a).length = n := by simp [rowX]
theorem rowX_get (X : Nat → Nat → Int) {n a b : Nat} (hb : b < n) : (rowX X n a).getD b 0 = X a b := by simp [rowX, List.getD, hb]
theorem rowX_congr {X Y : Nat → Nat → Int} {n a : Nat} (h : ∀ b, b < n → X a b = Y a b) : rowX X n a = rowX Y n a := by
  unfold rowX
  exact List.map_congr_left fun b hb => h b (List.mem_range.1 hb)
theorem rowX_step (X : Nat → Nat → Int) (n a : Nat) : rowX X (n + 1) a = rowX X n a ++ [X a n] := by
  unfold rowX
  rw [List.range_succ, List.map_append]; rfl
theorem rowX_set (X : Nat → Nat → Int) {n a b : Nat} (v : Int) (hb : b < n) : (rowX X n a).set b v = rowX (up2 X a b v) n a := by
  unfold rowX
  apply List.ext_getElem?
  intro i
  rw [List.getElem?_set]
  by_cases hi : i < n
  · by_cases e : b = i
    · subst e; simp [hi, up2_at]
    · have : ¬ (a = a ∧ i = b) := fun h => e h.2.symm
      simp [hi, e, up2_other X v this]
  · simp [hi]; omega
/-- A row more, made since. -/
theorem TT.addRow {w wq : World} {B m k : Nat} {VR : Nat → Value} {ls : Nat → List Int} {v : Value} {row : List Int} (h : TT w B m VR ls) (hB : B ≤ w.heap.size) (hb : Below w.heap.size w wq) (hk : row.length = k)
    (hown : wq.ownsRow w.heap.size 3 1 v k (row.map (Value.int .i64))) : TT wq B (m + 1) (upd VR m v) (upd ls m row) := by
  constructor
  · intro j hj
    by_cases e : j = m
    · subst e
      rw [upd_at, upd_at, hk]
      refine ⟨hown.1, ?_⟩
      rcases hown.2 with h0 | ⟨g, cap, cur, h1, h2, h3⟩
      · exact .inl h0
      · exact .inr ⟨g, cap, cur, h1, by omega, h3⟩
    · rw [upd_other _ _ e, upd_other _ _ e]
      exact ownN_below (h.own j (by omega)) hb
  · intro i j g hi hj h1 h2
    by_cases e1 : i = m <;> by_cases e2 : j = m
    · omega
    · rw [e1, upd_at] at h1; rw [upd_other _ _ e2] at h2
      have := (own_heap hown h1).2.1
      have := (own_heap (h.own j (by omega)) h2).2.2; omega
    · rw [e2, upd_at] at h2; rw [upd_other _ _ e1] at h1
      have := (own_heap hown h2).2.1
      have := (own_heap (h.own i (by omega)) h1).2.2; omega
    · rw [upd_other _ _ e1] at h1; rw [upd_other _ _ e2] at h2
      exact h.dis i j g (by omega) (by omega) h1 h2
/-- The new row lies in the table. -/
theorem tabX_end {w w2 w3 : World} {m g cA g3 c3 : Nat} {VR : Nat → Value} {ls : Nat → List Int} {v : Value} {o : Obj} (hT : TT w2 w.heap.size (m + 1) (upd VR m v) ls) (hO : Outer w2 w.heap.size m (.slice (some ⟨g, 0, none⟩) m cA) VR) (hB : Below w.heap.size w w2)
    (hown : w3.ownsRow w.heap.size 23 1 (.slice (some ⟨g3, 0, none⟩) (m + 1) c3) (m + 1) ((List.range m).map VR ++ [v])) (hg : (w2.alloc o).grownBy w3 (Value.slice (some ⟨g, 0, none⟩) m cA).ownBlock) (hs : (w2.alloc o).heap.size = w2.heap.size + 1) :
    Outer w3 w.heap.size (m + 1) (.slice (some ⟨g3, 0, none⟩) (m + 1) c3) (upd VR m v) ∧ TT w3 w.heap.size (m + 1) (upd VR m v) ls ∧ Below w.heap.size w w3 := by
  have hW := (Below.refl w2.heap.size w2).alloc (Nat.le_refl _) o
  obtain ⟨⟨cs, hc⟩, hB2, _⟩ := own_heap (ownN_below hO hW) (g := g) rfl
  refine ⟨?_, (hT.below hW).keptBy hg (fun g' e => ?_), (hB.trans (hW.mono hB.size)).grown hg (by rw [hs]; have := hB.size; omega) (fun g' e => ?_)⟩
  · unfold Outer
    rw [List.range_succ, List.map_append]
    have e : (List.range m).map (upd VR m v) = (List.range m).map VR := List.map_congr_left fun i hi => upd_other _ _ (by have := List.mem_range.1 hi; omega)
    rw [e]
    simpa [upd_at] using hown
  · have : g = g' := by simpa [Value.ownBlock] using e
    subst this
    exact ⟨cs, _, hc, by decide⟩
  · have : g = g' := by simpa [Value.ownBlock] using e
    subst this
    exact hB2
/-- The cells of an entry. -/
theorem tab_cells {w : World} {B n g c a b : Nat} {VR : Nat → Value} {X : Nat → Nat → Int} (hO : Outer w B n (.slice (some ⟨g, 0, none⟩) n c) VR) (hT : TT w B n VR (rowX X n)) (ha : a < n) (hb : b < n) :
    ∃ gr cr, VR a = .slice (some ⟨gr, 0, none⟩) n cr ∧ w.cell? ⟨g, a, none⟩ = some (.slice (some ⟨gr, 0, none⟩) n cr) ∧ w.cell? ⟨gr, b, none⟩ = some (.int .i64 (X a b)) ∧ w.frozen? ⟨gr, b, none⟩ = false := by
  obtain ⟨gr, cr, e, hc⟩ := hT.cells ha (k := b) (by rw [rowX_len]; exact hb)
  rw [rowX_len] at e
  rw [rowX_get X hb] at hc
  have h1 := Outer.cell hO ha
  rw [e] at h1
  have h2 := hT.own a ha
  rw [e, rowX_len] at h2
  exact ⟨gr, cr, e, h1, hc, h2.frozenAt b⟩
/-- An entry changed. -/
theorem tab_set {w : World} {B n g c a b gr cr : Nat} {VR : Nat → Value} {X : Nat → Nat → Int} (v : Int) (hO : Outer w B n (.slice (some ⟨g, 0, none⟩) n c) VR) (hT : TT w B n VR (rowX X n)) (ha : a < n) (hb : b < n) (he : VR a = .slice (some ⟨gr, 0, none⟩) n cr) :
    Outer (w.setCell ⟨gr, b, none⟩ (.int .i64 v)) B n (.slice (some ⟨g, 0, none⟩) n c) VR ∧ TT (w.setCell ⟨gr, b, none⟩ (.int .i64 v)) B n VR (rowX (up2 X a b v) n) ∧ B ≤ gr := by
  have h1 := hT.own a ha
  rw [he, rowX_len] at h1
  obtain ⟨⟨cs, hcs⟩, hB, -⟩ := own_heap h1 (g := gr) rfl
  refine ⟨ownsRow_setCell_other hO (fun e => ?_) _, ⟨fun j hj => ?_, hT.dis⟩, hB⟩
  · obtain ⟨⟨cs', hc'⟩, _⟩ := own_heap hO e
    exact types_apart hcs hc' (by decide) rfl
  · by_cases e : j = a
    · subst e
      have h2 := (World.ownsRow.stored h1 b (.int .i64 v)).1
      rw [he, rowX_len]
      rw [← List.map_set, rowX_set X v hb] at h2
      exact h2
    · have hrow : rowX (up2 X a b v) n j = rowX X n j := rowX_congr fun i _ => up2_other _ _ (fun h => e h.1)
      rw [hrow]
      exact ownsRow_setCell_other (hT.own j hj) (fun e' => e (hT.dis j a gr hj ha e' (by rw [he]; rfl))) _
/-- What a table's call answers. -/
def NTab (w : World) (n : Nat) (X : Nat → Nat → Int) (e : Ending) (w' : World) : Prop :=
  ∃ v VR, e = .returned v ∧ Outer w' w.heap.size n v VR ∧ TT w' w.heap.size n VR (rowX X n) ∧ Below w.heap.size w w'
/-- The rows so far. -/
def RowsRel (w : World) (n : Nat) (v i : Value) (wr : World) : Prop :=
  ∃ m : Nat, ∃ VR g cA, m ≤ n ∧ i = .int .i64 m ∧ v = .slice (some ⟨g, 0, none⟩) m cA ∧ Outer wr w.heap.size m v VR ∧ TT wr w.heap.size m VR (rowX ownX n) ∧ Below w.heap.size w wr
/-- The row so far. -/
def RowRelX (w : World) (n m : Nat) (r k : Value) (wr : World) : Prop :=
  ∃ j : Nat, j ≤ n ∧ k = .int .i64 j ∧ wr.ownsRow w.heap.size 3 1 r j ((rowX ownX j m).map (Value.int .i64)) ∧ Below w.heap.size w wr

/-- A street does not make row a shorter, in neither sense. -/
def CzS (X : Nat → Nat → Int) (n : Nat) (ss : List Str) (i a : Nat) : Prop :=
  ∀ u v : Nat, (ss.getD i str0).1 = u → (ss.getD i str0).2.1 = v → Cz X a u v (ss.getD i str0).2.2 ∧ Cz X a v u (ss.getD i str0).2.2
/-- Made shorter, or as it was and all that was looked at is short. -/
def Chg (X0 X : Nat → Nat → Int) (n : Nat) (ch : Bool) (C : Prop) : Prop := (ch = true ∧ totX X n < totX X0 n) ∨ (ch = false ∧ X = X0 ∧ C)
theorem Chg.imp {X0 X : Nat → Nat → Int} {n : Nat} {ch : Bool} {C D : Prop} (h : Chg X0 X n ch C) (hi : C → D) : Chg X0 X n ch D := h.imp_right fun ⟨h1, h2, h3⟩ => ⟨h1, h2, hi h3⟩
theorem Chg.step {X0 X Y : Nat → Nat → Int} {n : Nat} {ch : Bool} {C D : Prop} (h : Chg X0 X n ch C) (hl : totX Y n < totX X n) : Chg X0 Y n true D := by
  left
  refine ⟨rfl, ?_⟩
  rcases h with ⟨_, h1⟩ | ⟨_, rfl, _⟩ <;> omega
/-- All that the loops over streets and rows have looked at, down to the turn. -/
def Seen (X : Nat → Nat → Int) (n : Nat) (ss : List Str) (s a t : Nat) : Prop :=
  (∀ i, i < s → ∀ b, b < n → CzS X n ss i b) ∧ (∀ b, b < a → CzS X n ss s b) ∧
    ∀ u v : Nat, (ss.getD s str0).1 = u → (ss.getD s str0).2.1 = v → (1 ≤ t → Cz X a u v (ss.getD s str0).2.2) ∧ (2 ≤ t → Cz X a v u (ss.getD s str0).2.2)
theorem seen_start (X : Nat → Nat → Int) (n : Nat) (ss : List Str) : Seen X n ss 0 0 0 := ⟨fun i hi => by omega, fun b hb => by omega, fun u v _ _ => ⟨fun h => by omega, fun h => by omega⟩⟩
theorem Seen.row {X : Nat → Nat → Int} {n : Nat} {ss : List Str} {s a : Nat} (h : Seen X n ss s a 2) : Seen X n ss s (a + 1) 0 :=
  ⟨h.1, fun b hb => by
    by_cases e : b = a
    · subst e; exact fun u v h1 h2 => ⟨(h.2.2 u v h1 h2).1 (by omega), (h.2.2 u v h1 h2).2 (by omega)⟩
    · exact h.2.1 b (by omega), fun u v _ _ => ⟨fun h => by omega, fun h => by omega⟩⟩
theorem Seen.street {X : Nat → Nat → Int} {n : Nat} {ss : List Str} {s : Nat} (h : Seen X n ss s n 0) : Seen X n ss (s + 1) 0 0 :=
  ⟨fun i hi b hb => by
    by_cases e : i = s
    · subst e; exact h.2.1 b hb
    · exact h.1 i (by omega) b hb, fun b hb => by omega, fun u v _ _ => ⟨fun h => by omega, fun h => by omega⟩⟩
theorem Seen.first {X : Nat → Nat → Int} {n : Nat} {ss : List Str} {s a u v : Nat} {L : Int} (h : Seen X n ss s a 0) (hp : ss.getD s str0 = ((u : Int), (v : Int), L)) (hc : Cz X a u v L) : Seen X n ss s a 1 :=
  ⟨h.1, h.2.1, fun u' v' h1 h2 => ⟨fun _ => by
    rw [hp] at h1 h2 ⊢
    simp only at h1 h2 ⊢
    have e1 : u' = u := by omega
    have e2 : v' = v := by omega
    rw [e1, e2]; exact hc, fun h => by omega⟩⟩
theorem Seen.second {X : Nat → Nat → Int} {n : Nat} {ss : List Str} {s a u v : Nat} {L : Int} (h : Seen X n ss s a 1) (hp : ss.getD s str0 = ((u : Int), (v : Int), L)) (hc : Cz X a v u L) : Seen X n ss s a 2 :=
  ⟨h.1, h.2.1, fun u' v' h1 h2 => ⟨fun _ => (h.2.2 u' v' h1 h2).1 (by omega), fun _ => by
    rw [hp] at h1 h2 ⊢
    simp only at h1 h2 ⊢
    have e1 : u' = u := by omega
    have e2 : v' = v := by omega
    rw [e1, e2]; exact hc⟩⟩
theorem seen_short {X : Nat → Nat → Int} {n : Nat} {ss : List Str} (hv : vnet n ss = true) (h : Rlx ss n X) (hs : Seen X n ss ss.length 0 0) : Short (SE ss) n X :=
  rlx_short h (fun p u v hp h1 h2 hu hv' a ha => by
    obtain ⟨i, hi, e⟩ := mem_getD3 hp
    have := hs.1 i hi a ha u v (by rw [e]; exact h1) (by rw [e]; exact h2)
    rw [e] at this; exact this) (se_lt hv)
/-- What a round of NetTable's loop keeps. -/
def NetRel (w : World) (ss : List Str) (n g c : Nat) (VR : Nat → Value) (X0 : Nat → Nat → Int) (s a t : Nat) (ch : Value) (wr : World) : Prop :=
  ∃ X b, ch = .bool b ∧ Rlx ss n X ∧ Chg X0 X n b (Seen X n ss s a t) ∧ Outer wr w.heap.size n (.slice (some ⟨g, 0, none⟩) n c) VR ∧ TT wr w.heap.size n VR (rowX X n) ∧ Below w.heap.size w wr
end Go.Proofs.Ytakljcpneghgnaa
