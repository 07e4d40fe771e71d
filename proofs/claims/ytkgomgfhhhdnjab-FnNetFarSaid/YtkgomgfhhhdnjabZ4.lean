/-
  Tables in memory: a row more, an entry changed; what the loops of NetTable keep.
  Conditions: none beyond what each theorem states.
  Nets: the table of shortest ways node by node, each one more a node in the middle.
  Conditions: as each theorem states.
  Words for tables of nets: what a table must answer, a table in memory while it is made shorter.
  Conditions: as each theorem states.
  The most sets without a common node, taken one by one, are the most nodes of a set that is fine.
  Conditions: at most seven nodes.
  Sets of nodes as numbers: covers and their least number, against nodes that are apart.
  Conditions: at most seven nodes.
-/
import Derived.Test.YtkgomgfhhhdnjabZ2
import Derived.Test.YtkgomgfhhhdnjabZ0
import Derived.Deep.LoopGhost
import Derived.BigRegion
import Derived.OneCell
import Derived.Maps.AppendAt
namespace Go.Proofs.Ytkgomgfhhhdnjab
open Go.ChangeShapes Go.WideShapes Go.ChangeAt Go.RowKit
set_option linter.unusedVariables false
set_option maxRecDepth 4000

/-- A table's row. -/
def rowX (X : Nat → Nat → Int) (n a : Nat) : List Int := (List.range n).map fun b => X a b
theorem rowX_len (X : Nat → Nat → Int) (n a : Nat) : (rowX X n a).length = n := by simp [rowX]
theorem rowX_get (X : Nat → Nat → Int) {n a b : Nat} (hb : b < n) : (rowX X n a).getD b 0 = X a b := by simp [rowX, List.getD, hb]
theorem rowX_congr {X Y : Nat → Nat → Int} {n a : Nat} (h : ∀ b, b < n → X a b = Y a b) : rowX X n a = rowX Y n a := by
  unfold rowX
  exact List.map_congr_left fun b hb => h b (List.mem_range.1 hb)
theorem rowX_step (X : Nat → Nat → Int) (n a : Nat) : rowX X (n + 1) a = rowX X n a ++ [X a n] := by
  unfold rowX
  rw [List.range_succ, List.map_append]; rfl
theorem rowX_set (X : Nat → Nat → Int) {n a b : Nat} (v : Int) (hb : b < n) : (rowX X n a).set b v = rowX (up2 X a b v) n a := by
  unfold rowX
  apply List.ext_getElem?
  intro i
  rw [List.getElem?_set]
  by_cases hi : i < n
  · by_cases e : b = i
    · subst e; simp [hi, up2_at]
    · have : ¬ (a = a ∧ i = b) := fun h => e h.2.symm
      simp [hi, e, up2_other X v this]
  · simp [hi]; omega
/-- A row more, made since. -/
theorem TT.addRow {w wq : World} {B m k : Nat} {VR : Nat → Value} {ls : Nat → List Int} {v : Value} {row : List Int} (h : TT w B m VR ls) (hB : B ≤ w.heap.size) (hb : Below w.heap.size w wq) (hk : row.length = k)
    (hown : wq.ownsRow w.heap.size 3 1 v k (row.map (Value.int .i64))) : TT wq B (m + 1) (upd VR m v) (upd ls m row) := by
  constructor
  · intro j hj
    by_cases e : j = m
    · subst e
      rw [upd_at, upd_at, hk]
      refine ⟨hown.1, ?_⟩
      rcases hown.2 with h0 | ⟨g, cap, cur, h1, h2, h3⟩
      · exact .inl h0
      · exact .inr ⟨g, cap, cur, h1, by omega, h3⟩
    · rw [upd_other _ _ e, upd_other _ _ e]
      exact ownN_below (h.own j (by omega)) hb
  · intro i j g hi hj h1 h2
    by_cases e1 : i = m <;> by_cases e2 : j = m
    · omega
    · rw [e1, upd_at] at h1; rw [upd_other _ _ e2] at h2
      have := (own_heap hown h1).2.1
      have := (own_heap (h.own j (by omega)) h2).2.2; omega
    · rw [e2, upd_at] at h2; rw [upd_other _ _ e1] at h1
      have := (own_heap hown h2).2.1
      have := (own_heap (h.own i (by omega)) h1).2.2; omega
    · rw [upd_other _ _ e1] at h1; rw [upd_other _ _ e2] at h2
      exact h.dis i j g (by omega) (by omega) h1 h2
/-- The new row lies in the table. -/
theorem tabX_end {w w2 w3 : World} {m g cA g3 c3 : Nat} {VR : Nat → Value} {ls : Nat → List Int} {v : Value} {o : Obj} (hT : TT w2 w.heap.size (m + 1) (upd VR m v) ls) (hO : Outer w2 w.heap.size m (.slice (some ⟨g, 0, none⟩) m cA) VR) (hB : Below w.heap.size w w2)
    (hown : w3.ownsRow w.heap.size 33 1 (.slice (some ⟨g3, 0, none⟩) (m + 1) c3) (m + 1) ((List.range m).map VR ++ [v])) (hg : (w2.alloc o).grownBy w3 (Value.slice (some ⟨g, 0, none⟩) m cA).ownBlock) (hs : (w2.alloc o).heap.size = w2.heap.size + 1) :
    Outer w3 w.heap.size (m + 1) (.slice (some ⟨g3, 0, none⟩) (m + 1) c3) (upd VR m v) ∧ TT w3 w.heap.size (m + 1) (upd VR m v) ls ∧ Below w.heap.size w w3 := by
  have hW := (Below.refl w2.heap.size w2).alloc (Nat.le_refl _) o
  obtain ⟨⟨cs, hc⟩, hB2, _⟩ := own_heap (ownN_below hO hW) (g := g) rfl
  refine ⟨?_, (hT.below hW).keptBy hg (fun g' e => ?_), (hB.trans (hW.mono hB.size)).grown hg (by rw [hs]; have := hB.size; omega) (fun g' e => ?_)⟩
  · unfold Outer
    rw [List.range_succ, List.map_append]
    have e : (List.range m).map (upd VR m v) = (List.range m).map VR := List.map_congr_left fun i hi => upd_other _ _ (by have := List.mem_range.1 hi; omega)
    rw [e]
    simpa [upd_at] using hown
  · have : g = g' := by simpa [Value.ownBlock] using e
    subst this
    exact ⟨cs, _, hc, by decide⟩
  · have : g = g' := by simpa [Value.ownBlock] using e
    subst this
    exact hB2
/-- The cells of an entry. -/
theorem tab_cells {w : World} {B n g c a b : Nat} {VR : Nat → Value} {X : Nat → Nat → Int} (hO : Outer w B n (.slice (some ⟨g, 0, none⟩) n c) VR) (hT : TT w B n VR (rowX X n)) (ha : a < n) (hb : b < n) :
    ∃ gr cr, VR a = .slice (some ⟨gr, 0, none⟩) n cr ∧ w.cell? ⟨g, a, none⟩ = some (.slice (some ⟨gr, 0, none⟩) n cr) ∧ w.cell? ⟨gr, b, none⟩ = some (.int .i64 (X a b)) ∧ w.frozen? ⟨gr, b, none⟩ = false := by
  obtain ⟨gr, cr, e, hc⟩ := hT.cells ha (k := b) (by rw [rowX_len]; exact hb)
  rw [rowX_len] at e
  rw [rowX_get X hb] at hc
  have h1 := Outer.cell hO ha
  rw [e] at h1
  have h2 := hT.own a ha
  rw [e, rowX_len] at h2
  exact ⟨gr, cr, e, h1, hc, h2.frozenAt b⟩
/-- An entry changed. -/
theorem tab_set {w : World} {B n g c a b gr cr : Nat} {VR : Nat → Value} {X : Nat → Nat → Int} (v : Int) (hO : Outer w B n (.slice (some ⟨g, 0, none⟩) n c) VR) (hT : TT w B n VR (rowX X n)) (ha : a < n) (hb : b < n) (he : VR a = .slice (some ⟨gr, 0, none⟩) n cr) :
    Outer (w.setCell ⟨gr, b, none⟩ (.int .i64 v)) B n (.slice (some ⟨g, 0, none⟩) n c) VR ∧ TT (w.setCell ⟨gr, b, none⟩ (.int .i64 v)) B n VR (rowX (up2 X a b v) n) ∧ B ≤ gr := by
  have h1 := hT.own a ha
  rw [he, rowX_len] at h1
  obtain ⟨⟨cs, hcs⟩, hB, -⟩ := own_heap h1 (g := gr) rfl
  refine ⟨ownsRow_setCell_other hO (fun e => ?_) _, ⟨fun j hj => ?_, hT.dis⟩, hB⟩
  · obtain ⟨⟨cs', hc'⟩, _⟩ := own_heap hO e
    exact types_apart hcs hc' (by decide) rfl
  · by_cases e : j = a
    · subst e
      have h2 := (World.ownsRow.stored h1 b (.int .i64 v)).1
      rw [he, rowX_len]
      rw [← List.map_set, rowX_set X v hb] at h2
      exact h2
    · have hrow : rowX (up2 X a b v) n j = rowX X n j := rowX_congr fun i _ => up2_other _ _ (fun h => e h.1)
      rw [hrow]
      exact ownsRow_setCell_other (hT.own j hj) (fun e' => e (hT.dis j a gr hj ha e' (by rw [he]; rfl))) _
/-- What a table's call answers. -/
def NTab (w : World) (n : Nat) (X : Nat → Nat → Int) (e : Ending) (w' : World) : Prop :=
  ∃ v VR, e = .returned v ∧ Outer w' w.heap.size n v VR ∧ TT w' w.heap.size n VR (rowX X n) ∧ Below w.heap.size w w'
/-- The rows so far. -/
def RowsRel (w : World) (n : Nat) (v i : Value) (wr : World) : Prop :=
  ∃ m : Nat, ∃ VR g cA, m ≤ n ∧ i = .int .i64 m ∧ v = .slice (some ⟨g, 0, none⟩) m cA ∧ Outer wr w.heap.size m v VR ∧ TT wr w.heap.size m VR (rowX ownX n) ∧ Below w.heap.size w wr
/-- The row so far. -/
def RowRelX (w : World) (n m : Nat) (r k : Value) (wr : World) : Prop :=
  ∃ j : Nat, j ≤ n ∧ k = .int .i64 j ∧ wr.ownsRow w.heap.size 3 1 r j ((rowX ownX j m).map (Value.int .i64)) ∧ Below w.heap.size w wr

/-- A street does not make row a shorter, in neither sense. -/
def CzS (X : Nat → Nat → Int) (n : Nat) (ss : List Str) (i a : Nat) : Prop :=
  ∀ u v : Nat, (ss.getD i str0).1 = u → (ss.getD i str0).2.1 = v → Cz X a u v (ss.getD i str0).2.2 ∧ Cz X a v u (ss.getD i str0).2.2
/-- Made shorter, or as it was and all that was looked at is short. -/
def Chg (X0 X : Nat → Nat → Int) (n : Nat) (ch : Bool) (C : Prop) : Prop := (ch = true ∧ totX X n < totX X0 n) ∨ (ch = false ∧ X = X0 ∧ C)
theorem Chg.imp {X0 X : Nat → Nat → Int} {n : Nat} {ch : Bool} {C D : Prop} (h : Chg X0 X n ch C) (hi : C → D) : Chg X0 X n ch D := h.imp_right fun ⟨h1, h2, h3⟩ => ⟨h1, h2, hi h3⟩
theorem Chg.step {X0 X Y : Nat → Nat → Int} {n : Nat} {ch : Bool} {C D : Prop} (h : Chg X0 X n ch C) (hl : totX Y n < totX X n) : Chg X0 Y n true D := by
  left
  refine ⟨rfl, ?_⟩
  rcases h with ⟨_, h1⟩ | ⟨_, rfl, _⟩ <;> omega
/-- All that the loops over streets and rows have looked at, down to the turn. -/
def Seen (X : Nat → Nat → Int) (n : Nat) (ss : List Str) (s a t : Nat) : Prop :=
  (∀ i, i < s → ∀ b, b < n → CzS X n ss i b) ∧ (∀ b, b < a → CzS X n ss s b) ∧
    ∀ u v : Nat, (ss.getD s str0).1 = u → (ss.getD s str0).2.1 = v → (1 ≤ t → Cz X a u v (ss.getD s str0).2.2) ∧ (2 ≤ t → Cz X a v u (ss.getD s str0).2.2)
theorem seen_start (X : Nat → Nat → Int) (n : Nat) (ss : List Str) : Seen X n ss 0 0 0 := ⟨fun i hi => by omega, fun b hb => by omega, fun u v _ _ => ⟨fun h => by omega, fun h => by omega⟩⟩
theorem Seen.row {X : Nat → Nat → Int} {n : Nat} {ss : List Str} {s a : Nat} (h : Seen X n ss s a 2) : Seen X n ss s (a + 1) 0 :=
  ⟨h.1, fun b hb => by
    by_cases e : b = a
    · subst e; exact fun u v h1 h2 => ⟨(h.2.2 u v h1 h2).1 (by omega), (h.2.2 u v h1 h2).2 (by omega)⟩
    · exact h.2.1 b (by omega), fun u v _ _ => ⟨fun h => by omega, fun h => by omega⟩⟩
theorem Seen.street {X : Nat → Nat → Int} {n : Nat} {ss : List Str} {s : Nat} (h : Seen X n ss s n 0) : Seen X n ss (s + 1) 0 0 :=
  ⟨fun i hi b hb => by
    by_cases e : i = s
    · subst e; exact h.2.1 b hb
    · exact h.1 i (by omega) b hb, fun b hb => by omega, fun u v _ _ => ⟨fun h => by omega, fun h => by omega⟩⟩
theorem Seen.first {X : Nat → Nat → Int} {n : Nat} {ss : List Str} {s a u v : Nat} {L : Int} (h : Seen X n ss s a 0) (hp : ss.getD s str0 = ((u : Int), (v : Int), L)) (hc : Cz X a u v L) : Seen X n ss s a 1 :=
  ⟨h.1, h.2.1, fun u' v' h1 h2 => ⟨fun _ => by
    rw [hp] at h1 h2 ⊢
    simp only at h1 h2 ⊢
    have e1 : u' = u := by omega
    have e2 : v' = v := by omega
    rw [e1, e2]; exact hc, fun h => by omega⟩⟩
theorem Seen.second {X : Nat → Nat → Int} {n : Nat} {ss : List Str} {s a u v : Nat} {L : Int} (h : Seen X n ss s a 1) (hp : ss.getD s str0 = ((u : Int), (v : Int), L)) (hc : Cz X a v u L) : Seen X n ss s a 2 :=
  ⟨h.1, h.2.1, fun u' v' h1 h2 => ⟨fun _ => (h.2.2 u' v' h1 h2).1 (by omega), fun _ => by
    rw [hp] at h1 h2 ⊢
    simp only at h1 h2 ⊢
    have e1 : u' = u := by omega
    have e2 : v' = v := by omega
    rw [e1, e2]; exact hc⟩⟩
theorem seen_short {X : Nat → Nat → Int} {n : Nat} {ss : List Str} (hv : vnet n ss = true) (h : Rlx ss n X) (hs : Seen X n ss ss.length 0 0) : Short (SE ss) n X :=
  rlx_short h (fun p u v hp h1 h2 hu hv' a ha => by
    obtain ⟨i, hi, e⟩ := mem_getD3 hp
    have := hs.1 i hi a ha u v (by rw [e]; exact h1) (by rw [e]; exact h2)
    rw [e] at this; exact this) (se_lt hv)
/-- What a round of NetTable's loop keeps. -/
def NetRel (w : World) (ss : List Str) (n g c : Nat) (VR : Nat → Value) (X0 : Nat → Nat → Int) (s a t : Nat) (ch : Value) (wr : World) : Prop :=
  ∃ X b, ch = .bool b ∧ Rlx ss n X ∧ Chg X0 X n b (Seen X n ss s a t) ∧ Outer wr w.heap.size n (.slice (some ⟨g, 0, none⟩) n c) VR ∧ TT wr w.heap.size n VR (rowX X n) ∧ Below w.heap.size w wr
end Go.Proofs.Ytkgomgfhhhdnjab
namespace Go.Proofs.Ytkgomgfhhhdnjab
open Go.ChangeShapes Go.WideShapes Go.ChangeAt Go.RowKit
set_option linter.unusedVariables false

/-- The table with the first k streets alone. -/
structure Nb1 (ss : List Str) (n k : Nat) (X : Nat → Nat → Int) : Prop where
  zero : ∀ a, a < n → X a a = 0
  symm : ∀ a b, X a b = X b a
  way : ∀ a b, a < n → b < n → X a b = -1 ∨ (0 ≤ X a b ∧ Wk (SE ss) n a b (X a b))
  bd : ∀ a b, a < n → b < n → X a b ≤ 9
  cl : ∀ i, i < k → ∀ u v : Nat, (ss.getD i str0).1 = u → (ss.getD i str0).2.1 = v → 0 ≤ X u v ∧ X u v ≤ (ss.getD i str0).2.2
theorem nb1_start (ss : List Str) (n : Nat) : Nb1 ss n 0 ownX where
  zero a _ := by simp [ownX]
  symm a b := by unfold ownX; by_cases h : a = b <;> simp [h, eq_comm]
  way := (rlx_start ss n).way
  bd a b _ _ := by unfold ownX; split <;> omega
  cl i hi := by omega
theorem nb1_skip {ss : List Str} {n k u v : Nat} {L : Int} {X : Nat → Nat → Int} (h : Nb1 ss n k X) (hp : ss.getD k str0 = ((u : Int), (v : Int), L)) (hc : ¬ (X u v < 0 ∨ L < X u v)) : Nb1 ss n (k + 1) X :=
  ⟨h.zero, h.symm, h.way, h.bd, fun i hi u' v' h1 h2 => by
    by_cases e : i = k
    · subst e
      rw [hp] at h1 h2 ⊢
      simp only at h1 h2 ⊢
      have e1 : u' = u := by omega
      have e2 : v' = v := by omega
      subst e1 e2
      omega
    · exact h.cl i (by omega) u' v' h1 h2⟩
theorem nb1_step {ss : List Str} {n k u v : Nat} {L : Int} {X : Nat → Nat → Int} (h : Nb1 ss n k X) (hk : k < ss.length) (hp : ss.getD k str0 = ((u : Int), (v : Int), L)) (hu : u < n) (hv : v < n) (hL : 1 ≤ L ∧ L ≤ 9) (hc : X u v < 0 ∨ L < X u v) : Nb1 ss n (k + 1) (up2 (up2 X u v L) v u L) := by
  have hne : u ≠ v := fun e => by subst e; rw [h.zero u hu] at hc; omega
  have hmem : (((u : Int), (v : Int), L) : Str) ∈ ss := by rw [← hp]; exact getD_mem3 hk
  have e1 : ∀ a b, (a = u ∧ b = v) ∨ (a = v ∧ b = u) → up2 (up2 X u v L) v u L a b = L := fun a b h => by
    unfold up2
    rcases h with ⟨rfl, rfl⟩ | ⟨rfl, rfl⟩
    · rw [if_neg (fun e => hne e.1), if_pos ⟨rfl, rfl⟩]
    · rw [if_pos ⟨rfl, rfl⟩]
  have e2 : ∀ a b, ¬ ((a = u ∧ b = v) ∨ (a = v ∧ b = u)) → up2 (up2 X u v L) v u L a b = X a b := fun a b h => by
    unfold up2
    rw [if_neg (fun e => h (.inr e)), if_neg (fun e => h (.inl e))]
  refine ⟨fun a ha => ?_, fun a b => ?_, fun a b ha hb => ?_, fun a b ha hb => ?_, fun i hi u' v' h1 h2 => ?_⟩
  · rw [e2 a a (by omega)]; exact h.zero a ha
  · by_cases e : (a = u ∧ b = v) ∨ (a = v ∧ b = u)
    · rw [e1 a b e, e1 b a (by omega)]
    · rw [e2 a b e, e2 b a (by omega)]; exact h.symm a b
  · by_cases e : (a = u ∧ b = v) ∨ (a = v ∧ b = u)
    · rw [e1 a b e]
      refine .inr ⟨by omega, ?_⟩
      have := Wk.snoc a b 0 L (Wk.nil ha) (show SE ss a b L from ⟨_, hmem, rfl, by
        rcases e with ⟨rfl, rfl⟩ | ⟨rfl, rfl⟩
        · exact .inl ⟨rfl, rfl⟩
        · exact .inr ⟨rfl, rfl⟩⟩) hb
      rw [Int.zero_add] at this
      exact this
    · rw [e2 a b e]; exact h.way a b ha hb
  · by_cases e : (a = u ∧ b = v) ∨ (a = v ∧ b = u)
    · rw [e1 a b e]; exact hL.2
    · rw [e2 a b e]; exact h.bd a b ha hb
  · by_cases ei : i = k
    · subst ei
      rw [hp] at h1 h2 ⊢
      simp only at h1 h2 ⊢
      have e1' : u' = u := by omega
      have e2' : v' = v := by omega
      subst e1' e2'
      rw [e1 _ _ (.inl ⟨rfl, rfl⟩)]
      omega
    · have := h.cl i (by omega) u' v' h1 h2
      by_cases e : (u' = u ∧ v' = v) ∨ (u' = v ∧ v' = u)
      · rw [e1 _ _ e]
        have hX : X u' v' = X u v := by
          rcases e with ⟨rfl, rfl⟩ | ⟨rfl, rfl⟩
          · rfl
          · exact h.symm _ _
        omega
      · rw [e2 _ _ e]; exact this
/-- The table with the first m nodes in the middle. -/
structure Nb2 (ss : List Str) (n m : Nat) (X : Nat → Nat → Int) : Prop where
  zero : ∀ a, a < n → X a a = 0
  way : ∀ a b, a < n → b < n → X a b = -1 ∨ (0 ≤ X a b ∧ Wk (SE ss) n a b (X a b))
  bd : ∀ a b, a < n → b < n → X a b ≤ ((9 * 2 ^ m : Nat) : Int)
  cl : ∀ u v L, SE ss u v L → 0 ≤ X u v ∧ X u v ≤ L
  tri : ∀ a b c, a < n → b < n → c < m → big (X a b) ≤ big (X a c) + big (X c b)
theorem nb2_start {ss : List Str} {n : Nat} {X : Nat → Nat → Int} (h : Nb1 ss n ss.length X) : Nb2 ss n 0 X where
  zero := h.zero
  way := h.way
  bd a b ha hb := h.bd a b ha hb
  cl u v L he := by
    obtain ⟨p, hp, rfl, h1⟩ := he
    obtain ⟨i, hi, e⟩ := mem_getD3 hp
    rcases h1 with ⟨h1, h2⟩ | ⟨h1, h2⟩
    · have := h.cl i hi u v (by rw [e]; exact h1) (by rw [e]; exact h2)
      rw [e] at this; exact this
    · have := h.cl i hi v u (by rw [e]; exact h1) (by rw [e]; exact h2)
      rw [e, h.symm v u] at this; exact this
  tri a b c _ _ hc := by omega
/-- One node more in the middle. -/
def fwX (X : Nat → Nat → Int) (m i j : Nat) : Int := if 0 ≤ X i m ∧ 0 ≤ X m j ∧ (X i j < 0 ∨ X i m + X m j < X i j) then X i m + X m j else X i j
theorem fw_col {X : Nat → Nat → Int} {m : Nat} (h : X m m = 0) (i : Nat) : fwX X m i m = X i m := by
  unfold fwX
  rw [h, if_neg (by omega)]
theorem fw_row {X : Nat → Nat → Int} {m : Nat} (h : X m m = 0) (j : Nat) : fwX X m m j = X m j := by
  unfold fwX
  rw [h, if_neg (by omega)]
theorem pow_le_128 {m : Nat} (h : m ≤ 7) : 9 * 2 ^ m ≤ 1152 := by
  have := Nat.pow_le_pow_right (show 2 > 0 by omega) h
  omega
theorem Nb2.le {ss : List Str} {n m : Nat} {X : Nat → Nat → Int} (h : Nb2 ss n m X) (hm : m ≤ 7) {a b : Nat} (ha : a < n) (hb : b < n) : -1 ≤ X a b ∧ X a b ≤ 1152 := by
  have h1 := h.bd a b ha hb
  have h2 := pow_le_128 hm
  rcases h.way a b ha hb with h3 | ⟨h3, -⟩ <;> omega
theorem fw_big {x y z : Int} (h1 : -1 ≤ x) (h2 : -1 ≤ y) (h3 : -1 ≤ z) (h4 : x ≤ 1152) (h5 : y ≤ 1152) (h6 : z ≤ 1152) :
    big (if 0 ≤ y ∧ 0 ≤ z ∧ (x < 0 ∨ y + z < x) then y + z else x) = min (big x) (min 1000000 (big y + big z)) := by
  unfold big
  by_cases c : 0 ≤ y ∧ 0 ≤ z ∧ (x < 0 ∨ y + z < x)
  · rw [if_pos c, if_neg (show ¬ y + z < 0 by omega), if_neg (show ¬ y < 0 by omega), if_neg (show ¬ z < 0 by omega)]
    by_cases hx : x < 0
    · rw [if_pos hx]; omega
    · rw [if_neg hx]; omega
  · rw [if_neg c]
    by_cases hx : x < 0 <;> by_cases hy : y < 0 <;> by_cases hz : z < 0 <;> simp only [hx, hy, hz, if_true, if_false] <;> omega
theorem nb2_step {ss : List Str} {n m : Nat} {X : Nat → Nat → Int} (h : Nb2 ss n m X) (hm : m < n) (h7 : n ≤ 7) : Nb2 ss n (m + 1) (fwX X m) where
  zero a ha := by
    unfold fwX
    rw [h.zero a ha, if_neg (by omega)]
  way a b ha hb := by
    unfold fwX
    split
    · rename_i hc
      rcases h.way a m ha hm with h1 | ⟨h1, w1⟩
      · omega
      · rcases h.way m b hm hb with h2 | ⟨h2, w2⟩
        · omega
        · exact .inr ⟨by omega, w1.join w2⟩
    · exact h.way a b ha hb
  bd a b ha hb := by
    have h1 := h.bd a b ha hb
    have h2 := h.bd a m ha hm
    have h3 := h.bd m b hm hb
    have e : 9 * 2 ^ (m + 1) = 9 * 2 ^ m + 9 * 2 ^ m := by rw [Nat.pow_succ]; omega
    rw [e]
    unfold fwX
    split <;> omega
  cl u v L he := by
    have := h.cl u v L he
    unfold fwX
    split <;> omega
  tri := by
    refine middles_step (X := X) (Y := fwX X m) (fun a b ha hb => ?_) hm (h.zero m hm) (fun a b ha hb => ?_) h.tri
    · have := h.le (by omega) ha hb; omega
    · have h1 := h.le (by omega) ha hb
      have h2 := h.le (by omega) ha hm
      have h3 := h.le (by omega) hm hb
      exact fw_big h1.1 h2.1 h3.1 h1.2 h2.2 h3.2
theorem nb2_end {ss : List Str} {n : Nat} {X : Nat → Nat → Int} (hv : vnet n ss = true) (h7 : n ≤ 7) (h : Nb2 ss n n X) : Short (SE ss) n X where
  zero := h.zero
  step a u v L ha he hv' h0 := by
    have hu := (se_lt hv u v L he).1
    have h1 := h.cl u v L he
    have h2 := h.tri a v u ha hv' hu
    have h3 := h.le h7 ha hu
    have h4 := h.le h7 hu hv'
    have h5 := h.le h7 ha hv'
    unfold big at h2
    rw [if_neg (show ¬ X a u < 0 by omega), if_neg (show ¬ X u v < 0 by omega)] at h2
    split at h2 <;> omega
  way := h.way
/-- In the middle of a round. -/
def fwM (X : Nat → Nat → Int) (m a b : Nat) : Nat → Nat → Int := fun i j => if i < a ∨ (i = a ∧ j < b) then fwX X m i j else X i j
end Go.Proofs.Ytkgomgfhhhdnjab
namespace Go.Proofs.Ytkgomgfhhhdnjab
open Go.ChangeShapes Go.WideShapes Go.ChangeAt Go.RowKit
set_option linter.unusedVariables false
set_option maxRecDepth 4000

/-- What a net's table's call answers: nil for what is no net, else the rows. -/
def NetAns (w : World) (n : Int) (ss : List Str) (e : Ending) (w' : World) : Prop :=
  (vnet n ss = false ∧ e = .returned (.slice none 0 0) ∧ Below w.heap.size w w') ∨ (vnet n ss = true ∧ NTab w n.toNat (sht n.toNat ss) e w')
theorem vnet_nat {n : Int} {ss : List Str} (h : vnet n ss = true) : ∃ k : Nat, n = k ∧ 1 ≤ k ∧ k ≤ 7 := by
  obtain ⟨h1, -⟩ := (vnet_iff n ss).1 h
  exact ⟨n.toNat, by omega, by omega, by omega⟩
/-- Without streets. -/
theorem vnet_empty {n : Int} {ss : List Str} (h : vnet n ss = true) : vnet n [] = true := by
  obtain ⟨h1, -⟩ := (vnet_iff n ss).1 h
  exact (vnet_iff _ _).2 ⟨h1, by simp, fun p hp => by cases hp⟩
theorem sht_empty {n : Nat} (hv : vnet n [] = true) {a b : Nat} (ha : a < n) (hb : b < n) : sht n [] a b = ownX a b := by
  refine (sht_is hv ⟨(rlx_start [] n).zero, fun a u v L _ he => ?_, (rlx_start [] n).way⟩ ha hb).symm
  obtain ⟨p, hp, _⟩ := he
  cases hp
theorem fwM_col {X : Nat → Nat → Int} {m a b : Nat} (h0 : X m m = 0) : fwM X m a b a m = X a m := by
  unfold fwM; split
  · exact fw_col h0 a
  · rfl
theorem fwM_row {X : Nat → Nat → Int} {m a b j : Nat} (h0 : X m m = 0) : fwM X m a b m j = X m j := by
  unfold fwM; split
  · exact fw_row h0 j
  · rfl
theorem fwM_at {X : Nat → Nat → Int} {m a b : Nat} : fwM X m a b a b = X a b := by
  unfold fwM; rw [if_neg (by omega)]
theorem fwM_next {X : Nat → Nat → Int} {m a b : Nat} {v : Int} (h : fwX X m a b = v) (i j : Nat) : up2 (fwM X m a b) a b v i j = fwM X m a (b + 1) i j := by
  unfold up2 fwM
  by_cases e : i = a ∧ j = b
  · obtain ⟨rfl, rfl⟩ := e
    rw [if_pos ⟨rfl, rfl⟩, if_pos (by omega), h]
  · rw [if_neg e]
    by_cases h1 : i < a ∨ (i = a ∧ j < b)
    · rw [if_pos h1, if_pos (by omega)]
    · rw [if_neg h1, if_neg (by omega)]
theorem fwM_same {X : Nat → Nat → Int} {m a b : Nat} (h : fwX X m a b = X a b) (i j : Nat) : fwM X m a b i j = fwM X m a (b + 1) i j := by
  unfold fwM
  by_cases h1 : i < a ∨ (i = a ∧ j < b)
  · rw [if_pos h1, if_pos (by omega)]
  · rw [if_neg h1]
    by_cases e : i = a ∧ j = b
    · obtain ⟨rfl, rfl⟩ := e
      rw [if_pos (by omega), h]
    · rw [if_neg (by omega)]
theorem fwM_line {X : Nat → Nat → Int} {n m a i j : Nat} (hj : j < n) : fwM X m a n i j = fwM X m (a + 1) 0 i j := by
  unfold fwM
  by_cases h1 : i < a ∨ (i = a ∧ j < n)
  · rw [if_pos h1, if_pos (by omega)]
  · rw [if_neg h1, if_neg (by omega)]
theorem fwM_zero {X : Nat → Nat → Int} {m i j : Nat} : fwM X m 0 0 i j = X i j := by
  unfold fwM; rw [if_neg (by omega)]
theorem fwM_end {X : Nat → Nat → Int} {n m i j : Nat} (hi : i < n) : fwM X m n 0 i j = fwX X m i j := by
  unfold fwM; rw [if_pos (by omega)]
theorem fwX_yes {X : Nat → Nat → Int} {m a b : Nat} {x y z : Int} (h1 : X a m = x) (h2 : X m b = y) (h3 : X a b = z) (hx : 0 ≤ x) (hy : 0 ≤ y) (hz : z < 0 ∨ x + y < z) : fwX X m a b = x + y := by
  unfold fwX; rw [h1, h2, h3, if_pos ⟨hx, hy, hz⟩]
theorem fwX_no {X : Nat → Nat → Int} {m a b : Nat} {x y z : Int} (h1 : X a m = x) (h2 : X m b = y) (h3 : X a b = z) (h : ¬ (0 ≤ x ∧ 0 ≤ y ∧ (z < 0 ∨ x + y < z))) : fwX X m a b = X a b := by
  unfold fwX; rw [h1, h2, h3, if_neg h]
/-- A table in memory. -/
structure TabX (w wr : World) (n g cA : Nat) (VR : Nat → Value) (X : Nat → Nat → Int) : Prop where
  out : Outer wr w.heap.size n (.slice (some ⟨g, 0, none⟩) n cA) VR
  row : TT wr w.heap.size n VR (rowX X n)
  bel : Below w.heap.size w wr
theorem TabX.congr {w wr : World} {n g cA : Nat} {VR : Nat → Value} {X Y : Nat → Nat → Int} (h : TabX w wr n g cA VR X) (he : ∀ i j, i < n → j < n → X i j = Y i j) : TabX w wr n g cA VR Y :=
  ⟨h.out, h.row.congr fun i hi => rowX_congr fun j hj => he i j hi hj, h.bel⟩
theorem TabX.drewN {w wr : World} {n g cA : Nat} {VR : Nat → Value} {X : Nat → Nat → Int} (h : TabX w wr n g cA VR X) (q : Nat) : TabX w (wr.drewN q) n g cA VR X :=
  ⟨h.out.drewN q, h.row.drewN q, below_drewN h.bel q⟩
theorem TabX.set {w wr : World} {n g cA a b gr cr : Nat} {VR : Nat → Value} {X : Nat → Nat → Int} (v : Int) (h : TabX w wr n g cA VR X) (ha : a < n) (hb : b < n) (he : VR a = .slice (some ⟨gr, 0, none⟩) n cr) :
    TabX w (wr.setCell ⟨gr, b, none⟩ (.int .i64 v)) n g cA VR (up2 X a b v) := by
  obtain ⟨h1, h2, h3⟩ := tab_set v h.out h.row ha hb he
  exact ⟨h1, h2, h.bel.setCell (p := ⟨gr, b, none⟩) h3 _⟩
theorem TabX.cells {w wr : World} {n g cA a b : Nat} {VR : Nat → Value} {X : Nat → Nat → Int} (h : TabX w wr n g cA VR X) (ha : a < n) (hb : b < n) :
    ∃ gr cr, VR a = .slice (some ⟨gr, 0, none⟩) n cr ∧ wr.cell? ⟨g, a, none⟩ = some (.slice (some ⟨gr, 0, none⟩) n cr) ∧ wr.cell? ⟨gr, b, none⟩ = some (.int .i64 (X a b)) ∧ wr.frozen? ⟨gr, b, none⟩ = false := tab_cells h.out h.row ha hb
theorem TabX.cell {w wr : World} {n g cA a b gr cr : Nat} {VR : Nat → Value} {X : Nat → Nat → Int} (h : TabX w wr n g cA VR X) (ha : a < n) (hb : b < n) (he : VR a = .slice (some ⟨gr, 0, none⟩) n cr) :
    wr.cell? ⟨g, a, none⟩ = some (.slice (some ⟨gr, 0, none⟩) n cr) ∧ wr.cell? ⟨gr, b, none⟩ = some (.int .i64 (X a b)) ∧ wr.frozen? ⟨gr, b, none⟩ = false := by
  obtain ⟨gr', cr', e, h1, h2, h3⟩ := h.cells ha hb
  have e2 := he.symm.trans e
  injection e2 with e3 _ e5
  injection e3 with e3
  injection e3 with e3
  subst e3 e5
  exact ⟨h1, h2, h3⟩
theorem TabX.rowAt {w wr : World} {n g cA a : Nat} {VR : Nat → Value} {X : Nat → Nat → Int} (h : TabX w wr n g cA VR X) (ha : a < n) : ∃ gr cr, VR a = .slice (some ⟨gr, 0, none⟩) n cr := by
  obtain ⟨gr, cr, e, _⟩ := h.cells ha ha
  exact ⟨gr, cr, e⟩
end Go.Proofs.Ytkgomgfhhhdnjab
namespace Go.Proofs.Ytkgomgfhhhdnjab
open Go.ChangeShapes Go.WideShapes Go.ChangeAt Go.RowKit
set_option linter.unusedVariables false

/-- How many bits a number below 2^f has. -/
def bc : Nat → Nat → Nat
  | 0, _ => 0
  | f + 1, s => s % 2 + bc f (s / 2)
/-- The bits from k on, m of them. -/
def cn (s : Nat) : Nat → Nat → Nat
  | 0, _ => 0
  | m + 1, k => (if s.testBit k then 1 else 0) + cn s m (k + 1)
theorem cn_all : ∀ n : Fin 8, ∀ s : Fin 128, s.val < 2 ^ n.val → cn s.val n.val 0 = bc 7 s.val := by decide +kernel
theorem pow_128 {n s : Nat} (h7 : n ≤ 7) (hs : s < 2 ^ n) : s < 128 := Nat.lt_of_lt_of_le hs (Nat.pow_le_pow_right (by omega) h7 : 2 ^ n ≤ 2 ^ 7)
theorem cn_bc {n s : Nat} (h7 : n ≤ 7) (hs : s < 2 ^ n) : cn s n 0 = bc 7 s := cn_all ⟨n, by omega⟩ ⟨s, pow_128 h7 hs⟩ hs
theorem or_all : ∀ s : Fin 128, ∀ i : Fin 7, s.val.testBit i.val = false → bc 7 (s.val ||| 2 ^ i.val) = bc 7 s.val + 1 := by decide +kernel
/-- No common bit. -/
def Dj (x y : Nat) : Prop := ∀ v, ¬ (x.testBit v = true ∧ y.testBit v = true)
theorem dj_and {x y : Nat} : x &&& y = 0 ↔ Dj x y := by
  constructor
  · intro h v ⟨h1, h2⟩
    have := Nat.testBit_and x y v
    rw [h, h1, h2] at this
    simp at this
  · intro h
    apply Nat.eq_of_testBit_eq
    intro v
    rw [Nat.testBit_and]
    have := h v
    simp only [Nat.zero_testBit]
    cases h1 : x.testBit v <;> cases h2 : y.testBit v <;> simp_all
theorem dj_or {x y z : Nat} : Dj x (y ||| z) ↔ Dj x y ∧ Dj x z := by
  constructor
  · intro h
    exact ⟨fun v ⟨h1, h2⟩ => h v ⟨h1, by rw [Nat.testBit_or, h2]; rfl⟩, fun v ⟨h1, h2⟩ => h v ⟨h1, by rw [Nat.testBit_or, h2]; simp⟩⟩
  · rintro ⟨h1, h2⟩ v ⟨h3, h4⟩
    rw [Nat.testBit_or, Bool.or_eq_true] at h4
    rcases h4 with h4 | h4
    · exact h1 v ⟨h3, h4⟩
    · exact h2 v ⟨h3, h4⟩
theorem dj_comm {x y : Nat} (h : Dj x y) : Dj y x := fun v ⟨h1, h2⟩ => h v ⟨h2, h1⟩
/-- The most sets N k, N (k + 1) .. (m of them) of which no two have a common bit, nor one of those taken. -/
def mw (N : Nat → Nat) : Nat → Nat → Nat → Nat
  | 0, _, _ => 0
  | m + 1, k, T => if N k &&& T = 0 then max (mw N m (k + 1) T) (1 + mw N m (k + 1) (T ||| N k)) else mw N m (k + 1) T
theorem mw_bd (N : Nat → Nat) : ∀ m k T, mw N m k T ≤ m
  | 0, _, _ => Nat.le_refl _
  | m + 1, k, T => by
    have h1 := mw_bd N m (k + 1) T
    have h2 := mw_bd N m (k + 1) (T ||| N k)
    simp only [mw]; split <;> omega
/-- The sets of s, from k on, have no common bit, nor one of T. -/
def FineN (N : Nat → Nat) (s k T : Nat) : Prop := (∀ i, k ≤ i → s.testBit i = true → Dj (N i) T) ∧ ∀ i j, k ≤ i → i < j → s.testBit i = true → s.testBit j = true → Dj (N i) (N j)
theorem mw_ge (N : Nat → Nat) (s : Nat) : ∀ m k T, FineN N s k T → cn s m k ≤ mw N m k T
  | 0, _, _, _ => Nat.le_refl _
  | m + 1, k, T, h => by
    have h0 : FineN N s (k + 1) T := ⟨fun i hi hs => h.1 i (by omega) hs, fun i j hi hij h1 h2 => h.2 i j (by omega) hij h1 h2⟩
    have ih := mw_ge N s m (k + 1) T h0
    simp only [cn, mw]
    by_cases hk : s.testBit k = true
    · have hd := h.1 k (Nat.le_refl _) hk
      rw [if_pos hk, if_pos (dj_and.2 hd)]
      have h1 : FineN N s (k + 1) (T ||| N k) := ⟨fun i hi hs => dj_or.2 ⟨h.1 i (by omega) hs, dj_comm (h.2 k i (Nat.le_refl _) (by omega) hk hs)⟩, h0.2⟩
      have ih1 := mw_ge N s m (k + 1) (T ||| N k) h1
      omega
    · rw [if_neg hk]
      split <;> omega
theorem mw_at (N : Nat → Nat) {n : Nat} (h7 : n ≤ 7) : ∀ m k T, k + m = n → ∃ s, s < 2 ^ n ∧ (∀ i, i < k → s.testBit i = false) ∧ FineN N s k T ∧ bc 7 s = mw N m k T
  | 0, k, T, _ => ⟨0, Nat.two_pow_pos n, fun i _ => Nat.zero_testBit i, ⟨fun i _ h => by simp at h, fun i j _ _ h => by simp at h⟩, rfl⟩
  | m + 1, k, T, hn => by
    have keep : ∀ {s}, (∀ i, i < k + 1 → s.testBit i = false) → FineN N s (k + 1) T → FineN N s k T := fun hz hf =>
      ⟨fun i hi hs => hf.1 i (by by_cases e : i = k; · subst e; rw [hz i (by omega)] at hs; cases hs
                                 · omega) hs,
       fun i j hi hij h1 h2 => hf.2 i j (by by_cases e : i = k; · subst e; rw [hz i (by omega)] at h1; cases h1
                                            · omega) hij h1 h2⟩
    obtain ⟨s1, a1, b1, c1, d1⟩ := mw_at N h7 m (k + 1) T (by omega)
    simp only [mw]
    by_cases hd : N k &&& T = 0
    · rw [if_pos hd]
      obtain ⟨s2, a2, b2, c2, d2⟩ := mw_at N h7 m (k + 1) (T ||| N k) (by omega)
      by_cases hle : mw N m (k + 1) T ≤ 1 + mw N m (k + 1) (T ||| N k)
      · have hk7 : k < 7 := by omega
        have hs2 := pow_128 h7 a2
        have hbit : ∀ i, (s2 ||| 2 ^ k).testBit i = true → i = k ∨ s2.testBit i = true := fun i hi => by
          rw [Nat.testBit_or, Bool.or_eq_true] at hi
          rcases hi with hi | hi
          · exact .inr hi
          · rw [Nat.testBit_two_pow] at hi; simp at hi; exact .inl hi.symm
        refine ⟨s2 ||| 2 ^ k, Nat.or_lt_two_pow a2 (Nat.pow_lt_pow_right (by omega) (by omega)), fun i hi => ?_, ⟨fun i hi hs => ?_, fun i j hi hij h1 h2 => ?_⟩, ?_⟩
        · rw [Nat.testBit_or, b2 i (by omega), Nat.testBit_two_pow]; simp; omega
        · rcases hbit i hs with rfl | hs'
          · exact dj_and.1 hd
          · have hik : k + 1 ≤ i := by
              by_cases e : i = k
              · subst e; rw [b2 i (by omega)] at hs'; cases hs'
              · omega
            exact (dj_or.1 (c2.1 i hik hs')).1
        · rcases hbit j h2 with rfl | hj
          · omega
          · have hjk : k + 1 ≤ j := by omega
            rcases hbit i h1 with rfl | hi'
            · exact dj_comm (dj_or.1 (c2.1 j hjk hj)).2
            · have hik : k + 1 ≤ i := by
                by_cases e : i = k
                · subst e; rw [b2 i (by omega)] at hi'; cases hi'
                · omega
              exact c2.2 i j hik hij hi' hj
        · rw [or_all ⟨s2, hs2⟩ ⟨k, hk7⟩ (b2 k (by omega)), d2]; omega
      · exact ⟨s1, a1, fun i hi => b1 i (by omega), keep b1 c1, by rw [d1]; omega⟩
    · rw [if_neg hd]
      exact ⟨s1, a1, fun i hi => b1 i (by omega), keep b1 c1, d1⟩
/-- How many of a set are near a node, of the nodes below m. -/
def nrB (d : Nat → Nat → Int) (far : Int) (s v : Nat) : Nat → Nat
  | 0 => 0
  | m + 1 => nrB d far s v m + (if s.testBit m = true ∧ 0 ≤ d v m ∧ d v m ≤ far then 1 else 0)
/-- Whether at each node below v at most one of the set is near. -/
def fnB (d : Nat → Nat → Int) (far : Int) (s n : Nat) : Nat → Bool
  | 0 => true
  | v + 1 => fnB d far s n v && decide (nrB d far s v n ≤ 1)
def pkB (d : Nat → Nat → Int) (far : Int) (n : Nat) : Nat → Nat
  | 0 => 0
  | S + 1 => if fnB d far S n n = true then max (pkB d far n S) (bc 7 S) else pkB d far n S
theorem fnB_iff {d : Nat → Nat → Int} {far : Int} {s n : Nat} : ∀ m, fnB d far s n m = true ↔ ∀ v, v < m → nrB d far s v n ≤ 1
  | 0 => by simp [fnB]
  | m + 1 => by
    simp only [fnB, Bool.and_eq_true, fnB_iff m, decide_eq_true_eq]
    constructor
    · rintro ⟨h1, h2⟩ v hv
      by_cases e : v = m
      · subst e; exact h2
      · exact h1 v (by omega)
    · intro h
      exact ⟨fun v hv => h v (by omega), h m (by omega)⟩
theorem le_pkB {d : Nat → Nat → Int} {far : Int} {n : Nat} : ∀ {S s : Nat}, s < S → fnB d far s n n = true → bc 7 s ≤ pkB d far n S
  | 0, s, h, _ => by omega
  | S + 1, s, h, hf => by
    simp only [pkB]
    by_cases e : s = S
    · subst e; rw [if_pos hf]; omega
    · have := le_pkB (d := d) (far := far) (n := n) (show s < S by omega) hf
      split <;> omega
theorem pkB_le {d : Nat → Nat → Int} {far : Int} {n c : Nat} : ∀ S, (∀ s, s < S → fnB d far s n n = true → bc 7 s ≤ c) → pkB d far n S ≤ c
  | 0, _ => Nat.zero_le _
  | S + 1, h => by
    have ih := pkB_le (d := d) (far := far) (n := n) S fun s hs => h s (by omega)
    simp only [pkB]
    split
    · rename_i hf
      have := h S (by omega) hf
      omega
    · exact ih
theorem nrB_none {d : Nat → Nat → Int} {far : Int} {s v : Nat} : ∀ {m}, (∀ i, i < m → ¬ (s.testBit i = true ∧ 0 ≤ d v i ∧ d v i ≤ far)) → nrB d far s v m = 0
  | 0, _ => rfl
  | m + 1, h => by simp only [nrB]; rw [nrB_none (fun i hi => h i (by omega)), if_neg (h m (by omega))]
theorem nrB_one {d : Nat → Nat → Int} {far : Int} {s v : Nat} : ∀ {m}, (∀ i k, i < k → k < m → (s.testBit i = true ∧ 0 ≤ d v i ∧ d v i ≤ far) → ¬ (s.testBit k = true ∧ 0 ≤ d v k ∧ d v k ≤ far)) → nrB d far s v m ≤ 1
  | 0, _ => by simp [nrB]
  | m + 1, h => by
    have ih := nrB_one (d := d) (far := far) (s := s) (v := v) (m := m) (fun i k hi hk => h i k hi (by omega))
    simp only [nrB]
    by_cases e : s.testBit m = true ∧ 0 ≤ d v m ∧ d v m ≤ far
    · rw [nrB_none (fun i hi h' => h i m hi (by omega) h' e), if_pos e]; omega
    · rw [if_neg e]; omega
theorem nrB_mono {d : Nat → Nat → Int} {far : Int} {s v i : Nat} (h : s.testBit i = true ∧ 0 ≤ d v i ∧ d v i ≤ far) : ∀ {m}, i < m → 1 ≤ nrB d far s v m
  | 0, hi => by omega
  | m + 1, hi => by
    simp only [nrB]
    by_cases e : i = m
    · subst e; rw [if_pos h]; omega
    · have := nrB_mono h (m := m) (by omega); omega
theorem nrB_two {d : Nat → Nat → Int} {far : Int} {s v i k : Nat} (h : s.testBit i = true ∧ 0 ≤ d v i ∧ d v i ≤ far) (hk : s.testBit k = true ∧ 0 ≤ d v k ∧ d v k ≤ far) (hik : i < k) : ∀ {m}, k < m → 2 ≤ nrB d far s v m
  | 0, hm => by omega
  | m + 1, hm => by
    simp only [nrB]
    by_cases e : k = m
    · subst e; rw [if_pos hk]; have := nrB_mono h (m := k) hik; omega
    · have := nrB_two h hk hik (m := m) (by omega); omega
/-- A set is fine just if the nodes near its nodes are apart. -/
theorem fine_iff {d : Nat → Nat → Int} {far : Int} {n s : Nat} {N : Nat → Nat} (hs : s < 2 ^ n) (hd : ∀ v i, v < n → i < n → 0 ≤ d v i) (hN : ∀ i, i < n → ∀ v, (N i).testBit v = true ↔ v < n ∧ d v i ≤ far) :
    fnB d far s n n = true ↔ FineN N s 0 0 := by
  have hlt : ∀ i, s.testBit i = true → i < n := fun i hi => by
    rcases Nat.lt_or_ge i n with h | h
    · exact h
    · have := Nat.ge_two_pow_of_testBit hi
      have := Nat.pow_le_pow_right (show 2 > 0 by omega) h
      omega
  rw [fnB_iff]
  constructor
  · intro h
    refine ⟨fun i _ _ v ⟨_, h2⟩ => by simp at h2, fun i j _ hij h1 h2 v ⟨h3, h4⟩ => ?_⟩
    obtain ⟨hv, h5⟩ := (hN i (hlt i h1) v).1 h3
    obtain ⟨_, h6⟩ := (hN j (hlt j h2) v).1 h4
    have := h v hv
    have := nrB_two (d := d) (far := far) (v := v) ⟨h1, hd v i hv (hlt i h1), h5⟩ ⟨h2, hd v j hv (hlt j h2), h6⟩ hij (m := n) (hlt j h2)
    omega
  · rintro ⟨_, h⟩ v hv
    refine nrB_one fun i k hik hk ⟨h1, _, h3⟩ ⟨h4, _, h6⟩ => ?_
    exact h i k (by omega) hik h1 h4 v ⟨(hN i (by omega) v).2 ⟨hv, h3⟩, (hN k hk v).2 ⟨hv, h6⟩⟩
theorem mw_pkB {d : Nat → Nat → Int} {far : Int} {n : Nat} {N : Nat → Nat} (h7 : n ≤ 7) (hd : ∀ v i, v < n → i < n → 0 ≤ d v i) (hN : ∀ i, i < n → ∀ v, (N i).testBit v = true ↔ v < n ∧ d v i ≤ far) : mw N n 0 0 = pkB d far n (2 ^ n) := by
  apply Nat.le_antisymm
  · obtain ⟨s, h1, _, h2, h3⟩ := mw_at N h7 n 0 0 (by omega)
    rw [← h3]
    exact le_pkB h1 ((fine_iff h1 hd hN).2 h2)
  · refine pkB_le _ fun s hs hf => ?_
    rw [← cn_bc h7 hs]
    exact mw_ge N s n 0 0 ((fine_iff hs hd hN).1 hf)
end Go.Proofs.Ytkgomgfhhhdnjab
namespace Go.Proofs.Ytkgomgfhhhdnjab
open Go.ChangeShapes Go.WideShapes Go.ChangeAt Go.RowKit
set_option linter.unusedVariables false

/-- A list of nodes as a set. -/
def stO : List Nat → Nat
  | [] => 0
  | i :: J => stO J ||| 2 ^ i
theorem stO_lt {n : Nat} : ∀ {J : List Nat}, (∀ i ∈ J, i < n) → stO J < 2 ^ n
  | [], _ => Nat.two_pow_pos n
  | i :: J, h => Nat.or_lt_two_pow (stO_lt fun j hj => h j (by simp [hj])) (Nat.pow_lt_pow_right (by omega) (h i (by simp)))
theorem stO_iff {J : List Nat} {i : Nat} : (stO J).testBit i = true ↔ i ∈ J := by
  induction J with
  | nil => simp [stO]
  | cons j J ih =>
    simp only [stO, Nat.testBit_or, Bool.or_eq_true, ih, List.mem_cons, Nat.testBit_two_pow, decide_eq_true_eq]
    constructor
    · rintro (h | h)
      · exact .inr h
      · exact .inl h.symm
    · rintro (h | h)
      · exact .inr h.symm
      · exact .inl h
theorem stO_nodup {n : Nat} (h7 : n ≤ 7) : ∀ {J : List Nat}, (∀ i ∈ J, i < n) → J.Nodup → bc 7 (stO J) = J.length
  | [], _, _ => by decide
  | i :: J, h, hd => by
    have h1 : ∀ j ∈ J, j < n := fun j hj => h j (by simp [hj])
    have hd' := List.nodup_cons.1 hd
    have ih := stO_nodup h7 h1 hd'.2
    have hb : (stO J).testBit i = false := by
      cases e : (stO J).testBit i with
      | false => rfl
      | true => exact absurd (stO_iff.1 e) hd'.1
    have := or_all ⟨stO J, pow_128 h7 (stO_lt h1)⟩ ⟨i, by have := h i (by simp); omega⟩ hb
    simp only at this
    simp only [stO, List.length_cons]
    omega
/-- A set as a list of its nodes below m. -/
def memL (s m : Nat) : List Nat := (List.range m).filter fun i => s.testBit i
theorem memL_iff {s m i : Nat} : i ∈ memL s m ↔ i < m ∧ s.testBit i = true := by simp [memL]
theorem memL_nodup (s m : Nat) : (memL s m).Nodup := List.Pairwise.filter _ List.nodup_range
theorem bit_ltn {s n i : Nat} (hs : s < 2 ^ n) (h : s.testBit i = true) : i < n := by
  rcases Nat.lt_or_ge i n with h1 | h1
  · exact h1
  · have := Nat.ge_two_pow_of_testBit h
    have := Nat.pow_le_pow_right (show 2 > 0 by omega) h1
    omega
theorem memL_set {s n : Nat} (hs : s < 2 ^ n) : stO (memL s n) = s := by
  apply Nat.eq_of_testBit_eq
  intro i
  rw [Bool.eq_iff_iff, stO_iff, memL_iff]
  exact ⟨fun h => h.2, fun h => ⟨bit_ltn hs h, h⟩⟩
theorem memL_len {s n : Nat} (h7 : n ≤ 7) (hs : s < 2 ^ n) : (memL s n).length = bc 7 s := by
  rw [← stO_nodup h7 (fun i hi => (memL_iff.1 hi).1) (memL_nodup s n), memL_set hs]

/-- Nodes are near if there is a way that is at most far. -/
def Nr (d : Nat → Nat → Int) (far : Int) (v i : Nat) : Prop := 0 ≤ d v i ∧ d v i ≤ far
/-- Whether one of the set below m is near v. -/
def nbB (d : Nat → Nat → Int) (far : Int) (s v : Nat) : Nat → Bool
  | 0 => false
  | m + 1 => nbB d far s v m || (s.testBit m && (decide (0 ≤ d v m) && decide (d v m ≤ far)))
theorem nbB_iff {d : Nat → Nat → Int} {far : Int} {s v : Nat} : ∀ m, nbB d far s v m = true ↔ ∃ i, i < m ∧ s.testBit i = true ∧ Nr d far v i
  | 0 => by simp [nbB]
  | m + 1 => by
    simp only [nbB, Bool.or_eq_true, Bool.and_eq_true, decide_eq_true_eq, nbB_iff m]
    constructor
    · rintro (⟨i, h1, h2⟩ | ⟨h1, h2, h3⟩)
      · exact ⟨i, by omega, h2⟩
      · exact ⟨m, by omega, h1, h2, h3⟩
    · rintro ⟨i, h1, h2, h3, h4⟩
      by_cases e : i = m
      · subst e; exact .inr ⟨h2, h3, h4⟩
      · exact .inl ⟨i, by omega, h2, h3, h4⟩
/-- Whether each node below v has one of the set near. -/
def cvF (d : Nat → Nat → Int) (far : Int) (s n : Nat) : Nat → Bool
  | 0 => true
  | v + 1 => cvF d far s n v && nbB d far s v n
theorem cvF_iff {d : Nat → Nat → Int} {far : Int} {s n : Nat} : ∀ m, cvF d far s n m = true ↔ ∀ v, v < m → ∃ i, i < n ∧ s.testBit i = true ∧ Nr d far v i
  | 0 => by simp [cvF]
  | m + 1 => by
    simp only [cvF, Bool.and_eq_true, cvF_iff m, nbB_iff]
    constructor
    · rintro ⟨h1, h2⟩ v hv
      by_cases e : v = m
      · subst e; exact h2
      · exact h1 v (by omega)
    · intro h
      exact ⟨fun v hv => h v (by omega), h m (by omega)⟩
theorem cvF_false {d : Nat → Nat → Int} {far : Int} {s n v : Nat} (h : cvF d far s n v = false) : ∀ m, v ≤ m → cvF d far s n m = false := by
  intro m hm
  induction m with
  | zero => have : v = 0 := by omega
            subst this; exact h
  | succ m ih =>
    by_cases e : v = m + 1
    · subst e; exact h
    · simp only [cvF, ih (by omega)]; rfl
/-- The fewest nodes of a cover among the sets below S. -/
def cvN (d : Nat → Nat → Int) (far : Int) (n : Nat) : Nat → Nat
  | 0 => n
  | S + 1 => if cvF d far S n n = true then min (cvN d far n S) (bc 7 S) else cvN d far n S
theorem cvN_bd (d : Nat → Nat → Int) (far : Int) (n : Nat) : ∀ S, cvN d far n S ≤ n
  | 0 => Nat.le_refl _
  | S + 1 => by have := cvN_bd d far n S; simp only [cvN]; split <;> omega
theorem cvN_le {d : Nat → Nat → Int} {far : Int} {n : Nat} : ∀ {S s : Nat}, s < S → cvF d far s n n = true → cvN d far n S ≤ bc 7 s
  | 0, s, h, _ => by omega
  | S + 1, s, h, hf => by
    simp only [cvN]
    by_cases e : s = S
    · subst e; rw [if_pos hf]; omega
    · have := cvN_le (d := d) (far := far) (n := n) (show s < S by omega) hf
      split <;> omega
theorem le_cvN {d : Nat → Nat → Int} {far : Int} {n c : Nat} (hc : c ≤ n) : ∀ S, (∀ s, s < S → cvF d far s n n = true → c ≤ bc 7 s) → c ≤ cvN d far n S
  | 0, _ => hc
  | S + 1, h => by
    have ih := le_cvN (d := d) (far := far) (n := n) hc S fun s hs => h s (by omega)
    simp only [cvN]
    split
    · rename_i hf
      have := h S (by omega) hf
      omega
    · exact ih
theorem cvN_at {d : Nat → Nat → Int} {far : Int} {n : Nat} : ∀ S, cvN d far n S = n ∨ ∃ s, s < S ∧ cvF d far s n n = true ∧ bc 7 s = cvN d far n S
  | 0 => .inl rfl
  | S + 1 => by
    have ih := cvN_at (d := d) (far := far) (n := n) S
    simp only [cvN]
    split
    · rename_i hf
      by_cases hl : bc 7 S ≤ cvN d far n S
      · right; exact ⟨S, by omega, hf, by omega⟩
      · rcases ih with h | ⟨s, h1, h2, h3⟩
        · left; omega
        · right; exact ⟨s, by omega, h2, by omega⟩
    · rcases ih with h | ⟨s, h1, h2, h3⟩
      · exact .inl h
      · right; exact ⟨s, by omega, h2, h3⟩
/-- A cover as a list of nodes. -/
def Cov (d : Nat → Nat → Int) (far : Int) (n : Nat) (P : List Nat) : Prop := (∀ i ∈ P, i < n) ∧ ∀ v, v < n → ∃ i ∈ P, Nr d far v i
/-- Nodes of which no two are near one node. -/
def Apt (d : Nat → Nat → Int) (far : Int) (n : Nat) (J : List Nat) : Prop := (∀ i ∈ J, i < n) ∧ J.Nodup ∧ ∀ i ∈ J, ∀ k ∈ J, i ≠ k → ∀ v, v < n → ¬ (Nr d far v i ∧ Nr d far v k)
theorem cov_set {d : Nat → Nat → Int} {far : Int} {n : Nat} {P : List Nat} (h : Cov d far n P) : stO P < 2 ^ n ∧ cvF d far (stO P) n n = true := by
  refine ⟨stO_lt h.1, (cvF_iff n).2 fun v hv => ?_⟩
  obtain ⟨i, hi, hn⟩ := h.2 v hv
  exact ⟨i, h.1 i hi, stO_iff.2 hi, hn⟩
theorem cov_memL {d : Nat → Nat → Int} {far : Int} {s n : Nat} (h : cvF d far s n n = true) : Cov d far n (memL s n) :=
  ⟨fun i hi => (memL_iff.1 hi).1, fun v hv => by
    obtain ⟨i, hi, hb, hn⟩ := (cvF_iff n).1 h v hv
    exact ⟨i, memL_iff.2 ⟨hi, hb⟩, hn⟩⟩
theorem eraseDups_sub {P : List Nat} {i : Nat} : i ∈ P.eraseDups ↔ i ∈ P := List.mem_eraseDups
/-- A cover's set has no more nodes than the list. -/
theorem bc_le_len {n : Nat} (h7 : n ≤ 7) {P : List Nat} (h : ∀ i ∈ P, i < n) : bc 7 (stO P) ≤ P.length := by
  induction P with
  | nil => decide
  | cons i P ih =>
    have h1 : ∀ j ∈ P, j < n := fun j hj => h j (by simp [hj])
    have ih := ih h1
    simp only [stO, List.length_cons]
    cases hb : (stO P).testBit i with
    | false =>
      have := or_all ⟨stO P, pow_128 h7 (stO_lt h1)⟩ ⟨i, by have := h i (by simp); omega⟩ hb
      simp only at this
      omega
    | true =>
      have e : stO P ||| 2 ^ i = stO P := by
        apply Nat.eq_of_testBit_eq
        intro j
        rw [Nat.testBit_or, Nat.testBit_two_pow]
        by_cases e : i = j
        · subst e; simp [hb]
        · simp [e]
      rw [e]; omega
theorem cvN_le_cov {d : Nat → Nat → Int} {far : Int} {n : Nat} (h7 : n ≤ 7) {P : List Nat} (h : Cov d far n P) : cvN d far n (2 ^ n) ≤ P.length :=
  Nat.le_trans (cvN_le (cov_set h).1 (cov_set h).2) (bc_le_len h7 h.1)
/-- There is a cover with as many nodes as the fewest. -/
theorem cov_least {d : Nat → Nat → Int} {far : Int} {n : Nat} (h7 : n ≤ 7) (h0 : ∀ a, a < n → d a a = 0) (hf : 0 ≤ far) : ∃ P, Cov d far n P ∧ P.Nodup ∧ P.length = cvN d far n (2 ^ n) := by
  rcases cvN_at (d := d) (far := far) (n := n) (2 ^ n) with h | ⟨s, h1, h2, h3⟩
  · exact ⟨List.range n, ⟨fun i hi => List.mem_range.1 hi, fun v hv => ⟨v, List.mem_range.2 hv, by unfold Nr; rw [h0 v hv]; omega⟩⟩, List.nodup_range, by rw [List.length_range, h]⟩
  · exact ⟨memL s n, cov_memL h2, memL_nodup s n, by rw [memL_len h7 h1, h3]⟩
/-- Those apart as a set. -/
theorem nrB_le_one {d : Nat → Nat → Int} {far : Int} {s v n : Nat} (h : nrB d far s v n ≤ 1) {i k : Nat} (hi : i < n) (hk : k < n) (hbi : s.testBit i = true) (hbk : s.testBit k = true) (hne : i ≠ k) : ¬ (Nr d far v i ∧ Nr d far v k) := by
  rintro ⟨h1, h2⟩
  rcases Nat.lt_or_ge i k with hik | hik
  · have := nrB_two (d := d) (far := far) (s := s) (v := v) ⟨hbi, h1.1, h1.2⟩ ⟨hbk, h2.1, h2.2⟩ hik (m := n) hk
    omega
  · have := nrB_two (d := d) (far := far) (s := s) (v := v) ⟨hbk, h2.1, h2.2⟩ ⟨hbi, h1.1, h1.2⟩ (by omega) (m := n) hi
    omega
theorem apt_set {d : Nat → Nat → Int} {far : Int} {n : Nat} {J : List Nat} (h : Apt d far n J) : stO J < 2 ^ n ∧ fnB d far (stO J) n n = true := by
  refine ⟨stO_lt h.1, (fnB_iff n).2 fun v hv => nrB_one fun i k hik hk h1 h2 => ?_⟩
  exact h.2.2 i (stO_iff.1 h1.1) k (stO_iff.1 h2.1) (by omega) v hv ⟨h1.2, h2.2⟩
theorem apt_memL {d : Nat → Nat → Int} {far : Int} {s n : Nat} (h : fnB d far s n n = true) : Apt d far n (memL s n) :=
  ⟨fun i hi => (memL_iff.1 hi).1, memL_nodup s n, fun i hi k hk hne v hv => nrB_le_one ((fnB_iff n).1 h v hv) (memL_iff.1 hi).1 (memL_iff.1 hk).1 (memL_iff.1 hi).2 (memL_iff.1 hk).2 hne⟩
theorem apt_le_pkB {d : Nat → Nat → Int} {far : Int} {n : Nat} (h7 : n ≤ 7) {J : List Nat} (h : Apt d far n J) : J.length ≤ pkB d far n (2 ^ n) := by
  rw [← stO_nodup h7 h.1 h.2.1]
  exact le_pkB (apt_set h).1 (apt_set h).2
theorem pkB_at {d : Nat → Nat → Int} {far : Int} {n : Nat} : ∀ S, 1 ≤ S → ∃ s, s < S ∧ fnB d far s n n = true ∧ bc 7 s = pkB d far n S
  | 0, h => by omega
  | 1, _ => ⟨0, by omega, (fnB_iff n).2 fun v hv => by rw [nrB_none (fun i hi => by simp)]; omega, by
      have : fnB d far 0 n n = true := (fnB_iff n).2 fun v hv => by rw [nrB_none (fun i hi => by simp)]; omega
      simp only [pkB]; rw [if_pos this]; decide⟩
  | S + 2, _ => by
    obtain ⟨s, h1, h2, h3⟩ := pkB_at (d := d) (far := far) (n := n) (S + 1) (by omega)
    rw [show pkB d far n (S + 2) = if fnB d far (S + 1) n n = true then max (pkB d far n (S + 1)) (bc 7 (S + 1)) else pkB d far n (S + 1) from rfl]
    split
    · rename_i hf
      by_cases hl : pkB d far n (S + 1) ≤ bc 7 (S + 1)
      · exact ⟨S + 1, by omega, hf, by omega⟩
      · exact ⟨s, by omega, h2, by omega⟩
    · exact ⟨s, by omega, h2, h3⟩
theorem apt_most (d : Nat → Nat → Int) (far : Int) {n : Nat} (h7 : n ≤ 7) : ∃ J, Apt d far n J ∧ J.length = pkB d far n (2 ^ n) := by
  obtain ⟨s, h1, h2, h3⟩ := pkB_at (d := d) (far := far) (n := n) (2 ^ n) (Nat.two_pow_pos n)
  exact ⟨memL s n, apt_memL h2, by rw [memL_len h7 h1, h3]⟩

/-- Each of those apart has its own node of a cover. -/
theorem apt_le_cov {d : Nat → Nat → Int} {far : Int} {n : Nat} (hs : ∀ a b, a < n → b < n → d a b = d b a) : ∀ {P J : List Nat}, (∀ i ∈ P, i < n) → Apt d far n J → (∀ i ∈ J, ∃ c ∈ P, Nr d far i c) → J.length ≤ P.length
  | [], [], _, _, _ => Nat.le_refl _
  | [], i :: J, _, _, h => by obtain ⟨c, hc, _⟩ := h i (by simp); cases hc
  | c :: P, J, hP, hJ, h => by
    -- those of J that c is near are at most one
    by_cases he : ∃ i ∈ J, Nr d far i c
    · obtain ⟨i, hi, hn⟩ := he
      have hc : c < n := hP c (by simp)
      have hin : i < n := hJ.1 i hi
      have hJ2 : Apt d far n (J.erase i) := ⟨fun k hk => hJ.1 k (List.mem_of_mem_erase hk), hJ.2.1.erase i, fun a ha b hb hne => hJ.2.2 a (List.mem_of_mem_erase ha) b (List.mem_of_mem_erase hb) hne⟩
      have := apt_le_cov hs (P := P) (fun k hk => hP k (by simp [hk])) hJ2 (fun k hk => by
        obtain ⟨hki, hkJ⟩ := (List.Nodup.mem_erase_iff hJ.2.1).1 hk
        obtain ⟨b, hb, hbn⟩ := h k hkJ
        rcases List.mem_cons.1 hb with e | hb
        · subst e
          have hk2 : k < n := hJ.1 k hkJ
          exact absurd ⟨by unfold Nr at hbn ⊢; rw [hs b k hc hk2]; exact hbn, by unfold Nr at hn ⊢; rw [hs b i hc hin]; exact hn⟩ (hJ.2.2 k hkJ i hi hki b hc)
        · exact ⟨b, hb, hbn⟩)
      rw [List.length_erase_of_mem hi] at this
      rw [List.length_cons]
      omega
    · have := apt_le_cov hs (P := P) (fun k hk => hP k (by simp [hk])) hJ (fun k hk => by
        obtain ⟨b, hb, hbn⟩ := h k hk
        rcases List.mem_cons.1 hb with e | hb
        · subst e; exact absurd ⟨k, hk, hbn⟩ he
        · exact ⟨b, hb, hbn⟩)
      rw [List.length_cons]; omega
/-- Covers are no fewer than those apart. -/
theorem pk_le_cv {d : Nat → Nat → Int} {far : Int} {n : Nat} (h7 : n ≤ 7) (hs : ∀ a b, a < n → b < n → d a b = d b a) (h0 : ∀ a, a < n → d a a = 0) (hf : 0 ≤ far) : pkB d far n (2 ^ n) ≤ cvN d far n (2 ^ n) := by
  obtain ⟨J, hJ, hJl⟩ := apt_most d far h7
  obtain ⟨P, hP, _, hPl⟩ := cov_least (d := d) h7 h0 hf
  rw [← hJl, ← hPl]
  exact apt_le_cov hs hP.1 hJ (fun i hi => hP.2 i (hJ.1 i hi))
theorem cov_mono {d : Nat → Nat → Int} {far far' : Int} {n : Nat} {P : List Nat} (h : Cov d far n P) (hf : far ≤ far') : Cov d far' n P :=
  ⟨h.1, fun v hv => by obtain ⟨i, hi, h1, h2⟩ := h.2 v hv; exact ⟨i, hi, h1, by omega⟩⟩
/-- Farther, no more are needed. -/
theorem cvN_mono {d : Nat → Nat → Int} {far far' : Int} {n : Nat} (h7 : n ≤ 7) (h0 : ∀ a, a < n → d a a = 0) (hf : 0 ≤ far) (hff : far ≤ far') : cvN d far' n (2 ^ n) ≤ cvN d far n (2 ^ n) := by
  obtain ⟨P, hP, _, hPl⟩ := cov_least (d := d) h7 h0 hf
  rw [← hPl]
  exact cvN_le_cov h7 (cov_mono hP hff)
theorem cvN_pos {d : Nat → Nat → Int} {far : Int} {n : Nat} (h7 : n ≤ 7) (h1 : 1 ≤ n) (h0 : ∀ a, a < n → d a a = 0) (hf : 0 ≤ far) : 1 ≤ cvN d far n (2 ^ n) := by
  obtain ⟨P, hP, _, hPl⟩ := cov_least (d := d) h7 h0 hf
  rw [← hPl]
  obtain ⟨i, hi, _⟩ := hP.2 0 h1
  cases P with
  | nil => cases hi
  | cons _ _ => simp
/-- Of no way all nodes are apart. -/
theorem pkB_zero {d : Nat → Nat → Int} {n : Nat} (h7 : n ≤ 7) (hp : ∀ a b, a < n → b < n → a ≠ b → d a b < 0 ∨ 0 < d a b) : n ≤ pkB d 0 n (2 ^ n) := by
  have hA : Apt d 0 n (List.range n) := ⟨fun i hi => List.mem_range.1 hi, List.nodup_range, fun i hi k hk hne v hv ⟨h1, h2⟩ => by
    have hi' := List.mem_range.1 hi
    have hk' := List.mem_range.1 hk
    unfold Nr at h1 h2
    by_cases e : v = i
    · subst e
      have := hp v k hv hk' hne
      omega
    · have := hp v i hv hi' e
      omega⟩
  have := apt_le_pkB h7 hA
  rwa [List.length_range] at this
theorem pkB_pos {d : Nat → Nat → Int} {far : Int} {n : Nat} (h7 : n ≤ 7) (h1 : 1 ≤ n) : 1 ≤ pkB d far n (2 ^ n) :=
  apt_le_pkB h7 (J := [0]) ⟨fun i hi => by simp at hi; omega, by simp, fun i hi k hk hne => by simp at hi hk; omega⟩
theorem pkB_le_n (d : Nat → Nat → Int) (far : Int) {n : Nat} (h7 : n ≤ 7) : pkB d far n (2 ^ n) ≤ n := by
  obtain ⟨J, hJ, hJl⟩ := apt_most d far h7
  rw [← hJl]
  have := List.Nodup.length_le_of_subset hJ.2.1 (l₂ := List.range n) (fun i hi => List.mem_range.2 (hJ.1 i hi))
  rwa [List.length_range] at this
end Go.Proofs.Ytkgomgfhhhdnjab
