/-
  Tables in memory: a row more, an entry changed; what the loops of NetTable keep.
  Conditions: none beyond what each theorem states.
  The program's sets of near nodes over a table, and the most of them without a common one.
  Conditions: at most seven nodes.
  Rows of ints marked, and the marks read again.
  Conditions: none beyond what each theorem states.
  Tables in the exact laws: compared, marked, and the marks read again.
  Conditions: none beyond what each theorem states.
  TreeApart of the program: sets of near nodes, and the most without a common one.
  Conditions: none beyond what each theorem states.
  The model's powers of two, bits of a set, and how many there are.
  Conditions: at most seven, sets below 128.
  The model's sets: powers, bits; the most nodes no two of which are near one node, over all sets.
  Conditions: at most seven nodes.
  TreeSum: the model answers the sum over all nodes of people times the way.
  Conditions: fewer than 2^60 roads and numbers.
  The model's packing: the most nodes no two of which are near one node, over all sets.
  Conditions: at most seven nodes.
-/
import Derived.Test.YtoohfipicmdohacZ2
import Derived.Test.YtoohfipicmdohacZ6
import Derived.Test.YtoohfipicmdohacZ1
import Derived.Test.YtoohfipicmdohacZ0
import Derived.Test.YtoohfipicmdohacZ5
import Derived.Deep.RegionWith
import Derived.Deep.Quiet
namespace Go.Proofs.Ytoohfipicmdohac
open Go.ChangeShapes Go.WideShapes Go.ChangeAt Go.RowKit
set_option linter.unusedVariables false
set_option maxRecDepth 4000

/-- A table's row. -/
def rowX (X : Nat → Nat → Int) (n a : Nat) : List Int := (List.range n).map fun b => X a b
theorem rowX_len (X : Nat → Nat → Int) (n a : Nat) : (rowX X n a).length = n := by simp [rowX]
theorem rowX_get (X : Nat → Nat → Int) {n a b : Nat} (hb : b < n) : (rowX X n a).getD b 0 = X a b := by simp [rowX, List.getD, hb]
theorem rowX_congr {X Y : Nat → Nat → Int} {n a : Nat} (h : ∀ b, b < n → X a b = Y a b) : rowX X n a = rowX Y n a := by
  unfold rowX
  exact List.map_congr_left fun b hb => h b (List.mem_range.1 hb)
theorem rowX_step (X : Nat → Nat → Int) (n a : Nat) : rowX X (n + 1) a = rowX X n a ++ [X a n] := by
  unfold rowX
  rw [List.range_succ, List.map_append]; rfl
theorem rowX_set (X : Nat → Nat → Int) {n a b : Nat} (v : Int) (hb : b < n) : (rowX X n a).set b v = rowX (up2 X a b v) n a := by
  unfold rowX
  apply List.ext_getElem?
  intro i
  rw [List.getElem?_set]
  by_cases hi : i < n
  · by_cases e : b = i
    · subst e; simp [hi, up2_at]
    · have : ¬ (a = a ∧ i = b) := fun h => e h.2.symm
      simp [hi, e, up2_other X v this]
  · simp [hi]; omega
/-- A row more, made since. -/
theorem TT.addRow {w wq : World} {B m k : Nat} {VR : Nat → Value} {ls : Nat → List Int} {v : Value} {row : List Int} (h : TT w B m VR ls) (hB : B ≤ w.heap.size) (hb : Below w.heap.size w wq) (hk : row.length = k)
    (hown : wq.ownsRow w.heap.size 3 1 v k (row.map (Value.int .i64))) : TT wq B (m + 1) (upd VR m v) (upd ls m row) := by
  constructor
  · intro j hj
    by_cases e : j = m
    · subst e
      rw [upd_at, upd_at, hk]
      refine ⟨hown.1, ?_⟩
      rcases hown.2 with h0 | ⟨g, cap, cur, h1, h2, h3⟩
      · exact .inl h0
      · exact .inr ⟨g, cap, cur, h1, by omega, h3⟩
    · rw [upd_other _ _ e, upd_other _ _ e]
      exact ownN_below (h.own j (by omega)) hb
  · intro i j g hi hj h1 h2
    by_cases e1 : i = m <;> by_cases e2 : j = m
    · omega
    · rw [e1, upd_at] at h1; rw [upd_other _ _ e2] at h2
      have := (own_heap hown h1).2.1
      have := (own_heap (h.own j (by omega)) h2).2.2; omega
    · rw [e2, upd_at] at h2; rw [upd_other _ _ e1] at h1
      have := (own_heap hown h2).2.1
      have := (own_heap (h.own i (by omega)) h1).2.2; omega
    · rw [upd_other _ _ e1] at h1; rw [upd_other _ _ e2] at h2
      exact h.dis i j g (by omega) (by omega) h1 h2
/-- The new row lies in the table. -/
theorem tabX_end {w w2 w3 : World} {m g cA g3 c3 : Nat} {VR : Nat → Value} {ls : Nat → List Int} {v : Value} {o : Obj} (hT : TT w2 w.heap.size (m + 1) (upd VR m v) ls) (hO : Outer w2 w.heap.size m (.slice (some ⟨g, 0, none⟩) m cA) VR) (hB : Below w.heap.size w w2)
    (hown : w3.ownsRow w.heap.size 23 1 (.slice (some ⟨g3, 0, none⟩) (m + 1) c3) (m + 1) ((List.range m).map VR ++ [v])) (hg : (w2.alloc o).grownBy w3 (Value.slice (some ⟨g, 0, none⟩) m cA).ownBlock) (hs : (w2.alloc o).heap.size = w2.heap.size + 1) :
    Outer w3 w.heap.size (m + 1) (.slice (some ⟨g3, 0, none⟩) (m + 1) c3) (upd VR m v) ∧ TT w3 w.heap.size (m + 1) (upd VR m v) ls ∧ Below w.heap.size w w3 := by
  have hW := (Below.refl w2.heap.size w2).alloc (Nat.le_refl _) o
  obtain ⟨⟨cs, hc⟩, hB2, _⟩ := own_heap (ownN_below hO hW) (g := g) rfl
  refine ⟨?_, (hT.below hW).keptBy hg (fun g' e => ?_), (hB.trans (hW.mono hB.size)).grown hg (by rw [hs]; have := hB.size; omega) (fun g' e => ?_)⟩
  · unfold Outer
    rw [List.range_succ, List.map_append]
    have e : (List.range m).map (upd VR m v) = (List.range m).map VR := List.map_congr_left fun i hi => upd_other _ _ (by have := List.mem_range.1 hi; omega)
    rw [e]
    simpa [upd_at] using hown
  · have : g = g' := by simpa [Value.ownBlock] using e
    subst this
    exact ⟨cs, _, hc, by decide⟩
  · have : g = g' := by simpa [Value.ownBlock] using e
    subst this
    exact hB2
/-- The cells of an entry. -/
theorem tab_cells {w : World} {B n g c a b : Nat} {VR : Nat → Value} {X : Nat → Nat → Int} (hO : Outer w B n (.slice (some ⟨g, 0, none⟩) n c) VR) (hT : TT w B n VR (rowX X n)) (ha : a < n) (hb : b < n) :
    ∃ gr cr, VR a = .slice (some ⟨gr, 0, none⟩) n cr ∧ w.cell? ⟨g, a, none⟩ = some (.slice (some ⟨gr, 0, none⟩) n cr) ∧ w.cell? ⟨gr, b, none⟩ = some (.int .i64 (X a b)) ∧ w.frozen? ⟨gr, b, none⟩ = false := by
  obtain ⟨gr, cr, e, hc⟩ := hT.cells ha (k := b) (by rw [rowX_len]; exact hb)
  rw [rowX_len] at e
  rw [rowX_get X hb] at hc
  have h1 := Outer.cell hO ha
  rw [e] at h1
  have h2 := hT.own a ha
  rw [e, rowX_len] at h2
  exact ⟨gr, cr, e, h1, hc, h2.frozenAt b⟩
/-- An entry changed. -/
theorem tab_set {w : World} {B n g c a b gr cr : Nat} {VR : Nat → Value} {X : Nat → Nat → Int} (v : Int) (hO : Outer w B n (.slice (some ⟨g, 0, none⟩) n c) VR) (hT : TT w B n VR (rowX X n)) (ha : a < n) (hb : b < n) (he : VR a = .slice (some ⟨gr, 0, none⟩) n cr) :
    Outer (w.setCell ⟨gr, b, none⟩ (.int .i64 v)) B n (.slice (some ⟨g, 0, none⟩) n c) VR ∧ TT (w.setCell ⟨gr, b, none⟩ (.int .i64 v)) B n VR (rowX (up2 X a b v) n) ∧ B ≤ gr := by
  have h1 := hT.own a ha
  rw [he, rowX_len] at h1
  obtain ⟨⟨cs, hcs⟩, hB, -⟩ := own_heap h1 (g := gr) rfl
  refine ⟨ownsRow_setCell_other hO (fun e => ?_) _, ⟨fun j hj => ?_, hT.dis⟩, hB⟩
  · obtain ⟨⟨cs', hc'⟩, _⟩ := own_heap hO e
    exact types_apart hcs hc' (by decide) rfl
  · by_cases e : j = a
    · subst e
      have h2 := (World.ownsRow.stored h1 b (.int .i64 v)).1
      rw [he, rowX_len]
      rw [← List.map_set, rowX_set X v hb] at h2
      exact h2
    · have hrow : rowX (up2 X a b v) n j = rowX X n j := rowX_congr fun i _ => up2_other _ _ (fun h => e h.1)
      rw [hrow]
      exact ownsRow_setCell_other (hT.own j hj) (fun e' => e (hT.dis j a gr hj ha e' (by rw [he]; rfl))) _
/-- What a table's call answers. -/
def NTab (w : World) (n : Nat) (X : Nat → Nat → Int) (e : Ending) (w' : World) : Prop :=
  ∃ v VR, e = .returned v ∧ Outer w' w.heap.size n v VR ∧ TT w' w.heap.size n VR (rowX X n) ∧ Below w.heap.size w w'
/-- The rows so far. -/
def RowsRel (w : World) (n : Nat) (v i : Value) (wr : World) : Prop :=
  ∃ m : Nat, ∃ VR g cA, m ≤ n ∧ i = .int .i64 m ∧ v = .slice (some ⟨g, 0, none⟩) m cA ∧ Outer wr w.heap.size m v VR ∧ TT wr w.heap.size m VR (rowX ownX n) ∧ Below w.heap.size w wr
/-- The row so far. -/
def RowRelX (w : World) (n m : Nat) (r k : Value) (wr : World) : Prop :=
  ∃ j : Nat, j ≤ n ∧ k = .int .i64 j ∧ wr.ownsRow w.heap.size 3 1 r j ((rowX ownX j m).map (Value.int .i64)) ∧ Below w.heap.size w wr

/-- A street does not make row a shorter, in neither sense. -/
def CzS (X : Nat → Nat → Int) (n : Nat) (ss : List Str) (i a : Nat) : Prop :=
  ∀ u v : Nat, (ss.getD i str0).1 = u → (ss.getD i str0).2.1 = v → Cz X a u v (ss.getD i str0).2.2 ∧ Cz X a v u (ss.getD i str0).2.2
/-- Made shorter, or as it was and all that was looked at is short. -/
def Chg (X0 X : Nat → Nat → Int) (n : Nat) (ch : Bool) (C : Prop) : Prop := (ch = true ∧ totX X n < totX X0 n) ∨ (ch = false ∧ X = X0 ∧ C)
theorem Chg.imp {X0 X : Nat → Nat → Int} {n : Nat} {ch : Bool} {C D : Prop} (h : Chg X0 X n ch C) (hi : C → D) : Chg X0 X n ch D := h.imp_right fun ⟨h1, h2, h3⟩ => ⟨h1, h2, hi h3⟩
theorem Chg.step {X0 X Y : Nat → Nat → Int} {n : Nat} {ch : Bool} {C D : Prop} (h : Chg X0 X n ch C) (hl : totX Y n < totX X n) : Chg X0 Y n true D := by
  left
  refine ⟨rfl, ?_⟩
  rcases h with ⟨_, h1⟩ | ⟨_, rfl, _⟩ <;> omega
/-- All that the loops over streets and rows have looked at, down to the turn. -/
def Seen (X : Nat → Nat → Int) (n : Nat) (ss : List Str) (s a t : Nat) : Prop :=
  (∀ i, i < s → ∀ b, b < n → CzS X n ss i b) ∧ (∀ b, b < a → CzS X n ss s b) ∧
    ∀ u v : Nat, (ss.getD s str0).1 = u → (ss.getD s str0).2.1 = v → (1 ≤ t → Cz X a u v (ss.getD s str0).2.2) ∧ (2 ≤ t → Cz X a v u (ss.getD s str0).2.2)
theorem seen_start (X : Nat → Nat → Int) (n : Nat) (ss : List Str) : Seen X n ss 0 0 0 := ⟨fun i hi => by omega, fun b hb => by omega, fun u v _ _ => ⟨fun h => by omega, fun h => by omega⟩⟩
theorem Seen.row {X : Nat → Nat → Int} {n : Nat} {ss : List Str} {s a : Nat} (h : Seen X n ss s a 2) : Seen X n ss s (a + 1) 0 :=
  ⟨h.1, fun b hb => by
    by_cases e : b = a
    · subst e; exact fun u v h1 h2 => ⟨(h.2.2 u v h1 h2).1 (by omega), (h.2.2 u v h1 h2).2 (by omega)⟩
    · exact h.2.1 b (by omega), fun u v _ _ => ⟨fun h => by omega, fun h => by omega⟩⟩
theorem Seen.street {X : Nat → Nat → Int} {n : Nat} {ss : List Str} {s : Nat} (h : Seen X n ss s n 0) : Seen X n ss (s + 1) 0 0 :=
  ⟨fun i hi b hb => by
    by_cases e : i = s
    · subst e; exact h.2.1 b hb
    · exact h.1 i (by omega) b hb, fun b hb => by omega, fun u v _ _ => ⟨fun h => by omega, fun h => by omega⟩⟩
theorem Seen.first {X : Nat → Nat → Int} {n : Nat} {ss : List Str} {s a u v : Nat} {L : Int} (h : Seen X n ss s a 0) (hp : ss.getD s str0 = ((u : Int), (v : Int), L)) (hc : Cz X a u v L) : Seen X n ss s a 1 :=
  ⟨h.1, h.2.1, fun u' v' h1 h2 => ⟨fun _ => by
    rw [hp] at h1 h2 ⊢
    simp only at h1 h2 ⊢
    have e1 : u' = u := by omega
    have e2 : v' = v := by omega
    rw [e1, e2]; exact hc, fun h => by omega⟩⟩
theorem Seen.second {X : Nat → Nat → Int} {n : Nat} {ss : List Str} {s a u v : Nat} {L : Int} (h : Seen X n ss s a 1) (hp : ss.getD s str0 = ((u : Int), (v : Int), L)) (hc : Cz X a v u L) : Seen X n ss s a 2 :=
  ⟨h.1, h.2.1, fun u' v' h1 h2 => ⟨fun _ => (h.2.2 u' v' h1 h2).1 (by omega), fun _ => by
    rw [hp] at h1 h2 ⊢
    simp only at h1 h2 ⊢
    have e1 : u' = u := by omega
    have e2 : v' = v := by omega
    rw [e1, e2]; exact hc⟩⟩
theorem seen_short {X : Nat → Nat → Int} {n : Nat} {ss : List Str} (hv : vnet n ss = true) (h : Rlx ss n X) (hs : Seen X n ss ss.length 0 0) : Short (SE ss) n X :=
  rlx_short h (fun p u v hp h1 h2 hu hv' a ha => by
    obtain ⟨i, hi, e⟩ := mem_getD3 hp
    have := hs.1 i hi a ha u v (by rw [e]; exact h1) (by rw [e]; exact h2)
    rw [e] at this; exact this) (se_lt hv)
/-- What a round of NetTable's loop keeps. -/
def NetRel (w : World) (ss : List Str) (n g c : Nat) (VR : Nat → Value) (X0 : Nat → Nat → Int) (s a t : Nat) (ch : Value) (wr : World) : Prop :=
  ∃ X b, ch = .bool b ∧ Rlx ss n X ∧ Chg X0 X n b (Seen X n ss s a t) ∧ Outer wr w.heap.size n (.slice (some ⟨g, 0, none⟩) n c) VR ∧ TT wr w.heap.size n VR (rowX X n) ∧ Below w.heap.size w wr
end Go.Proofs.Ytoohfipicmdohac
namespace Go.Proofs.Ytoohfipicmdohac
open Go.ChangeShapes Go.WideShapes Go.ChangeAt Go.RowKit
set_option linter.unusedVariables false
set_option maxRecDepth 4000

/-- The nodes below m that have a way of at most far from node i, as bits. -/
def nmk (d : Nat → Nat → Int) (far : Int) (i : Nat) : Nat → Nat
  | 0 => 0
  | m + 1 => if ¬ d i m = -1 ∧ d i m ≤ far then nmk d far i m ||| 2 ^ m else nmk d far i m
theorem nmk_lt (d : Nat → Nat → Int) (far : Int) (i : Nat) : ∀ m, nmk d far i m < 2 ^ m
  | 0 => by simp [nmk]
  | m + 1 => by
    have h := nmk_lt d far i m
    have h2 : 2 ^ m < 2 ^ (m + 1) := Nat.pow_lt_pow_right (by omega) (by omega)
    simp only [nmk]
    split
    · exact Nat.or_lt_two_pow (by omega) h2
    · omega
theorem nmk_bit (d : Nat → Nat → Int) (far : Int) (i : Nat) : ∀ m v, (nmk d far i m).testBit v = true ↔ v < m ∧ ¬ d i v = -1 ∧ d i v ≤ far
  | 0, v => by simp [nmk]
  | m + 1, v => by
    have h := nmk_bit d far i m v
    simp only [nmk]
    split
    · rename_i hd
      rw [Nat.testBit_or, Bool.or_eq_true, h, Nat.testBit_two_pow]
      simp only [decide_eq_true_eq]
      constructor
      · rintro (⟨h1, h2⟩ | rfl)
        · exact ⟨by omega, h2⟩
        · exact ⟨by omega, hd⟩
      · rintro ⟨h1, h2⟩
        by_cases e : m = v
        · exact .inr e
        · exact .inl ⟨by omega, h2⟩
    · rename_i hd
      rw [h]
      constructor
      · rintro ⟨h1, h2⟩; exact ⟨by omega, h2⟩
      · rintro ⟨h1, h2⟩
        by_cases e : v = m
        · subst e; exact absurd h2 hd
        · exact ⟨by omega, h2⟩
theorem or_u64 : ∀ s : Fin 128, ∀ i : Fin 7, bits BinOp.or IntKind.u64 (s.val : Int) ((2 ^ i.val : Nat) : Int) = ((s.val ||| 2 ^ i.val : Nat) : Int) := by decide +kernel
theorem wrap_pow : ∀ i : Fin 7, IntKind.u64.wrap ((2 : Int) ^ i.val) = ((2 ^ i.val : Nat) : Int) := by decide +kernel
theorem wrap_pow8 : ∀ i : Fin 8, IntKind.u64.wrap ((2 : Int) ^ i.val) = ((2 ^ i.val : Nat) : Int) := by decide +kernel
theorem bc_le : ∀ f s, bc f s ≤ f
  | 0, _ => Nat.le_refl _
  | f + 1, s => by have := bc_le f (s / 2); simp only [bc]; omega
theorem or2_u64 : ∀ s : Fin 128, ∀ t : Fin 128, bits BinOp.or IntKind.u64 (s.val : Int) (t.val : Int) = ((s.val ||| t.val : Nat) : Int) := by decide +kernel
theorem and2_u64 : ∀ s : Fin 128, ∀ t : Fin 128, bits BinOp.and IntKind.u64 (s.val : Int) (t.val : Int) = ((s.val &&& t.val : Nat) : Int) := by decide +kernel
theorem vfar_any (x : Int) (w : World) : Calls Try.prog 40 #[.int .i64 x] w fun e w' => e = .returned (.bool (decide (0 ≤ x) && decide (x ≤ 50))) ∧ w = w' := by
  by_cases h1 : 0 ≤ x <;> by_cases h2 : x ≤ 50
  all_goals
    go_enter Try.func40, Try.ntmps40
    go_wp2
    go_ret
    exact ⟨ret_bool (by simp [h1, h2]), rfl⟩
theorem farOk_yes (x : Int) (w : World) (h1 : 0 ≤ x) (h2 : x ≤ 50) : Calls Try.prog 40 #[.int .i64 x] w fun e w' => e = .returned (.bool true) ∧ w = w' :=
  (vfar_any x w).mono fun _ _ ⟨he, hw⟩ => ⟨by rw [he]; simp [h1, h2], hw⟩
theorem farOk_no (x : Int) (w : World) (h : x < 0 ∨ 50 < x) : Calls Try.prog 40 #[.int .i64 x] w fun e w' => e = .returned (.bool false) ∧ w = w' :=
  (vfar_any x w).mono fun _ _ ⟨he, hw⟩ => ⟨by rw [he]; rcases h with h | h <;> simp <;> omega, hw⟩
def Ms (d : Nat → Nat → Int) (far : Int) (n i m : Nat) : List Value := (List.range n).map fun j => .int .u64 ((if j < i then nmk d far j n else if j = i then nmk d far i m else 0 : Nat) : Int)
theorem Ms_len (d : Nat → Nat → Int) (far : Int) (n i m : Nat) : (Ms d far n i m).length = n := by simp [Ms]
theorem Ms_get {d : Nat → Nat → Int} {far : Int} {n i m : Nat} (hi : i < n) : (Ms d far n i m)[i]? = some (.int .u64 (nmk d far i m : Nat)) := by simp [Ms, hi]
theorem Ms_set {d : Nat → Nat → Int} {far : Int} {n i m : Nat} (hi : i < n) : (Ms d far n i m).set i (.int .u64 (nmk d far i (m + 1) : Nat)) = Ms d far n i (m + 1) := by
  unfold Ms
  apply List.ext_getElem?
  intro j
  rw [List.getElem?_set]
  by_cases hj : j < n
  · by_cases e : i = j
    · subst e; simp [hi]
    · simp [hj, e, show ¬ j = i from fun h => e h.symm]
  · simp [hj]; omega
theorem Ms_next {d : Nat → Nat → Int} {far : Int} {n i : Nat} : Ms d far n i n = Ms d far n (i + 1) 0 := by
  unfold Ms
  refine List.map_congr_left fun j hj => ?_
  by_cases h1 : j < i
  · rw [if_pos h1, if_pos (by omega)]
  · by_cases h2 : j = i
    · subst h2; rw [if_neg h1, if_pos rfl, if_pos (by omega)]
    · rw [if_neg h1, if_neg h2, if_neg (by omega)]
      by_cases h3 : j = i + 1
      · rw [if_pos h3]; rfl
      · rw [if_neg h3]
theorem uInfo : (Try.prog.info? 61).map (fun i => (i.zero, i.size, i.bytes)) = some (some (.int .u64 0), 1, 8) := by kernel_rfl
def SetsPost (d : Nat → Nat → Int) (far : Int) (n : Nat) (w : World) (e : Ending) (w' : World) : Prop :=
  ∃ g, e = .returned (.slice (some ⟨g, 0, none⟩) n n) ∧ w'.ownsRow w.heap.size 61 1 (.slice (some ⟨g, 0, none⟩) n n) n (Ms d far n n 0) ∧ Below w.heap.size w w'
set_option maxHeartbeats 1600000 in
theorem nearSets_any (w : World) (B n g0 c : Nat) (far : Int) (VR : Nat → Value) (X : Nat → Nat → Int) (hn1 : 1 ≤ n) (hn7 : n ≤ 7) (hO : Outer w B n (.slice (some ⟨g0, 0, none⟩) n c) VR) (hT : TT w B n VR (rowX X n)) :
    Calls Try.prog 44 #[.slice (some ⟨g0, 0, none⟩) n c, .int .i64 far] w (SetsPost X far n w) := by
  obtain ⟨iu, hiu, hzu0, hzu1, hzu2⟩ := info_parts uInfo
  have HO := Lib.hid hO
  have HT := Lib.hid hT
  clear hO hT
  have hbi : iu.bytes * n ≤ 281474976710656 := by rw [hzu2]; omega
  have hml : n ≤ maxLen := by unfold maxLen; omega
  go_enter Try.func44, Try.ntmps44
  go_wp2_with (at_make; refine wpList_make_full _ rfl _ _ 59 rfl w.heap.size 61 iu _ 1 Try.underlying59 hiu hzu0 hzu1 _ _ _ _ n rfl rfl rfl rfl hbi hml (Nat.le_refl _) ?_; intro w1 hown1 hg1)
  have hb1 : Below w.heap.size w w1 := (Below.refl _ _).grown hg1 (Nat.le_refl _) (fun j hj => by cases hj)
  have ho1 : w1.ownsRow w.heap.size 61 1 (.slice (some ⟨w.heap.size, 0, none⟩) n n) n (Ms X far n 0 0) := by
    rw [Nat.mul_one] at hown1
    have e : (madeCells (Value.int .u64 0).cells n).toList = Ms X far n 0 0 := by
      rw [show (Value.int .u64 0).cells = #[Value.int .u64 0] from rfl, toList_madeCells_one]
      unfold Ms
      apply List.ext_getElem?
      intro i
      by_cases hi : i < n
      · by_cases h0 : i = 0
        · subst h0; simp [hi, nmk]
        · simp [hi, h0]
      · simp [hi]
    rw [← e]; exact hown1
  obtain ⟨G, HG⟩ : ∃ G, Hid (w.heap.size = G) := ⟨_, rfl⟩
  have hGB : w.heap.size ≤ G := Nat.le_of_eq HG.out
  rw [HG.out] at ho1
  rw [HG.out]
  rw [← HG.out] at ho1
  have ho2 : w1.ownsRow w.heap.size 61 1 (.slice (some ⟨G, 0, none⟩) n n) n (Ms X far n 0 0) := by rw [← HG.out]; exact ho1
  have HO1 := Lib.hid ho2
  have HB1 := Lib.hid hb1
  clear hown1 hg1 ho1 hb1 ho2
  go_loopw [15] (fun i wr => ∃ k : Nat, k ≤ n ∧ i = .int .i64 k ∧ wr.ownsRow w.heap.size 61 1 (.slice (some ⟨G, 0, none⟩) n n) n (Ms X far n k 0) ∧ Below w.heap.size w wr) (fun i _ => n - (intOf i).toNat)
  case atStart => exact ⟨0, by omega, rfl, HO1.out, HB1.out⟩
  case round =>
    clear HO1 HB1
    obtain ⟨k, hk, rfl, hown, hnx⟩ := hrel
    by_cases hlt : k < n
    · obtain ⟨Ak, ck, ek, hrk⟩ := HT.out.row hlt
      have cc := (hnx.cell (p := ⟨g0, k, none⟩) (own_heap HO.out (g := g0) rfl).2.2).trans (Outer.cell HO.out hlt)
      rw [ek, rowX_len] at cc
      have HRK := Lib.hid hrk
      have HOW := Lib.hid hown
      have HNX := Lib.hid hnx
      clear ek hrk hown hnx
      go_wp2
      go_loopw [22] (fun i wr => ∃ m : Nat, m ≤ n ∧ i = .int .i64 m ∧ wr.ownsRow w.heap.size 61 1 (.slice (some ⟨G, 0, none⟩) n n) n (Ms X far n k m) ∧ Below w.heap.size w wr) (fun i _ => n - (intOf i).toNat)
      case atStart => exact ⟨0, by omega, rfl, HOW.out, HNX.out⟩
      case round =>
        clear HOW HNX cc
        obtain ⟨m, hm, rfl, hown, hnx⟩ := hrel
        by_cases hlm : m < n
        · obtain ⟨b, off, x, rfl, -, Hx, hcx⟩ := (HRK.out.below hnx).x (k := m) (by rw [rowX_len]; exact hlm)
          have hx := Hx.out
          rw [rowX_get X hlm] at hx
          by_cases hd : ¬ x = -1 ∧ x ≤ far
          · have hx1 : (x != -1) = true := by rw [bne_iff_ne]; exact hd.1
            have hd2 := hd.2
            have cs : _ = some (Value.int .u64 (nmk X far k m : Nat)) := (hown.cellAt k (by omega)).trans (Ms_get hlt)
            have fs := hown.frozenAt k
            have h128 : nmk X far k m < 128 := pow_128 (by omega) (nmk_lt _ _ _ _)
            have hor := or_u64 ⟨nmk X far k m, h128⟩ ⟨m, by omega⟩
            have hst := (hown.stored k (.int .u64 (nmk X far k (m + 1) : Nat)))
            rw [Ms_set hlt] at hst
            have hnk : Hid (nmk X far k (m + 1) = nmk X far k m ||| 2 ^ m) := by show _ = _; simp only [nmk]; rw [if_pos (by rw [hx]; exact hd)]
            simp only at hor
            obtain ⟨S, HS⟩ : ∃ S, Hid (nmk X far k m = S) := ⟨_, rfl⟩
            rw [HS.out] at cs hor hnk
            have hval : bits BinOp.or IntKind.u64 (S : Int) (IntKind.u64.wrap ((2 : Int) ^ m)) = ((nmk X far k (m + 1) : Nat) : Int) := by
              rw [wrap_pow ⟨m, by omega⟩, hor, hnk.out]
            rw [← hval] at hst
            have HST := Lib.hid hst.1
            have HB2 := Lib.hid (hnx.grown hst.2 hnx.size (fun j e => by injection e with e; omega))
            clear hst hown hnx hx hor hval hd
            go_wp2
            go_region
            go_wp2
            go_roundw
            case rel => exact ⟨m + 1, by omega, by go_num, HST.out, HB2.out.drew⟩
            case measure => simp [intOf]; omega
          · have hnk : Hid (Ms X far n k (m + 1) = Ms X far n k m) := by
              have hz : nmk X far k (m + 1) = nmk X far k m := by simp only [nmk]; rw [if_neg (by rw [hx]; exact hd)]
              show _ = _
              unfold Ms
              refine List.map_congr_left fun j _ => ?_
              by_cases e : j = k
              · rw [e, hz]
              · rw [if_neg e, if_neg e]
            have HOW := Lib.hid hown
            have HNX := Lib.hid hnx
            clear hown hnx hx
            by_cases h1 : x = -1
            · subst h1
              go_wp2
              go_roundw
              case rel => exact ⟨m + 1, by omega, by go_num, by rw [hnk.out]; exact HOW.out, HNX.out⟩
              case measure => simp [intOf]; omega
            · have hx1 : (x != -1) = true := by rw [bne_iff_ne]; exact h1
              have hd2 : ¬ x ≤ far := fun h => hd ⟨h1, h⟩
              go_wp2
              go_roundw
              case rel => exact ⟨m + 1, by omega, by go_num, by rw [hnk.out]; exact HOW.out, HNX.out⟩
              case measure => simp [intOf]; omega
        · have hmn : m = n := by omega
          subst hmn
          rw [Ms_next] at hown
          have HOW := Lib.hid hown
          have HNX := Lib.hid hnx
          clear hown hnx
          go_wp2
          go_roundw
          case rel => exact ⟨k + 1, by omega, by go_num, HOW.out, HNX.out⟩
          case measure => simp [intOf]; omega
    · have hkn : k = n := by omega
      subst hkn
      have HOW := Lib.hid hown
      have HNX := Lib.hid hnx
      clear hown hnx
      go_wp2
      go_ret
      exact ⟨G, rfl, HOW.out, HNX.out⟩
/-- The slice with address A reads as the sets N k, .. (m of them), at offset off. -/
def RdU (w : World) (A : Option Addr) (N : Nat → Nat) (k m : Nat) : Prop := 0 < m → ∃ b off, A = some ⟨b, off, none⟩ ∧ ∀ i, i < m → w.cell? ⟨b, off + i, none⟩ = some (.int .u64 (N (k + i) : Nat))
set_option maxHeartbeats 600000 in
theorem mostW_any (N : Nat → Nat) (hN : ∀ i, N i < 128) : ∀ (m k T c : Nat) (A : Option Addr) (w : World), RdU w A N k m → m ≤ c → m ≤ 7 → T < 128 →
    Calls Try.prog 43 #[.slice A m c, .int .u64 T] w fun e w' => e = .returned (.int .i64 (mw N m k T : Nat)) ∧ ∃ q, w' = w.drewN q
  | 0, k, T, c, A, w, _, _, _, _ => by
    go_enter Try.func43, Try.ntmps43
    go_wp2
    go_ret
    exact ⟨rfl, 0, rfl⟩
  | m + 1, k, T, c, A, w, hr, hc, h7, hT => by
    obtain ⟨b, off, rfl, hcell⟩ := hr (by omega)
    have c0 := hcell 0 (by omega)
    rw [Nat.add_zero, Nat.add_zero] at c0
    obtain ⟨A2, hA2, hrest⟩ : ∃ A2 : Option Addr, ((c = 1 ∧ m = 0 ∧ A2 = some ⟨b, off, none⟩) ∨ (¬ c = 1 ∧ A2 = some ⟨b, off + 1, none⟩)) ∧ ∀ q, RdU (w.drewN q) A2 N (k + 1) m := by
      by_cases hc1 : c = 1
      · exact ⟨_, .inl ⟨hc1, by omega, rfl⟩, fun q hm => by omega⟩
      · refine ⟨_, .inr ⟨hc1, rfl⟩, fun q hm => ⟨b, off + 1, rfl, fun i hi => ?_⟩⟩
        have := hcell (i + 1) (by omega)
        rw [show off + (i + 1) = off + 1 + i by omega, show k + (i + 1) = k + 1 + i by omega] at this
        exact this
    have hand := and2_u64 ⟨N k, hN k⟩ ⟨T, hT⟩
    have hor := or2_u64 ⟨T, hT⟩ ⟨N k, hN k⟩
    simp only at hand hor
    have hT2 : T ||| N k < 128 := Nat.or_lt_two_pow (n := 7) hT (hN k)
    have ih1 := mostW_any N hN m (k + 1) T (c - 1) A2 w (hrest 0) (by omega) (by omega) hT
    have ih2 := fun q => mostW_any N hN m (k + 1) (T ||| N k) (c - 1) A2 (w.drewN q) (hrest q) (by omega) (by omega) hT2
    have b1 := mw_bd N m (k + 1) T
    have b2 := mw_bd N m (k + 1) (T ||| N k)
    have hz : (((m + 1 : Nat) : Int) == 0) = false := by rw [beq_eq_false_iff_ne]; omega
    have H1 := Lib.hid ih1
    have H2 := Lib.hid ih2
    obtain ⟨M1, HM1⟩ : ∃ M, Hid (mw N m (k + 1) T = M) := ⟨_, rfl⟩
    obtain ⟨M2, HM2⟩ : ∃ M, Hid (mw N m (k + 1) (T ||| N k) = M) := ⟨_, rfl⟩
    have hmw0 : Hid (mw N (m + 1) k T = if N k &&& T = 0 then max M1 (1 + M2) else M1) := by show _ = _; simp only [mw]; rw [HM1.out, HM2.out]
    rw [HM1.out] at H1 b1
    rw [HM2.out] at H2 b2
    clear ih1 ih2 hrest hcell hr
    by_cases hd : N k &&& T = 0
    · rw [hd] at hand
      have hmw : Hid (mw N (m + 1) k T = max M1 (1 + M2)) := by show _ = _; rw [hmw0.out, if_pos hd]
      have hS1 : bits BinOp.and IntKind.u64 (N k : Int) (T : Int) = 0 := hand
      clear hand hd hmw0
      have w1' : IntKind.i64.wrap (1 + (M2 : Int)) = 1 + (M2 : Int) := IntWalk.i64_in _ (by omega)
      rcases hA2 with ⟨rfl, rfl, rfl⟩ | ⟨hc1, rfl⟩
      all_goals
        go_enter Try.func43, Try.ntmps43
        go_wp2_with fail
        refine H1.out.mono ?_
        rintro e w1 ⟨rfl, q1, rfl⟩
        have Hd := Lib.hid (H2.out (q1 + 1))
        have Hdr : Hid ((w.drewN q1).drew = w.drewN (q1 + 1)) := rfl
        have cq : ∀ a, (w.drewN a).cell? ⟨b, off, none⟩ = some (.int .u64 (N k : Nat)) := fun a => c0
        have cq2 : (w.drewN q1).drew.cell? ⟨b, off, none⟩ = some (.int .u64 (N k : Nat)) := c0
        go_wp2
        go_region_with (
          go_at_call 43
          refine Hd.out.mono ?_
          rintro e wz ⟨rfl, q3, rfl⟩)
        all_goals
          go_wp2
          all_goals
            go_ret
            refine ⟨ret_int (Eq.trans (b := ((max M1 (1 + M2) : Nat) : Int)) ?_ (congrArg (fun x : Nat => (x : Int)) hmw.out.symm)), _, rfl⟩
            rw [Nat.max_def]
            split <;> omega
    · have hmw : Hid (mw N (m + 1) k T = M1) := by show _ = _; rw [hmw0.out, if_neg hd]
      have hne : (((N k &&& T : Nat) : Int) == 0) = false := by rw [beq_eq_false_iff_ne]; omega
      clear hmw0
      rcases hA2 with ⟨rfl, rfl, rfl⟩ | ⟨hc1, rfl⟩
      all_goals
        go_enter Try.func43, Try.ntmps43
        go_wp2_with fail
        refine H1.out.mono ?_
        rintro e w1 ⟨rfl, q1, rfl⟩
        go_wp2
        go_ret
        exact ⟨ret_int (by rw [hmw.out]), _, rfl⟩
end Go.Proofs.Ytoohfipicmdohac
namespace Go.Proofs.Ytoohfipicmdohac
open Go.ChangeShapes Go.WideShapes Go.ChangeAt Go.RowKit
set_option linter.unusedVariables false
set_option maxRecDepth 4000

/-- The numbers from k on. -/
def mk (k : Int) (n : Nat) : List Int := (List.range n).map fun (i : Nat) => k + (i : Int)
theorem mk_len (k : Int) (n : Nat) : (mk k n).length = n := by simp [mk]
theorem mk_get {k : Int} {n i : Nat} (h : i < n) : (mk k n).getD i 0 = k + i := by simp [mk, List.getD, h]
/-- The first k elements are marks, the others as they were. -/
def mkL (k : Int) (zs : List Int) (m : Nat) : List Value := ((mk k m) ++ zs.drop m).map (Value.int .i64)
theorem mkL_step {w : World} {B b n cap m : Nat} {t : TypeId} {k : Int} {zs : List Int} (hm : m < zs.length) (hown : w.ownsRow B t 1 (.slice (some ⟨b, 0, none⟩) n cap) n (mkL k zs m)) :
    (w.setCell ⟨b, m, none⟩ (Value.int .i64 (k + m))).ownsRow B t 1 (.slice (some ⟨b, 0, none⟩) n cap) n (mkL k zs (m + 1)) := by
  have h := (hown.stored m (Value.int .i64 (k + m))).1
  have e : (mkL k zs m).set m (Value.int .i64 (k + m)) = mkL k zs (m + 1) := by
    unfold mkL
    rw [← List.map_set]
    congr 1
    apply List.ext_getElem?
    intro i
    rw [List.getElem?_set]
    by_cases e : m = i
    · subst e
      rw [if_pos rfl, if_pos (by simp [mk_len]; omega), List.getElem?_append_left (by simp [mk_len])]
      simp [mk]
    · rw [if_neg e]
      by_cases hi : i < m
      · rw [List.getElem?_append_left (by simp [mk_len, hi]), List.getElem?_append_left (by simp [mk_len]; omega)]
        simp [mk, hi, show i < m + 1 by omega]
      · rw [List.getElem?_append_right (by simp [mk_len]; omega), List.getElem?_append_right (by simp [mk_len]; omega)]
        simp only [mk_len, List.getElem?_drop]
        congr 1; omega
  rw [e] at h
  exact h
def MarkPost (B g n cap : Nat) (k : Int) (w : World) (e : Ending) (w' : World) : Prop :=
  e = .returned (.int .i64 (k + n)) ∧ w'.ownsRow B 3 1 (.slice (some ⟨g, 0, none⟩) n cap) n ((mk k n).map (Value.int .i64)) ∧ w.grownBy w' (some g)
set_option maxHeartbeats 800000 in
theorem markI_any (w : World) (B g n cap : Nat) (k : Int) (zs : List Int) (hown : w.ownsRow B 3 1 (.slice (some ⟨g, 0, none⟩) n cap) n (zs.map (Value.int .i64))) (hn : zs.length = n) (hn7 : n ≤ 1048576) (hk0 : 0 ≤ k) (hk : k ≤ 100000000) :
    Calls Try.prog 59 #[.slice (some ⟨g, 0, none⟩) n cap, .int .i64 k] w (MarkPost B g n cap k w) := by
  have Hn := Lib.hid hn
  have Hown := Lib.hid hown
  clear hn hown
  go_enter Try.func59, Try.ntmps59
  go_wp2
  go_loopw [1, 5] (fun a i wr => ∃ m : Nat, m ≤ n ∧ i = .int .i64 m ∧ a = .int .i64 (k + m) ∧ wr.ownsRow B 3 1 (.slice (some ⟨g, 0, none⟩) n cap) n (mkL k zs m) ∧ w.grownBy wr (some g)) (fun _ i _ => n - (intOf i).toNat)
  case atStart => exact ⟨0, by omega, rfl, by simp, by simpa [mkL, mk] using Hown.out, ⟨rfl, rfl, rfl, Nat.le_refl _, fun _ _ _ => rfl⟩⟩
  case round =>
    obtain ⟨m, hm, rfl, rfl, hown, hg⟩ := hrel
    by_cases hlt : m < n
    · have hst := mkL_step (by rw [Hn.out]; exact hlt) hown
      obtain ⟨v, hv⟩ := own_cell hown (j := m) (by omega) (by unfold mkL; simp [mk_len, Hn.out]; omega)
      have hf := hown.frozenAt m
      have hgs := (hown.stored m (.int .i64 (k + m))).2
      have HST := Lib.hid hst
      have HG := Lib.hid (gb_trans hg hgs (.inl rfl))
      clear hst hgs hown hg
      go_wp2
      go_roundw
      case rel => exact ⟨m + 1, by omega, by go_num, by congr 1; omega, HST.out, HG.out⟩
      case measure => simp [intOf]; omega
    · have hmn : m = n := by omega
      subst hmn
      have HO := Lib.hid hown
      clear hown
      go_wp2
      go_ret
      refine ⟨rfl, ?_, hg⟩
      have := HO.out
      unfold mkL at this
      rw [List.drop_of_length_le (by rw [Hn.out]; omega), List.append_nil] at this
      exact this
set_option maxHeartbeats 800000 in
theorem heldI_any (w : World) (B n c : Nat) (k : Int) (A : Option Addr) (hr : RdI w B A (mk k n)) (hn7 : n ≤ 1048576) (hk0 : 0 ≤ k) (hk : k ≤ 100000000) :
    Calls Try.prog 60 #[.slice A n c, .int .i64 k] w fun e w' => e = .returned (.int .i64 (k + n)) ∧ w = w' := by
  go_enter Try.func60, Try.ntmps60
  go_wp2
  go_loop [1, 5] (fun a i => ∃ m : Nat, m ≤ n ∧ i = .int .i64 m ∧ a = .int .i64 (k + m)) (fun _ i => n - (intOf i).toNat)
  case atStart => exact ⟨0, by omega, rfl, by simp⟩
  case round =>
    obtain ⟨m, hm, rfl, rfl⟩ := hrel
    by_cases hlt : m < n
    · obtain ⟨b, off, x, rfl, -, Hx, hcx⟩ := hr.x (k := m) (by rw [mk_len]; exact hlt)
      have hx := Hx.out
      rw [mk_get hlt] at hx
      subst hx
      have hb1 : (k + (m : Int) != k + (m : Int)) = false := by simp
      go_wp2
      go_round
      case rel => exact ⟨m + 1, by omega, by go_num, by congr 1; omega⟩
      case measure => simp [intOf]; omega
    · have hmn : m = n := by omega
      subst hmn
      go_wp2
      go_ret
      exact ⟨rfl, rfl⟩
end Go.Proofs.Ytoohfipicmdohac
namespace Go.Proofs.Ytoohfipicmdohac
open Go.ChangeShapes Go.WideShapes Go.ChangeAt Go.RowKit
set_option linter.unusedVariables false
set_option maxRecDepth 4000

set_option maxHeartbeats 1600000 in
theorem eqSS_any (w : World) (B B' m c c' : Nat) (A A' : Option Addr) (VR VR' : Nat → Value) (ls : Nat → List Int) (hO : Outer w B m (.slice A m c) VR) (hT : TT w B m VR ls) (hO' : Outer w B' m (.slice A' m c') VR') (hT' : TT w B' m VR' ls) (hm : m ≤ 7) (hl : ∀ j, j < m → (ls j).length ≤ 7) :
    Calls Try.prog 30 #[.slice A m c, .slice A' m c'] w fun e w' => e = .returned (.bool true) ∧ ∃ q, w' = w.drewN q := by
  have HO := Lib.hid hO
  have HT := Lib.hid hT
  have HO' := Lib.hid hO'
  have HT' := Lib.hid hT'
  have HL := Lib.hid hl
  have hs : ∀ {B : Nat} {A : Option Addr} {c : Nat} {VR : Nat → Value}, Outer w B m (.slice A m c) VR → 0 < m → ∃ g, A = some ⟨g, 0, none⟩ := fun h hp => by
    obtain ⟨A2, c2, e, _, _, h3⟩ := own_sliceN h
    obtain ⟨g, e2, _⟩ := h3 hp
    injection e with e _ _
    exact ⟨g, e.trans e2⟩
  have HS1 := Lib.hid (hs hO)
  have HS2 := Lib.hid (hs hO')
  clear hO hT hO' hT' hl hs
  go_enter Try.func30, Try.ntmps30
  go_wp2
  go_loopw [5] (fun i wr => ∃ k : Nat, ∃ q, k ≤ m ∧ i = .int .i64 k ∧ wr = w.drewN q) (fun i _ => m - (intOf i).toNat)
  case atStart => exact ⟨0, 0, by omega, rfl, rfl⟩
  case round =>
    obtain ⟨k, q, hk, rfl, rfl⟩ := hrel
    by_cases hlt : k < m
    · obtain ⟨g, rfl⟩ := HS1.out (by omega)
      obtain ⟨g', rfl⟩ := HS2.out (by omega)
      obtain ⟨A1, c1, e1, hr1⟩ := HT.out.row hlt
      obtain ⟨A2, c2, e2, hr2⟩ := HT'.out.row hlt
      have cc1 := Outer.cell HO.out hlt
      have cc2 := Outer.cell HO'.out hlt
      rw [e1] at cc1
      rw [e2] at cc2
      obtain ⟨n, Hn⟩ : ∃ n, Hid ((ls k).length = n) := ⟨_, rfl⟩
      have hn7 := HL.out k hlt
      rw [Hn.out] at cc1 cc2 hn7
      have HR1 := Lib.hid (hr1.drewN q)
      have HR2 := Lib.hid (hr2.drewN q)
      have cq1 : (w.drewN q).cell? ⟨g, k, none⟩ = some (.slice A1 n c1) := cc1
      have cq2 : (w.drewN q).cell? ⟨g', k, none⟩ = some (.slice A2 n c2) := cc2
      have Hq : Hid (∀ m, (w.drewN q).drewN m = w.drewN (q + m)) := fun m => World.drewN_drewN _ _ _
      clear hr1 hr2 e1 e2 cc1 cc2
      go_wp2
      generalize w.drewN q = wq at HR1 HR2 cq1 cq2 Hq ⊢
      go_quiet (exact Calls.quiet_of (eqInt_same A1 A2 c1 c2 n n (ls k) _ w.heap.size w.heap.size (HR1.out.drewN _) Hn.out (HR2.out.drewN _) Hn.out (by omega)))
      go_wp2
      go_roundw
      case rel => exact ⟨k + 1, _, by omega, by go_num, Hq.out _⟩
      case measure => simp [intOf]; omega
    · go_wp2
      go_ret
      exact ⟨rfl, _, rfl⟩
end Go.Proofs.Ytoohfipicmdohac
namespace Go.Proofs.Ytoohfipicmdohac
open Go.ChangeShapes Go.WideShapes Go.ChangeAt Go.RowKit
set_option linter.unusedVariables false
set_option maxRecDepth 4000

theorem nearSetsT_any (w : World) (B n g0 c : Nat) (far : Int) (VR : Nat → Value) (t : List (Int × Int)) (hn1 : 1 ≤ n) (hn7 : n ≤ 7) (hO : Outer w B n (.slice (some ⟨g0, 0, none⟩) n c) VR) (hT : TT w B n VR (rowN t n)) :
    Calls Try.prog 44 #[.slice (some ⟨g0, 0, none⟩) n c, .int .i64 far] w (SetsPost (dn t n) far n w) :=
  nearSets_any w B n g0 c far VR (dn t n) hn1 hn7 hO hT
end Go.Proofs.Ytoohfipicmdohac
namespace Go.Proofs.Ytoohfipicmdohac
open Go.ChangeShapes Go.WideShapes Go.ChangeAt Go.RowKit
set_option linter.unusedVariables false
set_option maxRecDepth 4000

theorem power_any (n : Nat) (w : World) (hn : n ≤ 7) : Calls Try.prog 64 #[.int .i64 n] w fun e w' => e = .returned (.int .i64 ((2 ^ n : Nat) : Int)) ∧ w = w' := by
  go_enter Try.func64, Try.ntmps64
  go_wp2
  go_loop [0, 3] (fun a o => ∃ k m : Nat, k + m = n ∧ a = .int .i64 m ∧ o = .int .i64 ((2 ^ k : Nat) : Int)) (fun a _ => (intOf a).toNat)
  case atStart => exact ⟨0, n, by omega, rfl, rfl⟩
  case round =>
    obtain ⟨k, m, hkm, rfl, rfl⟩ := hrel
    by_cases hm : 0 < m
    · have hp : 2 ^ k ≤ 2 ^ 7 := Nat.pow_le_pow_right (by omega) (by omega)
      have hs : Hid (2 ^ (k + 1) = 2 * 2 ^ k) := by show _ = _; rw [Nat.pow_succ]; omega
      obtain ⟨P, HP⟩ : ∃ P : Nat, Hid (2 ^ k = P) := ⟨2 ^ k, rfl⟩
      rw [HP.out] at hp hs ⊢
      go_wp2
      go_round
      case rel => exact ⟨k + 1, m - 1, by omega, by go_num, by rw [hs.out]; go_num⟩
      case measure => simp [intOf]; omega
    · have hkn : k = n := by omega
      subst hkn
      go_wp2
      go_ret
      exact ⟨rfl, rfl⟩
theorem bit_num : ∀ s : Fin 128, ∀ i : Fin 7, ((s.val : Int).tdiv ((2 ^ i.val : Nat) : Int)).tmod 2 = if s.val.testBit i.val = true then 1 else 0 := by decide +kernel
theorem bit_is (s i : Nat) (w : World) (hs : s < 128) (hi : i < 7) {z : Int} (hz : (if s.testBit i = true then (1 : Int) else 0) = z) : Calls Try.prog 65 #[.int .i64 s, .int .i64 i] w fun e w' => e = .returned (.int .i64 z) ∧ w = w' := by
  have hb := bit_num ⟨s, hs⟩ ⟨i, hi⟩
  simp only at hb
  rw [hz] at hb
  have hp : 0 < 2 ^ i := Nat.two_pow_pos i
  have Hp := Lib.hid (power_any i w (by omega))
  obtain ⟨P, HP⟩ : ∃ P : Nat, Hid (2 ^ i = P) := ⟨2 ^ i, rfl⟩
  have hd : s / P ≤ s := Nat.div_le_self _ _
  rw [HP.out] at hp hb Hp
  have hdv : (s : Int).tdiv (P : Int) = ((s / P : Nat) : Int) := (Int.ofNat_tdiv s P).symm
  have hdv2 : (s : Int) / (P : Int) = ((s / P : Nat) : Int) := (Int.natCast_ediv s P).symm
  rw [hdv] at hb
  obtain ⟨D, HD⟩ : ∃ D : Nat, Hid (s / P = D) := ⟨s / P, rfl⟩
  rw [HD.out] at hb hdv hdv2 hd
  have Hb := Lib.hid hb
  clear hb hz
  have hne : ¬ (P : Int) = 0 := by omega
  go_enter Try.func65, Try.ntmps65
  go_wp2_with fail
  refine Hp.out.mono ?_
  rintro e w' ⟨rfl, rfl⟩
  go_wp2
  go_ret
  exact ⟨ret_int Hb.out, rfl⟩
theorem bit_any (s i : Nat) (w : World) (hs : s < 128) (hi : i < 7) : Calls Try.prog 65 #[.int .i64 s, .int .i64 i] w fun e w' => e = .returned (.int .i64 (if s.testBit i = true then 1 else 0)) ∧ w = w' := bit_is s i w hs hi rfl
theorem bits_num : ∀ s : Fin 128, bc 7 s.val = s.val % 2 + bc 7 (s.val / 2) := by decide +kernel
theorem bits_any (s : Nat) (w : World) (hs : s < 128) : Calls Try.prog 66 #[.int .i64 s] w fun e w' => e = .returned (.int .i64 ((bc 7 s : Nat) : Int)) ∧ w = w' := by
  go_enter Try.func66, Try.ntmps66
  go_wp2
  go_loop [0, 3] (fun a o => ∃ r k : Nat, Hid (k + bc 7 r = bc 7 s) ∧ r ≤ s ∧ k ≤ 1000 - r ∧ a = .int .i64 r ∧ o = .int .i64 k) (fun a _ => (intOf a).toNat)
  case atStart => exact ⟨s, 0, Nat.zero_add _, Nat.le_refl _, Nat.zero_le _, rfl, rfl⟩
  case round =>
    obtain ⟨r, k, Hr, hrs, hk, rfl, rfl⟩ := hrel
    by_cases hr0 : 0 < r
    · have hn := bits_num ⟨r, by omega⟩
      simp only at hn
      have H2 : Hid (k + r % 2 + bc 7 (r / 2) = bc 7 s) := by show _ = _; rw [← Hr.out, hn]; omega
      clear hn
      have hm2 : r % 2 ≤ 1 := by omega
      have hd2 : r / 2 < r := by omega
      have e1 : (r : Int).tmod 2 = ((r % 2 : Nat) : Int) := (Int.ofNat_tmod r 2).symm
      have e2 : (r : Int).tdiv 2 = ((r / 2 : Nat) : Int) := (Int.ofNat_tdiv r 2).symm
      obtain ⟨a, Ha⟩ : ∃ a, Hid (r % 2 = a) := ⟨_, rfl⟩
      obtain ⟨b, Hb⟩ : ∃ b, Hid (r / 2 = b) := ⟨_, rfl⟩
      rw [Ha.out] at H2 hm2 e1
      rw [Hb.out] at H2 hd2 e2
      go_wp2
      go_round
      case rel => exact ⟨b, k + a, H2, by omega, by omega, by first | rfl | (congr 1; omega), by first | go_num | (congr 1; omega)⟩
      case measure => simp [intOf]; omega
    · have h0 : r = 0 := by omega
      subst h0
      have H2 : Hid (k = bc 7 s) := Hr.out
      go_wp2
      go_ret
      exact ⟨ret_int (by rw [← H2.out]), rfl⟩
end Go.Proofs.Ytoohfipicmdohac
namespace Go.Proofs.Ytoohfipicmdohac
open Go.ChangeShapes Go.WideShapes Go.ChangeAt Go.RowKit
set_option linter.unusedVariables false
set_option maxRecDepth 4000

theorem fnB_false {d : Nat → Nat → Int} {far : Int} {s n v : Nat} (h : fnB d far s n v = false) : ∀ m, v ≤ m → fnB d far s n m = false := by
  intro m hm
  induction m with
  | zero => have : v = 0 := by omega
            subst this; exact h
  | succ m ih =>
    by_cases e : v = m + 1
    · subst e; exact h
    · simp only [fnB, ih (by omega)]; rfl
theorem nrB_bd (d : Nat → Nat → Int) (far : Int) (s v : Nat) : ∀ m, nrB d far s v m ≤ m
  | 0 => Nat.le_refl _
  | m + 1 => by have := nrB_bd d far s v m; simp only [nrB]; split <;> omega
theorem bc_bd : ∀ f s, bc f s ≤ f
  | 0, _ => Nat.le_refl _
  | f + 1, s => by have := bc_bd f (s / 2); simp only [bc]; omega
theorem pkB_bd (d : Nat → Nat → Int) (far : Int) (n : Nat) : ∀ S, pkB d far n S ≤ 7
  | 0 => Nat.zero_le _
  | S + 1 => by
    have := pkB_bd d far n S
    have := bc_bd 7 S
    simp only [pkB]; split <;> omega

set_option maxHeartbeats 2000000 in
theorem packX_any (w : World) (B n g0 c : Nat) (far : Int) (VR : Nat → Value) (X : Nat → Nat → Int) (hn1 : 1 ≤ n) (hn7 : n ≤ 7) (hO : Outer w B n (.slice (some ⟨g0, 0, none⟩) n c) VR) (hT : TT w B n VR (rowX X n)) :
    Calls Try.prog 61 #[.slice (some ⟨g0, 0, none⟩) n c, .int .i64 far] w fun e w' => e = .returned (.int .i64 ((pkB X far n (2 ^ n) : Nat) : Int)) ∧ w = w' := by
  have HO := Lib.hid hO
  have HT := Lib.hid hT
  have HPW := Lib.hid (power_any n w hn7)
  have hP7 : 2 ^ n ≤ 128 := (Nat.pow_le_pow_right (by omega) hn7 : 2 ^ n ≤ 2 ^ 7)
  obtain ⟨P, HP⟩ : ∃ P : Nat, Hid (2 ^ n = P) := ⟨2 ^ n, rfl⟩
  rw [HP.out] at HPW hP7 ⊢
  clear hO hT
  go_enter Try.func61, Try.ntmps61
  go_wp2
  go_loop [5, 6] (fun b s => ∃ S : Nat, S ≤ P ∧ s = .int .i64 S ∧ b = .int .i64 ((pkB X far n S : Nat) : Int)) (fun _ s => P - (intOf s).toNat)
  case atStart => exact ⟨0, Nat.zero_le _, rfl, rfl⟩
  case round =>
    obtain ⟨S, hS, rfl, rfl⟩ := hrel
    by_cases hlt : S < P
    · have hS128 : S < 128 := by omega
      obtain ⟨K, HK⟩ : ∃ K, Hid (pkB X far n S = K) := ⟨_, rfl⟩
      have hK7 := pkB_bd X far n S
      rw [HK.out] at hK7 ⊢
      go_wp2_with fail
      refine HPW.out.mono ?_
      rintro e w' ⟨rfl, rfl⟩
      go_wp2
      go_loop [7, 8] (fun f v => ∃ k : Nat, k ≤ n ∧ v = .int .i64 k ∧ f = .bool (fnB X far S n k)) (fun _ v => n - (intOf v).toNat)
      case atStart => exact ⟨0, Nat.zero_le _, rfl, rfl⟩
      case round =>
        obtain ⟨v, hv, rfl, rfl⟩ := hrel
        obtain ⟨F, HF⟩ : ∃ F, Hid (fnB X far S n v = F) := ⟨_, rfl⟩
        rw [HF.out]
        by_cases hvn : v < n
        · cases F with
          | true =>
            obtain ⟨Av, cv, ev, hrv⟩ := HT.out.row hvn
            have cc := Outer.cell HO.out hvn
            rw [ev, rowX_len] at cc
            have HRV := Lib.hid hrv
            clear ev hrv
            go_wp2
            go_loop [9, 10] (fun a i => ∃ m : Nat, m ≤ n ∧ i = .int .i64 m ∧ a = .int .i64 ((nrB X far S v m : Nat) : Int)) (fun _ i => n - (intOf i).toNat)
            case atStart => exact ⟨0, Nat.zero_le _, rfl, rfl⟩
            case round =>
              obtain ⟨m, hm, rfl, rfl⟩ := hrel
              obtain ⟨R, HR⟩ : ∃ R, Hid (nrB X far S v m = R) := ⟨_, rfl⟩
              have hR7 := nrB_bd X far S v m
              rw [HR.out] at hR7 ⊢
              by_cases hmn : m < n
              · obtain ⟨b, off, x, rfl, -, Hx, hcx⟩ := HRV.out.x (k := m) (by rw [rowX_len]; exact hmn)
                have hx := Hx.out
                rw [rowX_get X hmn] at hx
                have Hbit := Lib.hid (bit_any S m w hS128 (by omega))
                by_cases hb : S.testBit m = true
                · rw [if_pos hb] at Hbit
                  by_cases hx0 : 0 ≤ x
                  · by_cases hf : x ≤ far
                    · have hnx : Hid (nrB X far S v (m + 1) = R + 1) := by show _ = _; simp only [nrB]; rw [HR.out, if_pos ⟨hb, by rw [hx]; exact hx0, by rw [hx]; exact hf⟩]
                      clear hb hx
                      go_wp2_with fail
                      refine Hbit.out.mono ?_
                      rintro e w' ⟨rfl, rfl⟩
                      go_wp2
                      go_round
                      case rel => exact ⟨m + 1, by omega, by go_num, by rw [hnx.out]; go_num⟩
                      case measure => simp [intOf]; omega
                    · have hnx : Hid (nrB X far S v (m + 1) = R) := by show _ = _; simp only [nrB]; rw [HR.out, if_neg (by rintro ⟨_, _, h⟩; rw [hx] at h; exact hf h)]; rfl
                      clear hb hx
                      go_wp2_with fail
                      refine Hbit.out.mono ?_
                      rintro e w' ⟨rfl, rfl⟩
                      go_wp2
                      go_round
                      case rel => exact ⟨m + 1, by omega, by go_num, by rw [hnx.out]⟩
                      case measure => simp [intOf]; omega
                  · have hx0' : x < 0 := by omega
                    have hnx : Hid (nrB X far S v (m + 1) = R) := by show _ = _; simp only [nrB]; rw [HR.out, if_neg (by rintro ⟨_, h, _⟩; rw [hx] at h; exact hx0 h)]; rfl
                    clear hb hx
                    go_wp2_with fail
                    refine Hbit.out.mono ?_
                    rintro e w' ⟨rfl, rfl⟩
                    go_wp2
                    go_round
                    case rel => exact ⟨m + 1, by omega, by go_num, by rw [hnx.out]⟩
                    case measure => simp [intOf]; omega
                · rw [if_neg hb] at Hbit
                  have hnx : Hid (nrB X far S v (m + 1) = R) := by show _ = _; simp only [nrB]; rw [HR.out, if_neg (by rintro ⟨h, _⟩; exact hb h)]; rfl
                  clear hb hx
                  go_wp2_with fail
                  refine Hbit.out.mono ?_
                  rintro e w' ⟨rfl, rfl⟩
                  go_wp2
                  go_round
                  case rel => exact ⟨m + 1, by omega, by go_num, by rw [hnx.out]⟩
                  case measure => simp [intOf]; omega
              · have hmn2 : m = n := by omega
                subst hmn2
                have hnf : Hid (fnB X far S m (v + 1) = decide ((R : Int) ≤ 1)) := by
                  show _ = _
                  simp only [fnB]
                  rw [HF.out, HR.out]
                  by_cases h : R ≤ 1
                  · have : (R : Int) ≤ 1 := by omega
                    simp [h, this]
                  · have : ¬ (R : Int) ≤ 1 := by omega
                    simp [h, this]
                go_wp2
                go_round
                case rel => exact ⟨v + 1, by omega, by go_num, by rw [hnf.out]⟩
                case measure => simp [intOf]; omega
          | false =>
            have hff := Lib.hid (fnB_false HF.out n hv)
            have hpk : Hid (pkB X far n (S + 1) = K) := by show _ = _; simp only [pkB]; rw [if_neg (by rw [hff.out]; simp), HK.out]
            go_wp2
            go_round
            case rel => exact ⟨S + 1, by omega, by go_num, by rw [hpk.out]⟩
            case measure => simp [intOf]; omega
        · have hvn2 : v = n := by omega
          subst hvn2
          cases F with
          | true =>
            have Hbs := Lib.hid (bits_any S w hS128)
            have hpk : Hid (pkB X far v (S + 1) = max K (bc 7 S)) := by show _ = _; simp only [pkB]; rw [if_pos HF.out, HK.out]
            obtain ⟨C, HC⟩ : ∃ C, Hid (bc 7 S = C) := ⟨_, rfl⟩
            rw [HC.out] at Hbs hpk
            by_cases hKC : K < C
            · have hpk2 : Hid (pkB X far v (S + 1) = C) := by show _ = _; rw [hpk.out]; omega
              have hKC' : (K : Int) < (C : Int) := by omega
              go_wp2_with fail
              refine Hbs.out.mono ?_
              rintro e w' ⟨rfl, rfl⟩
              go_wp2
              go_round
              case rel => exact ⟨S + 1, by omega, by go_num, by rw [hpk2.out]⟩
              case measure => simp [intOf]; omega
            · have hpk2 : Hid (pkB X far v (S + 1) = K) := by show _ = _; rw [hpk.out]; omega
              have hKC' : ¬ (K : Int) < (C : Int) := by omega
              go_wp2_with fail
              refine Hbs.out.mono ?_
              rintro e w' ⟨rfl, rfl⟩
              go_wp2
              go_round
              case rel => exact ⟨S + 1, by omega, by go_num, by rw [hpk2.out]⟩
              case measure => simp [intOf]; omega
          | false =>
            have hpk : Hid (pkB X far v (S + 1) = K) := by show _ = _; simp only [pkB]; rw [if_neg (by rw [HF.out]; simp), HK.out]
            go_wp2
            go_round
            case rel => exact ⟨S + 1, by omega, by go_num, by rw [hpk.out]⟩
            case measure => simp [intOf]; omega
    · have hSP : S = P := by omega
      subst hSP
      go_wp2_with fail
      refine HPW.out.mono ?_
      rintro e w' ⟨rfl, rfl⟩
      go_wp2
      go_ret
      exact ⟨rfl, rfl⟩
end Go.Proofs.Ytoohfipicmdohac
namespace Go.Proofs.Ytoohfipicmdohac
open Go.ChangeShapes Go.WideShapes Go.ChangeAt Go.RowKit
set_option linter.unusedVariables false
set_option maxRecDepth 4000

theorem tsm_bd {t : List (Int × Int)} {fs : List Int} (ht : Ahead t) {n a : Nat} (hn : n ≤ t.length) (hn7 : n ≤ 7) (ha : a < n) (hf : ∀ i, i < n → 0 ≤ fs.getD i 0 ∧ fs.getD i 0 ≤ 20) : ∀ m, m ≤ n → 0 ≤ tsm t fs n a m ∧ tsm t fs n a m ≤ 20000 * m
  | 0, _ => by simp [tsm]
  | m + 1, hm => by
    obtain ⟨h1, h2⟩ := tsm_bd ht hn hn7 ha hf m (by omega)
    obtain ⟨d1, d2⟩ := dn_bd ht n a m hn ha (by omega)
    obtain ⟨f1, f2⟩ := hf m (by omega)
    have m1 : 0 ≤ fs.getD m 0 * dn t n a m := Int.mul_nonneg f1 d1
    have m2 : fs.getD m 0 * dn t n a m ≤ 20 * 1000 := Int.mul_le_mul f2 (by omega) d1 (by omega)
    simp only [tsm]
    omega
theorem sValidTree_is (A : Option Addr) (c n : Nat) (ts : List (Int × Int)) (w : World) (B : Nat) (hr : RdR w B A ts) (hn : ts.length = n) (hb : n ≤ 1152921504606846976) {b : Bool} (h : vt ts = b) :
    Calls Try.prog 53 #[.slice A n c] w fun e w' => e = .returned (.bool b) ∧ w = w' := by
  subst h; exact sValidTree_in A c n ts w B hr hn hb
theorem sValidFolk_is (A : Option Addr) (c n m : Nat) (fs : List Int) (w : World) (B : Nat) (hr : RdI w B A fs) (hn : fs.length = n) (hb : n ≤ 1152921504606846976) {b : Bool} (h : fk m fs = b) :
    Calls Try.prog 54 #[.int .i64 m, .slice A n c] w fun e w' => e = .returned (.bool b) ∧ w = w' := by
  subst h; exact sValidFolk_any A c n m fs w B hr hn hb

set_option maxHeartbeats 1600000 in
theorem sTreeSum_any (A Af : Option Addr) (c n cf nf : Nat) (ts : List (Int × Int)) (fs : List Int) (a : Int) (w : World) (hr : RdR w w.heap.size A ts) (hn : ts.length = n) (hb : n ≤ 1152921504606846976)
    (hrf : RdI w w.heap.size Af fs) (hnf : fs.length = nf) (hbf : nf ≤ 1152921504606846976) (hwa : (Lit.int .i64 a).wf = true) :
    Calls Try.prog 22 #[.slice A n c, .slice Af nf cf, .int .i64 a] w fun e w' => e = .returned (.int .i64 (tsv ts fs a)) ∧ Below w.heap.size w w' := by
  by_cases hv : vt ts = true
  · obtain ⟨h1, h7, -⟩ := (vt_iff ts).1 hv
    rw [hn] at h1 h7
    have H1 := Lib.hid (sValidTree_is A c n ts w _ hr hn hb hv)
    by_cases hf : fk n fs = true
    · have H2 := Lib.hid (sValidFolk_is Af cf nf n fs w _ hrf hnf hbf hf)
      by_cases ha : a < 0 ∨ (n : Int) - 1 < a
      · have Hs := Lib.hid (tsv_no (a := a) (.inr (.inr ⟨hv, by rw [hn]; exact hf, by rw [hn]; omega⟩)))
        have w1 : IntKind.i64.wrap ((n : Int) - 1) = (n : Int) - 1 := IntWalk.i64_in _ (by omega)
        have H3 := Lib.hid (inRange_no a 0 ((n : Int) - 1) w ha)
        clear hv hf hr hrf hn hnf ha
        go_enter Try.func22, Try.ntmps22
        go_wp2_with fail
        refine H1.out.mono ?_
        rintro e w' ⟨rfl, rfl⟩
        go_wp2_with fail
        refine H2.out.mono ?_
        rintro e w' ⟨rfl, rfl⟩
        go_wp2_with fail
        refine H3.out.mono ?_
        rintro e w' ⟨rfl, rfl⟩
        go_wp2
        go_ret
        exact ⟨ret_int Hs.out.symm, Below.refl _ _⟩
      · obtain ⟨k, rfl⟩ := Int.eq_ofNat_of_zero_le (show 0 ≤ a by omega)
        have hk : k < n := by omega
        have Hs := Lib.hid (show tsv ts fs (k : Int) = tsm ts fs n k n by unfold tsv; rw [if_pos ⟨hv, by rw [hn]; exact hf, by omega, by rw [hn]; omega⟩, hn]; rfl)
        have H3 := Lib.hid (inRange_yes (k : Int) 0 ((n : Int) - 1) w (by omega) (by omega))
        have Ht := Lib.hid (treeTable_any A c n ts w hr hn hv)
        have Hn := Lib.hid hn
        have Hk := Lib.hid (fk_iff hf)
        have Hbd := Lib.hid (tsm_bd (fs := fs) (vt_ahead hv) (n := n) (a := k) (by omega) h7 hk (fk_iff hf).2)
        have Hdn := Lib.hid (fun j (hj : j < n) => dn_bd (vt_ahead hv) n k j (by omega) hk hj)
        have hnfn : nf = n := by have := (fk_iff hf).1; omega
        have Hnf := Lib.hid hnf
        subst hnfn
        clear hv hf hr ha hn hnf
        go_enter Try.func22, Try.ntmps22
        go_wp2_with fail
        refine H1.out.mono ?_
        rintro e w' ⟨rfl, rfl⟩
        go_wp2_with fail
        refine H2.out.mono ?_
        rintro e w' ⟨rfl, rfl⟩
        go_wp2_with fail
        refine H3.out.mono ?_
        rintro e w' ⟨rfl, rfl⟩
        go_wp2_with fail
        refine Ht.out.mono ?_
        rintro e w1 ⟨v, VR, rfl, hO, hT, hnx1⟩
        rw [Hn.out] at hO hT
        obtain ⟨A', c', rfl, -, -, hA⟩ := own_sliceN hO
        obtain ⟨g, rfl, -, -⟩ := hA (by omega)
        have HO := Lib.hid hO
        have HT := Lib.hid hT
        have HB1 := Lib.hid hnx1
        clear hO hT hnx1 hA
        go_wp2
        go_loopw [7, 9] (fun o i wr => ∃ m : Nat, ∃ q, m ≤ nf ∧ i = .int .i64 m ∧ o = .int .i64 (tsm ts fs nf k m) ∧ wr = w1.drewN q) (fun _ i _ => nf - (intOf i).toNat)
        case atStart => exact ⟨0, 0, Nat.zero_le _, rfl, rfl, rfl⟩
        case round =>
          obtain ⟨m, q, hm, rfl, rfl, rfl⟩ := hrel
          by_cases hlt : m < nf
          · obtain ⟨b, off, x, rfl, hbb, Hx, hcx⟩ := (hrf.below HB1.out).x (k := m) (by rw [Hnf.out]; exact hlt)
            obtain ⟨gk, ck, hvk, hck⟩ := HT.out.cells hk (k := m) (by rw [rowN_len]; exact hlt)
            have hok := Outer.cell HO.out hk
            rw [hvk, rowN_len] at hok
            rw [rowN_get ts hlt] at hck
            obtain ⟨d, Hd⟩ : ∃ d, Hid (dn ts nf k m = d) := ⟨_, rfl⟩
            have hdb := Hdn.out m hlt
            have hxb := Hk.out.2 m hlt
            have hs1 := Hbd.out m hm
            have hst : Hid (tsm ts fs nf k (m + 1) = tsm ts fs nf k m + x * d) := by
              show tsm ts fs nf k (m + 1) = _
              simp only [tsm]; rw [Hx.out, Hd.out]
            rw [Hd.out] at hck hdb
            rw [Hx.out] at hxb
            obtain ⟨S, HS⟩ : ∃ S, Hid (tsm ts fs nf k m = S) := ⟨_, rfl⟩
            rw [HS.out] at hs1 hst ⊢
            have hxd : 0 ≤ x * d := Int.mul_nonneg hxb.1 hdb.1
            have hxd2 : x * d ≤ 20 * 1000 := Int.mul_le_mul hxb.2 (by omega) hdb.1 (by omega)
            have w1' : IntKind.i64.wrap (x * d) = x * d := IntWalk.i64_in _ (by omega)
            have w2' : IntKind.i64.wrap (S + x * d) = S + x * d := IntWalk.i64_in _ (by omega)
            clear hvk
            go_wp2
            go_quiet (fail)
            clear w1' w2'
            go_wp2
            go_roundw
            case rel => exact ⟨m + 1, _, by omega, by go_num, by rw [hst.out], rfl⟩
            case measure => simp [intOf]; omega
          · have hmn : m = nf := by omega
            subst hmn
            go_wp2
            go_ret
            exact ⟨ret_int Hs.out.symm, below_drewN HB1.out _⟩
    · have hf' : fk n fs = false := by simpa using hf
      have Hs := Lib.hid (tsv_no (a := a) (.inr (.inl ⟨hv, by rw [hn]; exact hf'⟩)))
      have H2 := Lib.hid (sValidFolk_is Af cf nf n fs w _ hrf hnf hbf hf')
      clear hv hf hf' hr hrf hn hnf
      go_enter Try.func22, Try.ntmps22
      go_wp2_with fail
      refine H1.out.mono ?_
      rintro e w' ⟨rfl, rfl⟩
      go_wp2_with fail
      refine H2.out.mono ?_
      rintro e w' ⟨rfl, rfl⟩
      go_wp2
      go_ret
      exact ⟨ret_int Hs.out.symm, Below.refl _ _⟩
  · have hv' : vt ts = false := by simpa using hv
    have Hs := Lib.hid (tsv_no (fs := fs) (a := a) (.inl hv'))
    have H1 := Lib.hid (sValidTree_is A c n ts w _ hr hn hb hv')
    clear hv hv' hr hrf hn hnf
    go_enter Try.func22, Try.ntmps22
    go_wp2_with fail
    refine H1.out.mono ?_
    rintro e w' ⟨rfl, rfl⟩
    go_wp2
    go_ret
    exact ⟨ret_int Hs.out.symm, Below.refl _ _⟩
end Go.Proofs.Ytoohfipicmdohac
namespace Go.Proofs.Ytoohfipicmdohac
open Go.ChangeShapes Go.WideShapes Go.ChangeAt Go.RowKit
set_option linter.unusedVariables false
set_option maxRecDepth 4000

theorem packing_any (w : World) (B n g0 c : Nat) (far : Int) (VR : Nat → Value) (t : List (Int × Int)) (ht : Ahead t) (hnt : n ≤ t.length) (hn1 : 1 ≤ n) (hn7 : n ≤ 7) (hO : Outer w B n (.slice (some ⟨g0, 0, none⟩) n c) VR) (hT : TT w B n VR (rowN t n)) :
    Calls Try.prog 61 #[.slice (some ⟨g0, 0, none⟩) n c, .int .i64 far] w fun e w' => e = .returned (.int .i64 ((pkB (dn t n) far n (2 ^ n) : Nat) : Int)) ∧ w = w' :=
  packX_any w B n g0 c far VR (dn t n) hn1 hn7 hO hT
end Go.Proofs.Ytoohfipicmdohac
