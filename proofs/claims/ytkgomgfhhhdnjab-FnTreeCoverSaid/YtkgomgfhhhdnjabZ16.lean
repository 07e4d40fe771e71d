/-
  The program's tree in memory: a block for each node, with its roads.
  Conditions: none beyond what each theorem states.
  The model's table of a tree: rows that grow in turn.
  Conditions: the roads are a tree.
  The model's cover of a tree: the farthest node that has none near, climbed from as far as may be, till all have one.
  Conditions: none beyond what each theorem states.
  Trees: the cover from the greatest depth up has as few nodes as a cover can have, and as many as can be apart.
  Conditions: each node's road goes to a node ahead of it; at most seven nodes.
  areFolk: whether each number may be one of people; the search that it makes.
  Conditions: fewer than 2^60 numbers.
-/
import Derived.Test.YtkgomgfhhhdnjabZ2
import Derived.Test.YtkgomgfhhhdnjabZ15
import Derived.Test.YtkgomgfhhhdnjabZ0
import Derived.Test.YtkgomgfhhhdnjabZ4
import Derived.Test.YtkgomgfhhhdnjabZ5
import Derived.Deep.AppendLies
import Derived.Deep.RegionLaw
import Derived.BigRegion
import Derived.OneCell
import Derived.LaidEqlPtr
import Derived.Laws.Pointers
namespace Go.Proofs.Ytkgomgfhhhdnjab
open Go.ChangeShapes Go.WideShapes Go.ChangeAt Go.RowKit
set_option linter.unusedVariables false
set_option maxRecDepth 4000

def ptr (g : Nat) : Value := .pointer (some ⟨g, 0, none⟩)
def brv (P : Nat → Nat) : List (Nat × Int) → List Value
  | [] => []
  | x :: r => ptr (P x.1) :: .int .i64 x.2 :: brv P r
theorem brv_len (P : Nat → Nat) : ∀ l, (brv P l).length = l.length * 2
  | [] => rfl
  | x :: r => by simp only [brv, List.length_cons, brv_len P r]; omega
theorem brv_append (P : Nat → Nat) : ∀ a b, brv P (a ++ b) = brv P a ++ brv P b
  | [], b => rfl
  | x :: r, b => by simp [brv, brv_append P r b]
theorem brv_congr {P P' : Nat → Nat} : ∀ {l : List (Nat × Int)}, (∀ x ∈ l, P x.1 = P' x.1) → brv P l = brv P' l
  | [], _ => rfl
  | x :: r, h => by simp only [brv, h x (List.mem_cons_self ..), brv_congr (l := r) fun y hy => h y (List.mem_cons_of_mem _ hy)]
theorem brv_ptr (P : Nat → Nat) : ∀ (l : List (Nat × Int)) k, k < l.length → (brv P l)[k * 2]? = some (ptr (P (l.getD k (0, 0)).1))
  | [], k, h => by simp at h
  | x :: r, 0, h => rfl
  | x :: r, k + 1, h => by
    rw [show (k + 1) * 2 = k * 2 + 1 + 1 by omega]
    simp only [brv, List.getElem?_cons_succ, List.getD_cons_succ]
    exact brv_ptr P r k (by simpa using h)
theorem brv_int (P : Nat → Nat) : ∀ (l : List (Nat × Int)) k, k < l.length → (brv P l)[k * 2 + 1]? = some (.int .i64 (l.getD k (0, 0)).2)
  | [], k, h => by simp at h
  | x :: r, 0, h => rfl
  | x :: r, k + 1, h => by
    rw [show (k + 1) * 2 + 1 = k * 2 + 1 + 1 + 1 by omega]
    simp only [brv, List.getElem?_cons_succ, List.getD_cons_succ]
    exact brv_int P r k (by simpa using h)
def ptrs (P : Nat → Nat) (n : Nat) : List Value := (List.range n).map fun i => ptr (P i)
def upv (P : Nat → Nat) (t : List (Int × Int)) (i : Nat) : Value := if i = 0 then .pointer none else ptr (P (tto t i))
/-- The first n nodes lie in w, from block B on. -/
structure LkN (w : World) (B n : Nat) (P : Nat → Nat) (RV : Nat → Value) (t : List (Int × Int)) : Prop where
  node : ∀ i, i < n → B ≤ P i ∧ w.heap[P i]? = some (.cells #[.int .i64 i, .int .i64 (dn t n i 0), upv P t i, RV i] 69 (0, 0))
  inj : ∀ i j, i < n → j < n → P i = P j → i = j
  own : ∀ i, i < n → w.ownsRow B 112 2 (RV i) (nb t n i).length (brv P (nb t n i))
  dis : ∀ i j g, i < n → j < n → (RV i).ownBlock = some g → (RV j).ownBlock = some g → i = j
def LinkRel (w : World) (t : List (Int × Int)) (v i : Value) (wr : World) : Prop :=
  ∃ k : Nat, ∃ P RV, k < t.length ∧ i = .int .i64 k ∧ LkN wr w.heap.size (k + 1) P RV t ∧ wr.ownsRow w.heap.size 65 1 v (k + 1) (ptrs P (k + 1)) ∧ Below w.heap.size w wr
def Linked (w : World) (t : List (Int × Int)) (e : Ending) (w' : World) : Prop :=
  ∃ v P RV, e = .returned v ∧ LkN w' w.heap.size t.length P RV t ∧ w'.ownsRow w.heap.size 65 1 v t.length (ptrs P t.length) ∧ Below w.heap.size w w'
theorem brInfo : (Try.prog.info? 112).map (fun i => (i.zero, i.size, i.bytes)) = some (some (.agg #[.pointer none, .int .i64 0]), 2, 16) := by kernel_rfl
theorem nptrInfo : (Try.prog.info? 65).map (fun i => (i.zero, i.size, i.bytes)) = some (some (.pointer none), 1, 8) := by kernel_rfl
theorem LkN.lt {w : World} {B n : Nat} {P : Nat → Nat} {RV : Nat → Value} {t : List (Int × Int)} (h : LkN w B n P RV t) {i : Nat} (hi : i < n) : P i < w.heap.size := (Array.getElem?_eq_some_iff.1 (h.node i hi).2).1
theorem LkN.below {w w' : World} {B n : Nat} {P : Nat → Nat} {RV : Nat → Value} {t : List (Int × Int)} (h : LkN w B n P RV t) (hb : Below w.heap.size w w') : LkN w' B n P RV t where
  node i hi := ⟨(h.node i hi).1, (hb.block _ (h.lt hi)).trans (h.node i hi).2⟩
  inj := h.inj
  own i hi := ownN_below (h.own i hi) hb
  dis := h.dis
theorem LkN.cells {w : World} {B n : Nat} {P : Nat → Nat} {RV : Nat → Value} {t : List (Int × Int)} (h : LkN w B n P RV t) {i : Nat} (hi : i < n) :
    w.cell? ⟨P i, 0, none⟩ = some (.int .i64 i) ∧ w.cell? ⟨P i, 1, none⟩ = some (.int .i64 (dn t n i 0)) ∧ w.cell? ⟨P i, 2, none⟩ = some (upv P t i) ∧ w.cell? ⟨P i, 3, none⟩ = some (RV i) ∧ w.frozen? ⟨P i, 3, none⟩ = false := by
  have hh := (h.node i hi).2
  refine ⟨?_, ?_, ?_, ?_, ?_⟩
  · rw [cell_of_row _ _ _ _ _ _ hh]; rfl
  · rw [cell_of_row _ _ _ _ _ _ hh]; rfl
  · rw [cell_of_row _ _ _ _ _ _ hh]; rfl
  · rw [cell_of_row _ _ _ _ _ _ hh]; rfl
  · simp [World.frozen?, hh]
theorem nilOwn (Q : Nat) : (Value.slice none 0 0).ownBlock ≠ some Q := by simp [Value.ownBlock]
theorem node_c3 {w : World} {Q : Nat} {a b c d : Value} {t : TypeId} (hh : w.heap[Q]? = some (.cells #[a, b, c, d] t (0, 0))) : w.cell? ⟨Q, 3, none⟩ = some d := by
  rw [cell_of_row _ _ _ _ _ _ hh]; rfl
theorem app_node {wB w1 : World} {o x : Obj} {row : Option Nat} {Q : Nat} (hg : (wB.alloc o).drew.grownBy w1 row) (hh : wB.heap[Q]? = some x) (hne : row ≠ some Q) : w1.heap[Q]? = some x :=
  grown_node hg (show (wB.alloc o).heap[Q]? = some x from (heap_alloc_old wB o (Array.getElem?_eq_some_iff.1 hh).1).trans hh) hne
/-- The first node. -/
theorem link_start (w w1 : World) (t : List (Int × Int)) (hw : w1 = w.alloc (.cells #[.int .i64 0, .int .i64 0, .pointer none, .slice none 0 0] 69)) :
    LkN w1 w.heap.size 1 (fun _ => w.heap.size) (fun _ => .slice none 0 0) t := by
  subst hw
  constructor
  · intro i hi
    obtain rfl : i = 0 := by omega
    refine ⟨Nat.le_refl _, ?_⟩
    rw [heap_alloc_new]
    simp [upv, dn]
  · intro i j hi hj _; omega
  · intro i hi
    obtain rfl : i = 0 := by omega
    exact World.ownsRow_nil _ _ _ _
  · intro i j g hi hj _ _; omega

/-- A node's roads lie elsewhere than nodes. -/
theorem LkN.own_node {w : World} {B n : Nat} {P : Nat → Nat} {RV : Nat → Value} {t : List (Int × Int)} (h : LkN w B n P RV t) {i j : Nat} (hi : i < n) (hj : j < n) : (RV i).ownBlock ≠ some (P j) := fun e => by
  obtain ⟨⟨cs, hc⟩, _⟩ := own_heap (h.own i hi) e
  exact types_apart hc (h.node j hj).2 (by decide) rfl
theorem LkN.own_lt {w : World} {B n : Nat} {P : Nat → Nat} {RV : Nat → Value} {t : List (Int × Int)} (h : LkN w B n P RV t) {i g : Nat} (hi : i < n) (e : (RV i).ownBlock = some g) : g < w.heap.size := (own_heap (h.own i hi) e).2.2
/-- What writes into a block of another type leaves the nodes. -/
theorem LkN.kept {w w' : World} {B n : Nat} {P : Nat → Nat} {RV : Nat → Value} {t : List (Int × Int)} {row : Option Nat} (h : LkN w B n P RV t) (hg : w.grownBy w' row)
    (hr : ∀ g, row = some g → g < w.heap.size → ∃ cs ty fz, w.heap[g]? = some (.cells cs ty fz) ∧ ty ≠ 69 ∧ ty ≠ 112) : LkN w' B n P RV t where
  node i hi := ⟨(h.node i hi).1, grown_node hg (h.node i hi).2 fun e => by
    obtain ⟨cs, ty, fz, hc, h1, h2⟩ := hr _ e (h.lt hi)
    exact types_apart hc (h.node i hi).2 h1 rfl⟩
  inj := h.inj
  own i hi := (h.own i hi).kept hg (by
    rcases e : (RV i).ownBlock with _ | g
    · exact .inl rfl
    · right
      intro e'
      obtain ⟨cs, ty, fz, hc, h1, h2⟩ := hr g e'.symm (h.own_lt hi e)
      obtain ⟨⟨cs', hc'⟩, _⟩ := own_heap (h.own i hi) e
      exact types_apart hc hc' h2 rfl)
  dis := h.dis
theorem heap_setCell_at {w : World} {g : Nat} {a b c d v : Value} {ty : TypeId} (hh : w.heap[g]? = some (.cells #[a, b, c, d] ty (0, 0))) : (w.setCell ⟨g, 3, none⟩ v).heap[g]? = some (.cells #[a, b, c, v] ty (0, 0)) := by
  simp [World.setCell, Array.getElem?_modify, hh]
theorem nb_len (t : List (Int × Int)) : ∀ n i, (nb t n i).length ≤ n
  | 0, _ => Nat.le_refl _
  | n + 1, i => by
    simp only [nb]
    split
    · split <;> simp
    · have := nb_len t n i
      split <;> simp <;> omega
/-- One node more, with both ends of its road. -/
theorem link_step {wC W w2 : World} {B k p Q g1 : Nat} {P : Nat → Nat} {RV : Nat → Value} {t : List (Int × Int)} {v1 : Value} {y : Int} {g2 cap2 : Nat} {l2 : Nat} (ht : Ahead t) (hk : k + 1 < t.length)
    (hlk : LkN wC B (k + 1) P RV t) (nC : wC.heap[Q]? = some (.cells #[.int .i64 (k + 1 : Nat), .int .i64 (dn t (k + 2) (k + 1) 0), ptr (P p), v1] 69 (0, 0)))
    (oC : wC.ownsRow B 112 2 v1 1 [ptr (P p), .int .i64 y]) (hv1 : v1.ownBlock = some g1) (hB : B ≤ Q) (hQ : ∀ i, i < k + 1 → P i ≠ Q) (hg1 : ∀ i, i < k + 1 → (RV i).ownBlock ≠ some g1)
    (hW : Below wC.heap.size wC W) (hp : tto t (k + 1) = p) (hy : tlg t (k + 1) = y)
    (hgrow : W.grownBy w2 (RV p).ownBlock) (hown2 : w2.ownsRow B 112 2 (.slice (some ⟨g2, 0, none⟩) l2 cap2) l2 (brv P (nb t (k + 1) p) ++ [ptr Q, .int .i64 y])) (hl2 : l2 = (nb t (k + 1) p).length + 1)
    (hat : (RV p).ownBlock = some g2 ∨ g2 = W.heap.size) :
    LkN (w2.setCell ⟨P p, 3, none⟩ (.slice (some ⟨g2, 0, none⟩) l2 cap2)) B (k + 2) (fun i => if i = k + 1 then Q else P i) (fun i => if i = k + 1 then v1 else if i = p then .slice (some ⟨g2, 0, none⟩) l2 cap2 else RV i) t := by
  have hpk : p < k + 1 := by have := (ht (k + 1) (by omega) hk).1; omega
  have hlkW := hlk.below hW
  have nW : W.heap[Q]? = _ := (hW.block Q (Array.getElem?_eq_some_iff.1 nC).1).trans nC
  have oW := ownN_below oC hW
  have hWs := hW.size
  have hg1lt : g1 < wC.heap.size := (own_heap oC hv1).2.2
  -- the nodes in w2
  have node2 : ∀ i, i < k + 1 → w2.heap[P i]? = some (.cells #[.int .i64 i, .int .i64 (dn t (k + 1) i 0), upv P t i, RV i] 69 (0, 0)) := fun i hi =>
    grown_node hgrow (hlkW.node i hi).2 (hlkW.own_node hpk hi)
  have nQ2 : w2.heap[Q]? = _ := grown_node hgrow nW (fun e => by
    obtain ⟨⟨cs, hc⟩, _⟩ := own_heap (hlkW.own p hpk) e
    exact types_apart hc nW (by decide) rfl)
  have own2 : ∀ i, i < k + 1 → i ≠ p → w2.ownsRow B 112 2 (RV i) (nb t (k + 1) i).length (brv P (nb t (k + 1) i)) := fun i hi hne =>
    (hlkW.own i hi).kept hgrow (by
      rcases e : (RV i).ownBlock with _ | g
      · exact .inl rfl
      · right; intro e'
        exact hne (hlkW.dis i p g hi hpk e e'.symm))
  have o1 : w2.ownsRow B 112 2 v1 1 [ptr (P p), .int .i64 y] := oW.kept hgrow (.inr (by rw [hv1]; exact fun e => hg1 p hpk e.symm))
  -- the store
  have ne2 : ∀ {v : Value} {m : Nat} {xs : List Value}, w2.ownsRow B 112 2 v m xs → v.ownBlock ≠ some (P p) := fun h e => by
    obtain ⟨⟨cs, hc⟩, _⟩ := own_heap h e
    exact types_apart hc (node2 p hpk) (by decide) rfl
  have st : ∀ g, g ≠ P p → (w2.setCell ⟨P p, 3, none⟩ (.slice (some ⟨g2, 0, none⟩) l2 cap2)).heap[g]? = w2.heap[g]? := fun g hne => Below.heap_setCell w2 _ _ g hne
  have P'old : ∀ i, i < k + 1 → (if i = k + 1 then Q else P i) = P i := fun i hi => if_neg (by omega)
  have brv' : ∀ i, i < k + 1 → brv (fun i => if i = k + 1 then Q else P i) (nb t (k + 1) i) = brv P (nb t (k + 1) i) := fun i hi =>
    brv_congr fun x hx => P'old x.1 (nb_lt ht (k + 1) (by omega) i hi x.1 x.2 hx)
  constructor
  · intro i hi
    by_cases e : i = k + 1
    · subst e
      simp only [if_true]
      refine ⟨hB, ?_⟩
      rw [st Q (fun e => hQ p hpk e.symm), nQ2]
      simp only [upv]
      rw [if_neg (by omega), hp, if_neg (by omega)]
    · simp only [if_neg e]
      refine ⟨(hlk.node i (by omega)).1, ?_⟩
      have hup : upv (fun i => if i = k + 1 then Q else P i) t i = upv P t i := by
        unfold upv
        by_cases h0 : i = 0
        · rw [if_pos h0, if_pos h0]
        · have := (ht i (by omega) (by omega)).1
          rw [if_neg h0, if_neg h0]
          simp only
          rw [if_neg (by omega)]
      rw [hup, dn_old (by omega) (by omega)]
      by_cases ep : i = p
      · subst ep
        rw [if_pos rfl]
        exact heap_setCell_at (node2 i (by omega))
      · rw [if_neg ep, st _ (fun h => ep (hlk.inj i p (by omega) hpk h))]
        exact node2 i (by omega)
  · intro i j hi hj h
    by_cases e1 : i = k + 1 <;> by_cases e2 : j = k + 1
    · omega
    · rw [if_pos e1, if_neg e2] at h; exact absurd h.symm (hQ j (by omega))
    · rw [if_neg e1, if_pos e2] at h; exact absurd h (hQ i (by omega))
    · rw [if_neg e1, if_neg e2] at h; exact hlk.inj i j (by omega) (by omega) h
  · intro i hi
    by_cases e : i = k + 1
    · subst e
      simp only [if_true]
      rw [nb_new (by omega), hp, hy]
      simp only [brv]
      rw [if_neg (by omega)]
      exact ownsRow_setCell_other o1 (by rw [hv1]; intro e; injection e with e; exact ne2 o1 (by rw [hv1, e])) _
    · simp only [if_neg e]
      rw [nb_old (show i < k + 1 by omega), hp, hy, brv_append, brv' i (by omega)]
      by_cases ep : i = p
      · subst ep
        rw [if_pos rfl, if_pos rfl]
        simp only [brv, if_true, List.length_append, List.length_cons, List.length_nil, Nat.zero_add, ← hl2]
        exact ownsRow_setCell_other hown2 (ne2 hown2) _
      · rw [if_neg ep, if_neg (fun h => ep h.symm)]
        simp only [brv, List.append_nil]
        exact ownsRow_setCell_other (own2 i (by omega) ep) (ne2 (own2 i (by omega) ep)) _
  · intro i j g hi hj h h'
    have key : ∀ i, i < k + 1 → (if i = p then Value.slice (some ⟨g2, 0, none⟩) l2 cap2 else RV i).ownBlock ≠ some g1 := fun i hi h => by
      by_cases ep : i = p
      · rw [if_pos ep] at h
        have : g2 = g1 := by simpa [Value.ownBlock] using h
        subst this
        rcases hat with ha | ha
        · exact hg1 p hpk ha
        · omega
      · rw [if_neg ep] at h; exact hg1 i hi h
    have key2 : ∀ i j, i < k + 1 → j < k + 1 → i ≠ p → j = p → (RV i).ownBlock = some g → some g2 ≠ some g := fun i j hi hj hne hjp h e => by
      injection e with e
      subst e
      rcases hat with ha | ha
      · exact hne (hlk.dis i p _ hi hpk h ha)
      · have := hlkW.own_lt hi h; omega
    by_cases e1 : i = k + 1 <;> by_cases e2 : j = k + 1
    · omega
    · rw [if_pos e1, hv1] at h; rw [if_neg e2] at h'; cases h; exact absurd h' (key j (by omega))
    · rw [if_neg e1] at h; rw [if_pos e2, hv1] at h'; cases h'; exact absurd h (key i (by omega))
    · rw [if_neg e1] at h; rw [if_neg e2] at h'
      by_cases f1 : i = p <;> by_cases f2 : j = p
      · omega
      · rw [if_pos f1] at h; rw [if_neg f2] at h'
        exact absurd (by simpa [Value.ownBlock] using h) (fun e => key2 j i (by omega) (by omega) f2 f1 h' (by rw [e]))
      · rw [if_neg f1] at h; rw [if_pos f2] at h'
        exact absurd (by simpa [Value.ownBlock] using h') (fun e => key2 i j (by omega) (by omega) f1 f2 h (by rw [e]))
      · rw [if_neg f1] at h; rw [if_neg f2] at h'
        exact hlk.dis i j g (by omega) (by omega) h h'
/-- Behind the new node's own road. -/
theorem link_mid {wr wB w1 : World} {B Q g cap : Nat} {a b c : Value} {xs : List Value} {o : Obj} (h1 : Below wr.heap.size wr wB) (hQ : wr.heap.size ≤ Q) (hQB : Q < wB.heap.size)
    (n1 : w1.heap[Q]? = some (.cells #[a, b, c, .slice none 0 0] 69 (0, 0))) (hown : w1.ownsRow B 112 2 (.slice (some ⟨g, 0, none⟩) (0 + 1) cap) (0 + 1) ([] ++ xs))
    (hgrow : (wB.alloc o).drew.grownBy w1 (Value.slice none 0 0).ownBlock) (hat : (Value.slice none 0 0).ownBlock = some g ∨ g = (wB.alloc o).drew.heap.size) :
    Below wr.heap.size wr (w1.setCell ⟨Q, 3, none⟩ (.slice (some ⟨g, 0, none⟩) 1 cap)) ∧ (w1.setCell ⟨Q, 3, none⟩ (.slice (some ⟨g, 0, none⟩) 1 cap)).heap[Q]? = some (.cells #[a, b, c, .slice (some ⟨g, 0, none⟩) 1 cap] 69 (0, 0)) ∧
    (w1.setCell ⟨Q, 3, none⟩ (.slice (some ⟨g, 0, none⟩) 1 cap)).ownsRow B 112 2 (.slice (some ⟨g, 0, none⟩) 1 cap) 1 xs ∧ wB.heap.size ≤ g ∧
    (∀ q, q < wB.heap.size → q ≠ Q → (w1.setCell ⟨Q, 3, none⟩ (.slice (some ⟨g, 0, none⟩) 1 cap)).heap[q]? = wB.heap[q]?) := by
  have hg : wB.heap.size ≤ g := by
    rcases hat with h | h
    · simp [Value.ownBlock] at h
    · have : (wB.alloc o).drew.heap.size = wB.heap.size + 1 := size_alloc1 wB o
      omega
  have hgr : Below wB.heap.size wB w1 := ((((Below.refl wB.heap.size wB).alloc (Nat.le_refl _) o)).drew).grown hgrow (by show wB.heap.size ≤ (wB.alloc o).heap.size; rw [size_alloc1]; omega) (fun k h => by simp [Value.ownBlock] at h)
  refine ⟨(h1.trans (hgr.mono h1.size)).setCell hQ _, heap_setCell_at n1, ?_, hg, fun q hq hne => ?_⟩
  · exact ownsRow_setCell_other hown (by simp [Value.ownBlock]; omega) _
  · rw [Below.heap_setCell w1 _ _ q hne]
    exact hgr.block q hq
theorem ptrs_congr {P P' : Nat → Nat} {n : Nat} (h : ∀ i, i < n → P i = P' i) : ptrs P n = ptrs P' n := by
  unfold ptrs
  exact List.map_congr_left fun i hi => by rw [h i (List.mem_range.1 hi)]
theorem ptrs_step (P : Nat → Nat) (n : Nat) : ptrs P (n + 1) = ptrs P n ++ [ptr (P n)] := by
  unfold ptrs; rw [List.range_succ, List.map_append]; rfl
/-- The list of the nodes is not touched by a road's being laid. -/
theorem link_nodes {wC W w2 : World} {B n p gn cA g2 l2 cap2 m : Nat} {P : Nat → Nat} {RV : Nat → Value} {t : List (Int × Int)} {xs : List Value} (hlk : LkN wC B n P RV t) (hp : p < n)
    (hn : wC.ownsRow B 65 1 (.slice (some ⟨gn, 0, none⟩) m cA) m xs) (hW : Below wC.heap.size wC W) (hgrow : W.grownBy w2 (RV p).ownBlock) :
    (w2.setCell ⟨P p, 3, none⟩ (.slice (some ⟨g2, 0, none⟩) l2 cap2)).ownsRow B 65 1 (.slice (some ⟨gn, 0, none⟩) m cA) m xs := by
  obtain ⟨⟨cs, hc⟩, _⟩ := own_heap hn (g := gn) rfl
  refine ownsRow_setCell_other ((ownN_below hn hW).kept hgrow (.inr fun e => ?_)) (fun e => ?_) _
  · obtain ⟨⟨cs', hc'⟩, _⟩ := own_heap (hlk.own p hp) e.symm
    exact types_apart hc hc' (by decide) rfl
  · injection e with e
    exact types_apart hc (hlk.node p hp).2 (by decide) e
theorem link_below {w wC W w2 : World} {p : Nat} {P : Nat → Nat} {RV : Nat → Value} {t : List (Int × Int)} {n : Nat} {v : Value} (hlk : LkN wC w.heap.size n P RV t) (hp : p < n)
    (h1 : Below w.heap.size w wC) (hW : Below wC.heap.size wC W) (hgrow : W.grownBy w2 (RV p).ownBlock) : Below w.heap.size w (w2.setCell ⟨P p, 3, none⟩ v) :=
  ((h1.trans (hW.mono h1.size)).grown hgrow (Nat.le_trans h1.size hW.size) fun k h => (own_heap (hlk.own p hp) h).2.1).setCell (hlk.node p hp).1 _
/-- What is appended to the list of the nodes leaves them. -/
theorem link_list {wD w3 : World} {B n gn cA m : Nat} {P : Nat → Nat} {RV : Nat → Value} {t : List (Int × Int)} {xs : List Value} {o : Obj} (hlk : LkN wD B n P RV t)
    (hn : wD.ownsRow B 65 1 (.slice (some ⟨gn, 0, none⟩) m cA) m xs) (hgrow : (wD.alloc o).grownBy w3 (Value.slice (some ⟨gn, 0, none⟩) m cA).ownBlock) : LkN w3 B n P RV t := by
  obtain ⟨⟨cs, hc⟩, _⟩ := own_heap hn (g := gn) rfl
  refine (hlk.below ((Below.refl _ _).alloc (Nat.le_refl _) o)).kept hgrow fun g e _ => ?_
  have e' : gn = g := by simpa [Value.ownBlock] using e
  subst e'
  exact ⟨cs, _, _, (heap_alloc_old wD o (Array.getElem?_eq_some_iff.1 hc).1).trans hc, by decide, by decide⟩
def fromA (P : Nat → Nat) : Option Nat → Option Addr
  | none => none
  | some f => some ⟨P f, 0, none⟩
theorem eq_same (w : World) (a : Addr) : ∀ d : Nat, (Op.equalIn (d + 1) 65 (.pointer (some a)) (.pointer (some a))).run Try.prog w = .ok true w := by
  obtain ⟨j, hj, _, hsz, _⟩ := info_parts (show (Try.prog.info? 69).map (fun i => (i.zero, i.size, i.bytes)) = some (some (.agg #[.int .i64 0, .int .i64 0, .pointer none, .slice none 0 0]), 4, 48) by kernel_rfl)
  intro d
  simp [Op.equalIn, run_underlying Try.underlying65, sizeOf, typeInfo, hj, run_sameAddr_same]
theorem neq_same (w : World) (a : Addr) : (binOp .neq 65 (.pointer (some a)) (.pointer (some a))).run Try.prog w = .ok (.bool false) w := by
  simp only [binOp]
  simp [Op.equal, Op.maxDepth, eq_same w a 9999]
theorem neq_other {w : World} {a b : Addr} {ca cb : Array Value} {ta tb : TypeId} (hne : a ≠ b) (ha : w.heap[a.block]? = some (.cells ca ta (0, 0))) (hb : w.heap[b.block]? = some (.cells cb tb (0, 0))) :
    (binOp .neq 65 (.pointer (some a)) (.pointer (some b))).run Try.prog w = .ok (.bool true) w := by
  obtain ⟨j, hj, _, hsz, _⟩ := info_parts (show (Try.prog.info? 69).map (fun i => (i.zero, i.size, i.bytes)) = some (some (.agg #[.int .i64 0, .int .i64 0, .pointer none, .slice none 0 0]), 4, 48) by kernel_rfl)
  have h : ∀ d : Nat, (Op.equalIn (d + 1) 65 (.pointer (some a)) (.pointer (some b))).run Try.prog w = .ok false w := fun d => by
    simp [Op.equalIn, run_underlying Try.underlying65, sizeOf, typeInfo, hj, hsz, run_sameAddr_other w hne ha hb]
  simp only [binOp]
  simp [Op.equal, Op.maxDepth, h 9999]
theorem neq_from {w : World} {B n b : Nat} {P : Nat → Nat} {RV : Nat → Value} {t : List (Int × Int)} {f : Option Nat} (hlk : LkN w B n P RV t) (hb : b < n) (hf : ∀ g, f = some g → g < n) (hne : f ≠ some b) :
    (binOp .neq 65 (.pointer (some ⟨P b, 0, none⟩)) (.pointer (fromA P f))).run Try.prog w = .ok (.bool true) w := by
  cases f with
  | none =>
    show (binOp .neq 65 (.pointer (some ⟨P b, 0, none⟩)) (.pointer none)).run Try.prog w = _
    rw [run_neq_pointer_nil w _ _ (by kernel_rfl)]; rfl
  | some g =>
    exact neq_other (a := ⟨P b, 0, none⟩) (b := ⟨P g, 0, none⟩) (fun e => hne (by injection e with e; rw [hlk.inj g b (hf g rfl) hb e.symm])) (hlk.node b hb).2 (hlk.node g (hf g rfl)).2
end Go.Proofs.Ytkgomgfhhhdnjab
namespace Go.Proofs.Ytkgomgfhhhdnjab
open Go.ChangeShapes Go.WideShapes Go.ChangeAt Go.RowKit
set_option linter.unusedVariables false
set_option maxRecDepth 4000

def rowN (t : List (Int × Int)) (n j : Nat) : List Int := (List.range n).map fun k => dn t n j k
theorem rowN_len (t : List (Int × Int)) (n j : Nat) : (rowN t n j).length = n := by simp [rowN]
theorem rowN_get (t : List (Int × Int)) {n j k : Nat} (hk : k < n) : (rowN t n j).getD k 0 = dn t n j k := by simp [rowN, List.getD, hk]
theorem rowN_step (t : List (Int × Int)) {n j : Nat} (hj : j < n) : rowN t (n + 1) j = rowN t n j ++ [dn t (n + 1) j n] := by
  unfold rowN
  rw [List.range_succ, List.map_append]
  congr 1
  exact List.map_congr_left fun k hk => dn_old hj (List.mem_range.1 hk)
/-- The rows in the inner loop: those below k have grown, the last one grows. -/
def lsK (t : List (Int × Int)) (i k : Nat) : Nat → List Int := fun j => if j = i then (List.range k).map (fun k => dn t (i + 1) i k) else if j < k then rowN t (i + 1) j else rowN t i j
theorem lsK_get {t : List (Int × Int)} {i k p : Nat} (hp : p < i) (hk : k < i) : (lsK t i k p).getD k 0 = dn t i p k ∧ k < (lsK t i k p).length := by
  unfold lsK
  rw [if_neg (by omega)]
  split
  · rw [rowN_get t (by omega), rowN_len]; exact ⟨dn_old hp hk, by omega⟩
  · rw [rowN_get t (by omega), rowN_len]; exact ⟨rfl, hk⟩
theorem lsK_step {t : List (Int × Int)} {i k : Nat} (hk : k < i) : ∀ j, upd (upd (lsK t i k) i (lsK t i k i ++ [dn t (i + 1) i k])) k (upd (lsK t i k) i (lsK t i k i ++ [dn t (i + 1) i k]) k ++ [dn t (i + 1) i k]) j = lsK t i (k + 1) j := by
  intro j
  have e1 : upd (lsK t i k) i (lsK t i k i ++ [dn t (i + 1) i k]) k = rowN t i k := by
    rw [upd_other _ _ (by omega)]
    unfold lsK
    rw [if_neg (by omega), if_neg (by omega)]
  rw [e1]
  by_cases ek : j = k
  · subst ek
    rw [upd_at]
    unfold lsK
    rw [if_neg (by omega), if_pos (by omega), rowN_step t hk, dn_symm t (i + 1) i j]
  · rw [upd_other _ _ ek]
    by_cases ei : j = i
    · subst ei
      rw [upd_at]
      unfold lsK
      rw [if_pos rfl, if_pos rfl, List.range_succ, List.map_append]; rfl
    · rw [upd_other _ _ ei]
      unfold lsK
      rw [if_neg ei, if_neg ei]
      by_cases h : j < k
      · rw [if_pos h, if_pos (by omega)]
      · rw [if_neg h, if_neg (by omega)]
theorem lsK_end {t : List (Int × Int)} {i : Nat} : ∀ j, j < i + 1 → upd (lsK t i i) i (lsK t i i i ++ [0]) j = rowN t (i + 1) j := by
  intro j hj
  by_cases e : j = i
  · subst e
    rw [upd_at]
    unfold lsK rowN
    rw [if_pos rfl, List.range_succ, List.map_append]
    simp only [List.map_cons, List.map_nil]
    rw [dn_diag t (j + 1) j (by omega)]
  · rw [upd_other _ _ e]
    unfold lsK
    rw [if_neg e, if_pos (by omega)]
theorem lsK_start {t : List (Int × Int)} {i : Nat} : ∀ j, j < i + 1 → upd (rowN t i) i [] j = lsK t i 0 j := by
  intro j hj
  by_cases e : j = i
  · subst e; rw [upd_at]; unfold lsK; rw [if_pos rfl]; rfl
  · rw [upd_other _ _ e]; unfold lsK; rw [if_neg e, if_neg (by omega)]
/-- The table as it is handed back. -/
def Tabled (w : World) (t : List (Int × Int)) (e : Ending) (w' : World) : Prop :=
  ∃ v VR, e = .returned v ∧ Outer w' w.heap.size t.length v VR ∧ TT w' w.heap.size t.length VR (rowN t t.length) ∧ Below w.heap.size w w'
def TabRel (w : World) (t : List (Int × Int)) (v i : Value) (wr : World) : Prop :=
  ∃ k : Nat, ∃ VR g cA, k ≤ t.length ∧ i = .int .i64 k ∧ v = .slice (some ⟨g, 0, none⟩) k cA ∧ Outer wr w.heap.size k v VR ∧ TT wr w.heap.size k VR (rowN t k) ∧ Below w.heap.size w wr
def RowRel (w : World) (t : List (Int × Int)) (n : Nat) (g c : Nat) (r i : Value) (wr : World) : Prop :=
  ∃ k : Nat, ∃ VR, k ≤ n ∧ i = .int .i64 k ∧ r = VR n ∧ Outer wr w.heap.size n (.slice (some ⟨g, 0, none⟩) n c) VR ∧ TT wr w.heap.size (n + 1) VR (lsK t n k) ∧ Below w.heap.size w wr
/-- The new row has grown. -/
theorem tab_first {w wq w2 : World} {t : List (Int × Int)} {m k g cA g2 c2 : Nat} {VR : Nat → Value} {x : Int} {o : Obj} (hT : TT wq w.heap.size (m + 1) VR (lsK t m k)) (hO : Outer wq w.heap.size m (.slice (some ⟨g, 0, none⟩) m cA) VR) (hB : Below w.heap.size w wq) (hlk : k < m)
    (hown : w2.ownsRow w.heap.size 3 1 (.slice (some ⟨g2, 0, none⟩) (k + 1) c2) (k + 1) ((lsK t m k m).map (Value.int .i64) ++ [.int .i64 x])) (hg : (wq.alloc o).grownBy w2 (VR m).ownBlock) (hat : (VR m).ownBlock = some g2 ∨ g2 = (wq.alloc o).heap.size) :
    ∃ gk ck, TT w2 w.heap.size (m + 1) (upd VR m (.slice (some ⟨g2, 0, none⟩) (k + 1) c2)) (upd (lsK t m k) m (lsK t m k m ++ [x])) ∧ Outer w2 w.heap.size m (.slice (some ⟨g, 0, none⟩) m cA) VR ∧ Below w.heap.size w w2 ∧
      VR k = .slice (some ⟨gk, 0, none⟩) m ck ∧ w2.ownsRow w.heap.size 3 1 (.slice (some ⟨gk, 0, none⟩) m ck) m ((rowN t m k).map (Value.int .i64)) ∧ w2.cell? ⟨g, k, none⟩ = some (.slice (some ⟨gk, 0, none⟩) m ck) := by
  have hW := (Below.refl wq.heap.size wq).alloc (Nat.le_refl _) o
  have hlm : (lsK t m k m).length = k := by unfold lsK; rw [if_pos rfl]; simp
  have hT2 := hT.append (d := x) (by omega) hW hg hown (by rw [hlm]) hat
  have ho2 := hO.kept hT (r := m) (by omega) hW hg
  have hb2 := (hB.trans (hW.mono hB.size)).grown hg (by rw [size_alloc1]; have := hB.size; omega) (fun g h => (own_heap (hT.own m (by omega)) h).2.1)
  have hlk2 : upd (lsK t m k) m (lsK t m k m ++ [x]) k = rowN t m k := by
    rw [upd_other _ _ (by omega)]; unfold lsK; rw [if_neg (by omega), if_neg (by omega)]
  have hok := hT2.own k (by omega)
  obtain ⟨Ak, ck, hvk, hk3, hk4, hk5⟩ := own_sliceN hok
  rw [hlk2, rowN_len] at hvk hok hk3 hk5
  obtain ⟨gk, rfl, hgk1, hgk2⟩ := hk5 (by omega)
  rw [hvk] at hok
  rw [upd_other _ _ (by omega)] at hvk
  have cok := Outer.cell ho2 hlk
  rw [hvk] at cok
  exact ⟨gk, ck, hT2, ho2, hb2, hvk, hok, cok⟩
/-- The old row has grown too, and lies in the table again. -/
theorem tab_second {w w2 w3 : World} {t : List (Int × Int)} {m k g cA gk ck g3 c3 : Nat} {VR : Nat → Value} {v1 : Value} {x : Int} {o : Obj} (hT : TT w2 w.heap.size (m + 1) (upd VR m v1) (upd (lsK t m k) m (lsK t m k m ++ [x]))) (hO : Outer w2 w.heap.size m (.slice (some ⟨g, 0, none⟩) m cA) VR) (hB : Below w.heap.size w w2) (hlk : k < m)
    (hvk : VR k = .slice (some ⟨gk, 0, none⟩) m ck) (hx : dn t (m + 1) m k = x)
    (hown : w3.ownsRow w.heap.size 3 1 (.slice (some ⟨g3, 0, none⟩) (m + 1) c3) (m + 1) ((rowN t m k).map (Value.int .i64) ++ [.int .i64 x])) (hg : (w2.alloc o).grownBy w3 (Value.slice (some ⟨gk, 0, none⟩) m ck).ownBlock)
    (hat : (Value.slice (some ⟨gk, 0, none⟩) m ck).ownBlock = some g3 ∨ g3 = (w2.alloc o).heap.size) :
    ∃ v3 VR3, w3.cell? ⟨g, k, none⟩ = some v3 ∧ w3.frozen? ⟨g, k, none⟩ = false ∧ VR3 m = v1 ∧ Outer (w3.setCell ⟨g, k, none⟩ (.slice (some ⟨g3, 0, none⟩) (m + 1) c3)) w.heap.size m (.slice (some ⟨g, 0, none⟩) m cA) VR3 ∧
      TT (w3.setCell ⟨g, k, none⟩ (.slice (some ⟨g3, 0, none⟩) (m + 1) c3)) w.heap.size (m + 1) VR3 (lsK t m (k + 1)) ∧ Below w.heap.size w (w3.setCell ⟨g, k, none⟩ (.slice (some ⟨g3, 0, none⟩) (m + 1) c3)) := by
  have hW3 := (Below.refl w2.heap.size w2).alloc (Nat.le_refl _) o
  have hvk' : upd VR m v1 k = .slice (some ⟨gk, 0, none⟩) m ck := by rw [upd_other _ _ (by omega)]; exact hvk
  have hlk2 : upd (lsK t m k) m (lsK t m k m ++ [x]) k = rowN t m k := by
    rw [upd_other _ _ (by omega)]; unfold lsK; rw [if_neg (by omega), if_neg (by omega)]
  have hT3 := hT.append (d := x) (r := k) (by omega) hW3 (by rw [hvk']; exact hg) (by rw [hlk2]; exact hown) (by rw [hlk2, rowN_len]) (by rw [hvk']; exact hat)
  have ho3 := hO.kept hT (r := k) (by omega) hW3 (by rw [hvk']; exact hg)
  have hb3 := (hB.trans (hW3.mono hB.size)).grown hg (by rw [size_alloc1]; have := hB.size; omega) (fun g h => by
    have := hT.own k (by omega)
    rw [hvk'] at this
    exact (own_heap this h).2.1)
  obtain ⟨v3, hv3⟩ := own_cell ho3 (j := k) (by omega) (by simp)
  have hf3 := World.ownsRow.frozenAt ho3 k
  have hst := (ho3.stored (k := k) (v := .slice (some ⟨g3, 0, none⟩) (m + 1) c3) hlk).congr (VR' := upd (upd VR m v1) k (.slice (some ⟨g3, 0, none⟩) (m + 1) c3)) (fun j hj => by
    by_cases e : j = k
    · rw [e, upd_at, upd_at]
    · rw [upd_other _ _ e, upd_other _ _ e, upd_other _ _ (by omega)])
  obtain ⟨⟨csg3, hcg3⟩, hgB3, -⟩ := own_heap ho3 (g := g) rfl
  refine ⟨v3, _, hv3, hf3, ?_, hst, (hT3.store (g := g) (k := k) (v := .slice (some ⟨g3, 0, none⟩) (m + 1) c3) hcg3 (by decide)).congr (fun j _ => ?_), hb3.setCell (p := ⟨g, k, none⟩) hgB3 _⟩
  · rw [upd_other _ _ (by omega), upd_at]
  · rw [← hx]; exact lsK_step hlk j
/-- The new row is whole. -/
theorem tab_end1 {w wq w2 : World} {t : List (Int × Int)} {m g cA g2 c2 : Nat} {VR : Nat → Value} {o : Obj} (hT : TT wq w.heap.size (m + 1) VR (lsK t m m)) (hO : Outer wq w.heap.size m (.slice (some ⟨g, 0, none⟩) m cA) VR) (hB : Below w.heap.size w wq)
    (hown : w2.ownsRow w.heap.size 3 1 (.slice (some ⟨g2, 0, none⟩) (m + 1) c2) (m + 1) ((lsK t m m m).map (Value.int .i64) ++ [.int .i64 0])) (hg : (wq.alloc o).grownBy w2 (VR m).ownBlock) (hat : (VR m).ownBlock = some g2 ∨ g2 = (wq.alloc o).heap.size) :
    TT w2 w.heap.size (m + 1) (upd VR m (.slice (some ⟨g2, 0, none⟩) (m + 1) c2)) (rowN t (m + 1)) ∧ Outer w2 w.heap.size m (.slice (some ⟨g, 0, none⟩) m cA) VR ∧ Below w.heap.size w w2 := by
  have hW := (Below.refl wq.heap.size wq).alloc (Nat.le_refl _) o
  have hlm : (lsK t m m m).length = m := by unfold lsK; rw [if_pos rfl]; simp
  refine ⟨(hT.append (d := 0) (by omega) hW hg hown (by rw [hlm]) hat).congr (lsK_end (t := t)), hO.kept hT (r := m) (by omega) hW hg, (hB.trans (hW.mono hB.size)).grown hg (by rw [size_alloc1]; have := hB.size; omega) (fun g h => (own_heap (hT.own m (by omega)) h).2.1)⟩
/-- The new row lies in the table. -/
theorem tab_end2 {w w2 w3 : World} {t : List (Int × Int)} {m g cA g3 c3 : Nat} {VR : Nat → Value} {v : Value} {o : Obj} (hT : TT w2 w.heap.size (m + 1) (upd VR m v) (rowN t (m + 1))) (hO : Outer w2 w.heap.size m (.slice (some ⟨g, 0, none⟩) m cA) VR) (hB : Below w.heap.size w w2)
    (hown : w3.ownsRow w.heap.size 33 1 (.slice (some ⟨g3, 0, none⟩) (m + 1) c3) (m + 1) ((List.range m).map VR ++ [v])) (hg : (w2.alloc o).grownBy w3 (Value.slice (some ⟨g, 0, none⟩) m cA).ownBlock) :
    Outer w3 w.heap.size (m + 1) (.slice (some ⟨g3, 0, none⟩) (m + 1) c3) (upd VR m v) ∧ TT w3 w.heap.size (m + 1) (upd VR m v) (rowN t (m + 1)) ∧ Below w.heap.size w w3 := by
  have hW := (Below.refl w2.heap.size w2).alloc (Nat.le_refl _) o
  obtain ⟨⟨cs, hc⟩, hB2, _⟩ := own_heap (ownN_below hO hW) (g := g) rfl
  refine ⟨?_, (hT.below hW).keptBy hg (fun g' e => ?_), (hB.trans (hW.mono hB.size)).grown hg (by rw [size_alloc1]; have := hB.size; omega) (fun g' e => ?_)⟩
  · unfold Outer
    rw [List.range_succ, List.map_append]
    simp only [List.map_cons, List.map_nil, upd_at]
    rw [List.map_congr_left (g := VR) (fun i hi => upd_other VR v (by have := List.mem_range.1 hi; omega))]
    exact hown
  · have : g = g' := by simpa [Value.ownBlock] using e
    subst this
    exact ⟨cs, _, hc, by decide⟩
  · have : g = g' := by simpa [Value.ownBlock] using e
    subst this
    exact hB2
end Go.Proofs.Ytkgomgfhhhdnjab
namespace Go.Proofs.Ytkgomgfhhhdnjab
open Go.ChangeShapes Go.WideShapes Go.ChangeAt Go.RowKit
set_option linter.unusedVariables false

/-- The farthest of the nodes below m that has none yet, the first one of them; -1 for none. -/
def fstC (dep : Nat → Int) (has : Nat → Bool) : Nat → Int
  | 0 => -1
  | m + 1 => if has m = false ∧ (fstC dep has m < 0 ∨ dep (fstC dep has m).toNat < dep m) then (m : Int) else fstC dep has m
theorem fstC_bd (dep : Nat → Int) (has : Nat → Bool) : ∀ m, -1 ≤ fstC dep has m ∧ fstC dep has m < m
  | 0 => by simp only [fstC]; omega
  | m + 1 => by have := fstC_bd dep has m; simp only [fstC]; split <;> omega
theorem fstC_none {dep : Nat → Int} {has : Nat → Bool} : ∀ {m}, fstC dep has m < 0 → ∀ i, i < m → has i = true
  | 0, _, i, h => by omega
  | m + 1, h, i, hi => by
    simp only [fstC] at h
    split at h
    · omega
    · rename_i hc
      by_cases e : i = m
      · subst e
        cases hh : has i with
        | true => rfl
        | false => exact absurd ⟨hh, .inl h⟩ hc
      · exact fstC_none h i (by omega)
theorem fstC_some {dep : Nat → Int} {has : Nat → Bool} : ∀ {m a : Nat}, fstC dep has m = a → a < m ∧ has a = false ∧ (∀ i, i < m → has i = false → dep i ≤ dep a) ∧ ∀ i, i < a → has i = false → dep i < dep a
  | 0, a, h => by simp only [fstC] at h; omega
  | m + 1, a, h => by
    simp only [fstC] at h
    split at h
    · rename_i hc
      obtain rfl : m = a := by omega
      have hall : ∀ i, i < m → has i = false → dep i < dep m := fun i hi hf => by
        rcases hc.2 with hn | hd
        · have := fstC_none hn i hi; rw [this] at hf; cases hf
        · have hb := fstC_bd dep has m
          rcases Int.lt_or_le (fstC dep has m) 0 with hn | hn
          · have := fstC_none hn i hi; rw [this] at hf; cases hf
          · obtain ⟨h1, h2, h3, h4⟩ := fstC_some (dep := dep) (has := has) (m := m) (a := (fstC dep has m).toNat) (by omega)
            have := h3 i hi hf
            omega
      refine ⟨by omega, hc.1, fun i hi hf => ?_, hall⟩
      by_cases e : i = m
      · subst e; exact Int.le_refl _
      · have := hall i (by omega) hf; omega
    · rename_i hc
      obtain ⟨h1, h2, h3, h4⟩ := fstC_some h
      refine ⟨by omega, h2, fun i hi hf => ?_, h4⟩
      by_cases e : i = m
      · subst e
        rcases Int.lt_or_le (dep a) (dep i) with hl | hl
        · exact absurd ⟨hf, .inr (by rw [h]; exact hl)⟩ hc
        · exact hl
      · exact h3 i (by omega) hf
theorem fstC_yes {dep : Nat → Int} {has : Nat → Bool} {m : Nat} (h : has m = false ∧ (fstC dep has m < 0 ∨ dep (fstC dep has m).toNat < dep m)) : fstC dep has (m + 1) = m := by simp only [fstC]; rw [if_pos h]
theorem fstC_no {dep : Nat → Int} {has : Nat → Bool} {m : Nat} (h : ¬ (has m = false ∧ (fstC dep has m < 0 ∨ dep (fstC dep has m).toNat < dep m))) : fstC dep has (m + 1) = fstC dep has m := by simp only [fstC]; rw [if_neg h]

/-- From s on towards the node 0, while it is at most far from a. -/
def clmC (t : List (Int × Int)) (d : Nat → Nat → Int) (far : Int) (a : Nat) : Nat → Nat → Nat
  | 0, s => s
  | f + 1, s => if 0 < s ∧ d a (tto t s) ≤ far then clmC t d far a f (tto t s) else s
theorem clmC_is {t : List (Int × Int)} (ht : Ahead t) {d : Nat → Nat → Int} {far : Int} {a : Nat} : ∀ f s, s < t.length → d a s ≤ far → clmC t d far a f s ≤ s ∧ d a (clmC t d far a f s) ≤ far
  | 0, s, _, h => ⟨Nat.le_refl _, h⟩
  | f + 1, s, hl, h => by
    simp only [clmC]
    split
    · rename_i hc
      have hs := (ht s hc.1 hl).1
      have := clmC_is ht f (tto t s) (by omega) hc.2
      omega
    · exact ⟨Nat.le_refl _, h⟩
theorem clmC_up {t : List (Int × Int)} {d : Nat → Nat → Int} {far : Int} {a f s : Nat} (h : 0 < s ∧ d a (tto t s) ≤ far) : clmC t d far a (f + 1) s = clmC t d far a f (tto t s) := by simp only [clmC]; rw [if_pos h]
theorem clmC_stop {t : List (Int × Int)} {d : Nat → Nat → Int} {far : Int} {a s : Nat} (h : ¬ (0 < s ∧ d a (tto t s) ≤ far)) : ∀ f, clmC t d far a f s = s
  | 0 => rfl
  | f + 1 => by simp only [clmC]; rw [if_neg h]

def leftC (has : Nat → Bool) : Nat → Nat
  | 0 => 0
  | m + 1 => leftC has m + (if has m = true then 0 else 1)
theorem leftC_le {has has' : Nat → Bool} (h : ∀ i, has i = true → has' i = true) : ∀ m, leftC has' m ≤ leftC has m
  | 0 => Nat.le_refl _
  | m + 1 => by
    have := leftC_le h m
    simp only [leftC]
    by_cases e : has m = true
    · rw [if_pos e, if_pos (h m e)]; omega
    · rw [if_neg e]; split <;> omega
theorem leftC_lt {has has' : Nat → Bool} (h : ∀ i, has i = true → has' i = true) {a : Nat} (ha : has a = false) (ha' : has' a = true) : ∀ m, a < m → leftC has' m < leftC has m
  | 0, hm => by omega
  | m + 1, hm => by
    simp only [leftC]
    by_cases e : a = m
    · subst e
      have := leftC_le h a
      rw [if_pos ha', if_neg (by rw [ha]; simp)]; omega
    · have := leftC_lt h ha ha' m (by omega)
      by_cases e : has m = true
      · rw [if_pos e, if_pos (h m e)]; omega
      · rw [if_neg e]; split <;> omega
theorem leftC_none : ∀ m, leftC (fun _ => false) m = m
  | 0 => rfl
  | m + 1 => by simp only [leftC]; rw [leftC_none m, if_neg (by simp)]

/-- Who has one near, when one stands there too. -/
def addC (d : Nat → Nat → Int) (far : Int) (has : Nat → Bool) (s : Nat) : Nat → Bool := fun i => has i || decide (d s i ≤ far)
def covC (t : List (Int × Int)) (d : Nat → Nat → Int) (far : Int) (n : Nat) : Nat → (Nat → Bool) → Nat
  | 0, _ => 0
  | f + 1, has => if fstC (d 0) has n < 0 then 0 else covC t d far n f (addC d far has (clmC t d far (fstC (d 0) has n).toNat (fstC (d 0) has n).toNat (fstC (d 0) has n).toNat)) + 1
theorem covC_end {t : List (Int × Int)} {d : Nat → Nat → Int} {far : Int} {n : Nat} {has : Nat → Bool} (h : fstC (d 0) has n < 0) : ∀ f, covC t d far n f has = 0
  | 0 => rfl
  | f + 1 => by simp only [covC]; rw [if_pos h]
theorem covC_next {t : List (Int × Int)} {d : Nat → Nat → Int} {far : Int} {n f a : Nat} {has : Nat → Bool} (h : fstC (d 0) has n = a) : covC t d far n (f + 1) has = covC t d far n f (addC d far has (clmC t d far a a a)) + 1 := by
  simp only [covC]; rw [if_neg (by omega), h]; rfl
/-- One more leaves fewer without. -/
theorem left_next {t : List (Int × Int)} (ht : Ahead t) {far : Int} {n a : Nat} {has : Nat → Bool} (hn : n ≤ t.length) (hf : 0 ≤ far) (h : fstC (dn t n 0) has n = a) : leftC (addC (dn t n) far has (clmC t (dn t n) far a a a)) n < leftC has n := by
  obtain ⟨h1, h2, -, -⟩ := fstC_some h
  refine leftC_lt (fun i hi => by simp [addC, hi]) h2 ?_ n h1
  have := (clmC_is ht (d := dn t n) (far := far) (a := a) a a (by omega) (by rw [dn_diag t n a h1]; exact hf)).2
  rw [dn_symm] at this
  simp [addC, this]
/-- TreeCover's answer. -/
def cvv (t : List (Int × Int)) (far : Int) : Int := if vt t = true ∧ 0 ≤ far ∧ far ≤ 50 then ((covC t (dn t t.length) far t.length t.length (fun _ => false) : Nat) : Int) else -1
theorem cvv_no {t : List (Int × Int)} {far : Int} (h : vt t = false ∨ far < 0 ∨ 50 < far) : cvv t far = -1 := by
  unfold cvv
  rw [if_neg]
  rintro ⟨h1, h2, h3⟩
  rcases h with h | h | h
  · rw [h1] at h; cases h
  · omega
  · omega
theorem cvv_yes {t : List (Int × Int)} {far : Int} (h : vt t = true) (h1 : 0 ≤ far) (h2 : far ≤ 50) : cvv t far = ((covC t (dn t t.length) far t.length t.length (fun _ => false) : Nat) : Int) := by
  unfold cvv; rw [if_pos ⟨h, h1, h2⟩]
/-- The row of who has one near, in memory. -/
def hrow (has : Nat → Bool) (n : Nat) : List Value := (List.range n).map fun i => Value.bool (has i)
theorem hrow_len (has : Nat → Bool) (n : Nat) : (hrow has n).length = n := by simp [hrow]
theorem hrow_at (has : Nat → Bool) {n i : Nat} (h : i < n) : (hrow has n)[i]? = some (.bool (has i)) := by simp [hrow, h]
theorem hrow_set (has : Nat → Bool) {n i : Nat} (b : Bool) (h : i < n) : (hrow has n).set i (.bool b) = hrow (upd has i b) n := by
  apply List.ext_getElem?
  intro j
  rw [List.getElem?_set]
  by_cases e : i = j
  · subst e
    rw [if_pos rfl, if_pos (by rw [hrow_len]; exact h), hrow_at _ h, upd_at]
  · rw [if_neg e]
    by_cases hj : j < n
    · rw [hrow_at _ hj, hrow_at _ hj, upd_other _ _ (fun e' => e e'.symm)]
    · rw [List.getElem?_eq_none (by rw [hrow_len]; omega), List.getElem?_eq_none (by rw [hrow_len]; omega)]
theorem hrow_congr {has has' : Nat → Bool} {n : Nat} (h : ∀ i, i < n → has i = has' i) : hrow has n = hrow has' n := by
  unfold hrow
  apply List.map_congr_left
  intro i hi
  rw [h i (List.mem_range.1 hi)]
/-- Where the marking of the nodes has come to. -/
def midC (d : Nat → Nat → Int) (far : Int) (has : Nat → Bool) (s k : Nat) : Nat → Bool := fun i => if i < k then addC d far has s i else has i
theorem midC_step {d : Nat → Nat → Int} {far : Int} {has : Nat → Bool} {s k : Nat} {b : Bool} (h : addC d far has s k = b) {n : Nat} : hrow (upd (midC d far has s k) k b) n = hrow (midC d far has s (k + 1)) n := by
  refine hrow_congr fun i hi => ?_
  unfold upd midC
  by_cases e : i = k
  · subst e; rw [if_pos rfl, if_pos (by omega), h]
  · rw [if_neg e]
    by_cases hk : i < k
    · rw [if_pos hk, if_pos (by omega)]
    · rw [if_neg hk, if_neg (by omega)]
end Go.Proofs.Ytkgomgfhhhdnjab
namespace Go.Proofs.Ytkgomgfhhhdnjab
open Go.ChangeShapes Go.WideShapes Go.ChangeAt Go.RowKit
set_option linter.unusedVariables false

/-- A way out of what is behind v goes over v's road. -/
theorem dn_cross {t : List (Int × Int)} (ht : Ahead t) {n v x : Nat} (hn : n ≤ t.length) (hv1 : 1 ≤ v) (hv : v < n) (hx : x < n) (hxv : ¬ Bh t v x) : ∀ i, i < n → Bh t v i → dn t n i x = dn t n i v + tlg t v + dn t n (tto t v) x := by
  intro i
  induction i using Nat.strongRecOn with
  | ind i ih =>
    intro hi hb
    have hle := bh_le ht (by omega) hb
    by_cases e : i = v
    · subst e
      rw [dn_over ht hn hv1 hv x hx, if_neg hxv, dn_diag t n i hi]; omega
    · have hr := ht i (by omega) (by omega)
      rw [dn_over ht hn (by omega) hi x hx, if_neg (fun h => hxv (bh_trans ht (by omega) (by omega) hb h)), dn_over ht hn (by omega) hi v hv, if_neg (fun h => by have := bh_le ht (by omega) h; omega),
        ih _ hr.1 (by omega) ((bh_up ht (by omega) (by omega)).1 hb)]
      omega
/-- Depths add up. -/
theorem dn_down {t : List (Int × Int)} (ht : Ahead t) {n v : Nat} (hn : n ≤ t.length) (hv : v < n) : ∀ i, i < n → Bh t v i → dn t n 0 i = dn t n 0 v + dn t n v i := by
  intro i
  induction i using Nat.strongRecOn with
  | ind i ih =>
    intro hi hb
    have hle := bh_le ht (by omega) hb
    by_cases e : i = v
    · subst e; rw [dn_diag t n i hi]; omega
    · have hr := ht i (by omega) (by omega)
      rw [dn_symm t n 0 i, dn_road ht hn hi (by omega), dn_symm t n v i, dn_road ht hn hi (by omega), dn_symm t n _ 0, ih _ hr.1 (by omega) ((bh_up ht (by omega) (by omega)).1 hb), dn_symm t n v (tto t i)]
      omega
theorem bh_zero {t : List (Int × Int)} (ht : Ahead t) {i : Nat} (hi : i < t.length) : Bh t 0 i := Nat.le_zero.1 (tp_le ht (j := 0) i hi).1

/-- What was picked first, a, served from s, and what was picked later, b, have no node near both. -/
theorem picked_apart {t : List (Int × Int)} {far : Int} (ht : Ahead t) {n a s b : Nat} (hn : n ≤ t.length) (ha : a < n) (hs : s < n) (hb : b < n) (hsa : Bh t s a) (h1 : dn t n s a ≤ far) (h2 : s = 0 ∨ far < dn t n a (tto t s))
    (h3 : dn t n 0 b ≤ dn t n 0 a) (h4 : far < dn t n s b) : ∀ x, x < n → ¬ (dn t n x a ≤ far ∧ dn t n x b ≤ far) := by
  intro x hx ⟨hxa, hxb⟩
  by_cases hsb : Bh t s b
  · have e1 := dn_down ht hn hs b hb hsb
    have e2 := dn_down ht hn hs a ha hsa
    omega
  · have hs1 : 1 ≤ s := by
      rcases Nat.eq_zero_or_pos s with h | h
      · subst h; exact absurd (bh_zero ht (by omega)) hsb
      · exact h
    have hr := ht s hs1 (by omega)
    by_cases hsx : Bh t s x
    · have e1 := dn_cross ht hn hs1 hs hb hsb x hx hsx
      have e2 := dn_cross ht hn hs1 hs hb hsb s hs (bh_self t s)
      have e3 := dn_diag t n s hs
      have e4 := (dn_bd ht n x s hn hx hs).1
      omega
    · have e1 := dn_cross ht hn hs1 hs hx hsx a ha hsa
      have hp : ¬ Bh t s (tto t s) := fun h => by have := bh_le ht (by omega) h; omega
      have e2 := dn_cross ht hn hs1 hs (show tto t s < n by omega) hp a ha hsa
      have e3 := dn_diag t n (tto t s) (by omega)
      have e4 := (dn_bd ht n (tto t s) x hn (by omega) hx).1
      have e5 := dn_symm t n a x
      rcases h2 with h2 | h2 <;> omega

theorem clmC_spec {t : List (Int × Int)} {far : Int} (ht : Ahead t) {n a : Nat} (hn : n ≤ t.length) (ha : a < n) : ∀ f s, s ≤ f → s ≤ a → Bh t s a → dn t n a s ≤ far →
    let r := clmC t (dn t n) far a f s
    r ≤ a ∧ Bh t r a ∧ dn t n a r ≤ far ∧ (r = 0 ∨ far < dn t n a (tto t r))
  | 0, s, h, hsa, hb, hd => by
    obtain rfl : s = 0 := by omega
    exact ⟨by simp [clmC], by simpa [clmC] using hb, by simpa [clmC] using hd, .inl rfl⟩
  | f + 1, s, h, hsa, hb, hd => by
    by_cases hc : 0 < s ∧ dn t n a (tto t s) ≤ far
    · have hr := ht s (by omega) (by omega)
      have ih := clmC_spec (far := far) ht hn ha f (tto t s) (by omega) (by omega) (bh_trans ht (v := s) (by omega) (by omega) ((bh_up ht (by omega) hr.1).2 (bh_self t _)) hb) hc.2
      simp only [clmC, if_pos hc]
      exact ih
    · simp only [clmC, if_neg hc]
      refine ⟨hsa, hb, hd, ?_⟩
      rcases Nat.eq_zero_or_pos s with h0 | h0
      · exact .inl h0
      · right
        rcases Int.lt_or_le far (dn t n a (tto t s)) with h1 | h1
        · exact h1
        · exact absurd ⟨h0, h1⟩ hc
theorem leftC_pos {has : Nat → Bool} : ∀ {m i}, i < m → has i = false → 1 ≤ leftC has m
  | 0, i, h, _ => by omega
  | m + 1, i, h, hf => by
    simp only [leftC]
    by_cases e : i = m
    · subst e; rw [if_neg (by rw [hf]; simp)]; omega
    · have := leftC_pos (m := m) (by omega) hf; omega
theorem covC_run {t : List (Int × Int)} {far : Int} (ht : Ahead t) (hfar : 0 ≤ far) {n : Nat} (hn : n ≤ t.length) : ∀ f has, leftC has n ≤ f → ∃ P : List (Nat × Nat), P.length = covC t (dn t n) far n f has ∧
    (∀ p ∈ P, p.1 < n ∧ p.2 < n ∧ has p.1 = false ∧ Bh t p.2 p.1 ∧ dn t n p.2 p.1 ≤ far ∧ (p.2 = 0 ∨ far < dn t n p.1 (tto t p.2))) ∧
    P.Pairwise (fun p q => dn t n 0 q.1 ≤ dn t n 0 p.1 ∧ far < dn t n p.2 q.1) ∧ (∀ i, i < n → has i = true ∨ ∃ p ∈ P, dn t n p.2 i ≤ far)
  | 0, has, h => by
    refine ⟨[], rfl, fun p hp => (by cases hp), List.Pairwise.nil, fun i hi => ?_⟩
    cases e : has i with
    | true => exact .inl rfl
    | false => have := leftC_pos hi e; omega
  | f + 1, has, h => by
    rcases Int.lt_or_le (fstC (dn t n 0) has n) 0 with hneg | hpos
    · exact ⟨[], by rw [covC_end hneg]; rfl, fun p hp => (by cases hp), List.Pairwise.nil, fun i hi => .inl (fstC_none hneg i hi)⟩
    · obtain ⟨a, e⟩ := Int.eq_ofNat_of_zero_le hpos
      obtain ⟨a1, a2, a3, -⟩ := fstC_some e
      obtain ⟨s1, s2, s3, s4⟩ := clmC_spec (far := far) ht hn a1 a a (Nat.le_refl _) (Nat.le_refl _) (bh_self t a) (by rw [dn_diag t n a a1]; exact hfar)
      have hl := left_next ht hn hfar e
      rw [covC_next e]
      generalize hs : clmC t (dn t n) far a a a = s at s1 s2 s3 s4 hl
      have s3' : dn t n s a ≤ far := by rw [dn_symm]; exact s3
      obtain ⟨P, p1, p2, p3, p4⟩ := covC_run ht hfar hn f (addC (dn t n) far has s) (by omega)
      refine ⟨(a, s) :: P, ?_, ?_, ?_, ?_⟩
      · simp only [List.length_cons, p1]
      · intro p hp
        rcases List.mem_cons.1 hp with rfl | hp
        · exact ⟨a1, by show s < n; omega, a2, s2, s3', s4⟩
        · obtain ⟨q1, q2, q3, q4⟩ := p2 p hp
          simp only [addC, Bool.or_eq_false_iff] at q3
          exact ⟨q1, q2, q3.1, q4⟩
      · refine List.Pairwise.cons (fun q hq => ?_) p3
        obtain ⟨q1, q2, q3, q4⟩ := p2 q hq
        simp only [addC, Bool.or_eq_false_iff, decide_eq_false_iff_not] at q3
        exact ⟨a3 _ q1 q3.1, by show far < dn t n s q.1; omega⟩
      · intro i hi
        rcases p4 i hi with h1 | ⟨p, hp, h1⟩
        · simp only [addC, Bool.or_eq_true, decide_eq_true_eq] at h1
          rcases h1 with h1 | h1
          · exact .inl h1
          · exact .inr ⟨(a, s), by simp, h1⟩
        · exact .inr ⟨p, by simp [hp], h1⟩
/-- The greedy cover: its nodes cover, and those picked are apart. -/
theorem covC_both {t : List (Int × Int)} {far : Int} (ht : Ahead t) (hfar : 0 ≤ far) {n : Nat} (hn : n ≤ t.length) :
    (∃ P, Cov (dn t n) far n P ∧ P.length = covC t (dn t n) far n n (fun _ => false)) ∧ ∃ J, Apt (dn t n) far n J ∧ J.length = covC t (dn t n) far n n (fun _ => false) := by
  obtain ⟨P, p1, p2, p3, p4⟩ := covC_run ht hfar hn n (fun _ => false) (by rw [leftC_none]; exact Nat.le_refl _)
  refine ⟨⟨P.map (·.2), ⟨fun i hi => ?_, fun v hv => ?_⟩, by rw [List.length_map, p1]⟩, P.map (·.1), ⟨fun i hi => ?_, ?_, ?_⟩, by rw [List.length_map, p1]⟩
  · obtain ⟨p, hp, rfl⟩ := List.mem_map.1 hi
    exact (p2 p hp).2.1
  · rcases p4 v hv with h | ⟨p, hp, h⟩
    · cases h
    · refine ⟨p.2, List.mem_map.2 ⟨p, hp, rfl⟩, (dn_bd ht n v p.2 hn hv (p2 p hp).2.1).1, ?_⟩
      rw [dn_symm]; exact h
  · obtain ⟨p, hp, rfl⟩ := List.mem_map.1 hi
    exact (p2 p hp).1
  · unfold List.Nodup
    rw [List.pairwise_map]
    refine List.Pairwise.imp_of_mem ?_ p3
    intro p q hp hq h e
    obtain ⟨q1, q2, q3, q4, q5, q6⟩ := p2 p hp
    rw [e] at q5
    omega
  · have hpw : P.Pairwise fun p q => ∀ v, v < n → ¬ (dn t n v p.1 ≤ far ∧ dn t n v q.1 ≤ far) := by
      refine List.Pairwise.imp_of_mem ?_ p3
      intro p q hp hq h
      obtain ⟨a1, a2, a3, a4, a5, a6⟩ := p2 p hp
      exact picked_apart ht hn a1 a2 (p2 q hq).1 a4 a5 a6 h.1 h.2
    intro i hi k hk hne v hv ⟨h1, h2⟩
    obtain ⟨p, hp, rfl⟩ := List.mem_map.1 hi
    obtain ⟨q, hq, rfl⟩ := List.mem_map.1 hk
    have key : ∀ {L : List (Nat × Nat)}, L.Pairwise (fun p q => ∀ v, v < n → ¬ (dn t n v p.1 ≤ far ∧ dn t n v q.1 ≤ far)) → p ∈ L → q ∈ L → ¬ (dn t n v p.1 ≤ far ∧ dn t n v q.1 ≤ far) := by
      intro L hL
      induction hL with
      | nil => intro h; cases h
      | @cons a L h5 h6 ih =>
        intro hi hk
        rcases List.mem_cons.1 hi with hi2 | hi2 <;> rcases List.mem_cons.1 hk with hk2 | hk2
        · exact absurd (by rw [hi2, hk2]) hne
        · rw [hi2]; exact h5 q hk2 v hv
        · rw [hk2]; exact fun ⟨a1, a2⟩ => h5 p hi2 v hv ⟨a2, a1⟩
        · exact ih hi2 hk2
    exact key hpw hp hq ⟨h1.2, h2.2⟩
/-- In trees: fewest that cover are most that are apart. -/
theorem tree_cover {t : List (Int × Int)} {far : Int} (ht : Ahead t) (hfar : 0 ≤ far) {n : Nat} (hn : n ≤ t.length) (h7 : n ≤ 7) :
    covC t (dn t n) far n n (fun _ => false) = pkB (dn t n) far n (2 ^ n) ∧ cvN (dn t n) far n (2 ^ n) = pkB (dn t n) far n (2 ^ n) := by
  obtain ⟨⟨P, hP, hPl⟩, J, hJ, hJl⟩ := covC_both ht hfar hn
  have h1 := cvN_le_cov h7 hP
  have h2 := apt_le_pkB h7 hJ
  have h3 := pk_le_cv (d := dn t n) (far := far) h7 (fun a b _ _ => dn_symm t n a b) (fun a ha => dn_diag t n a ha) hfar
  omega
end Go.Proofs.Ytkgomgfhhhdnjab
namespace Go.Proofs.Ytkgomgfhhhdnjab
open Go.ChangeShapes Go.WideShapes Go.ChangeAt Go.RowKit
set_option linter.unusedVariables false
set_option maxRecDepth 4000

def okF (fs : List Int) : Bool := fs.all fun x => decide (0 ≤ x) && decide (x ≤ 20)
theorem okF_iff {fs : List Int} : okF fs = true ↔ ∀ i, i < fs.length → 0 ≤ fs.getD i 0 ∧ fs.getD i 0 ≤ 20 := by
  unfold okF
  rw [List.all_eq_true]
  constructor
  · intro h i hi
    have := h (fs.getD i 0) (by simp [List.getD, List.getElem?_eq_getElem hi])
    simpa using this
  · intro h x hx
    obtain ⟨i, hi, rfl⟩ := List.getElem_of_mem hx
    have := h i hi
    simp only [List.getD, List.getElem?_eq_getElem hi, Option.getD_some] at this
    simpa using this
theorem okF_no {fs : List Int} {k : Nat} {x : Int} (hk : k < fs.length) (hx : fs.getD k 0 = x) (h : x < 0 ∨ 20 < x) : okF fs = false := by
  rw [Bool.eq_false_iff]; intro h'
  have := okF_iff.1 h' k hk
  rw [hx] at this; omega
def FineTo (fs : List Int) (k : Nat) : Prop := ∀ i, i < k → 0 ≤ fs.getD i 0 ∧ fs.getD i 0 ≤ 20
theorem FineTo.step {fs : List Int} {k : Nat} {x : Int} (h : FineTo fs k) (hx : fs.getD k 0 = x) (h1 : 0 ≤ x) (h2 : x ≤ 20) : FineTo fs (k + 1) := fun i hi => by
  by_cases e : i = k
  · rw [e, hx]; exact ⟨h1, h2⟩
  · exact h i (by omega)
theorem FineTo.end_ {fs : List Int} {k : Nat} (h : FineTo fs k) (hk : fs.length ≤ k) : okF fs = true := okF_iff.2 fun i hi => h i (by omega)

theorem folk1_any (x : Int) (w : World) : Calls Try.prog 118 #[.int .i64 x] w fun e w' => e = .returned (.bool (decide (x < 0) || decide (20 < x))) ∧ w = w' := by
  by_cases h1 : x < 0 <;> by_cases h2 : 20 < x
  all_goals
    go_enter Try.func118, Try.ntmps118
    go_wp2
    go_ret
    exact ⟨ret_bool (by simp [h1, h2]), rfl⟩
theorem folk1_yes (x : Int) (w : World) (h : x < 0 ∨ 20 < x) : Calls Try.prog 118 #[.int .i64 x] w fun e w' => e = .returned (.bool true) ∧ w = w' :=
  (folk1_any x w).mono fun _ _ ⟨he, hw⟩ => ⟨by rw [he]; rcases h with h | h <;> simp [h], hw⟩
theorem folk1_no (x : Int) (w : World) (h1 : 0 ≤ x) (h2 : x ≤ 20) : Calls Try.prog 118 #[.int .i64 x] w fun e w' => e = .returned (.bool false) ∧ w = w' :=
  (folk1_any x w).mono fun _ _ ⟨he, hw⟩ => ⟨by rw [he]; simp; omega, hw⟩

def FolkIdx (fs : List Int) (w : World) (e : Ending) (w' : World) : Prop := ∃ r : Int, e = .returned (.int .i64 r) ∧ (okF fs = true → r = -1) ∧ (okF fs = false → 0 ≤ r) ∧ w = w'
set_option maxHeartbeats 800000 in
theorem indexFolk_any (A : Option Addr) (c n : Nat) (fs : List Int) (w : World) (B : Nat) (hr : RdI w B A fs) (hn : fs.length = n) (hb : n ≤ 1152921504606846976) :
    Calls Try.prog 126 #[.slice A n c, .func (.func 118) #[] #[]] w (FolkIdx fs w) := by
  have Hn := Lib.hid hn
  clear hn
  go_enter Try.func126, Try.ntmps126
  go_wp2
  go_loop [8] (fun i => ∃ k : Nat, k ≤ n ∧ i = .int .i64 k ∧ Hid (FineTo fs k)) (fun i => n - (intOf i).toNat)
  case atStart => exact ⟨0, by omega, rfl, fun i hi => by omega⟩
  case round =>
    obtain ⟨k, hk, rfl, Ho⟩ := hrel
    by_cases hlt : k < n
    · obtain ⟨b, off, x, rfl, -, Hx, hcx⟩ := hr.x (k := k) (by rw [Hn.out]; omega)
      by_cases h1 : x < 0 ∨ 20 < x
      · have Hs := Lib.hid (okF_no (by rw [Hn.out]; exact hlt) Hx.out h1)
        have Hf := Lib.hid (folk1_yes x w h1)
        clear h1
        go_wp2_with fail
        refine Hf.out.mono ?_
        rintro e w' ⟨rfl, rfl⟩
        go_wp2
        go_ret
        exact ⟨_, rfl, fun h => absurd (Hs.out.symm.trans h) (by decide), fun _ => by omega, rfl⟩
      · have Hs := Lib.hid (Ho.out.step Hx.out (by omega) (by omega))
        have Hf := Lib.hid (folk1_no x w (by omega) (by omega))
        clear h1
        go_wp2_with fail
        refine Hf.out.mono ?_
        rintro e w' ⟨rfl, rfl⟩
        go_wp2
        go_round
        case rel => exact ⟨k + 1, by omega, by go_num, Hs⟩
        case measure => simp [intOf]; omega
    · have Hs := Lib.hid (Ho.out.end_ (by rw [Hn.out]; omega))
      go_wp2
      go_ret
      exact ⟨_, rfl, fun _ => rfl, fun h => absurd (Hs.out.symm.trans h) (by decide), rfl⟩
theorem containsFolk_any (A : Option Addr) (c n : Nat) (fs : List Int) (w : World) (B : Nat) (hr : RdI w B A fs) (hn : fs.length = n) (hb : n ≤ 1152921504606846976) :
    Calls Try.prog 117 #[.slice A n c, .func (.func 118) #[] #[]] w fun e w' => e = .returned (.bool (!(okF fs))) ∧ w = w' := by
  have H := Lib.hid (indexFolk_any A c n fs w B hr hn hb)
  clear hn hr
  go_enter Try.func117, Try.ntmps117
  go_wp2_with fail
  refine H.out.mono ?_
  rintro e w' ⟨r, rfl, h1, h2, rfl⟩
  by_cases hf : okF fs = true
  · have := h1 hf
    subst this
    have Hf := Lib.hid hf
    clear h1 h2 hf
    go_wp2
    go_ret
    exact ⟨ret_bool (by rw [Hf.out]; rfl), rfl⟩
  · have hf' : okF fs = false := by simpa using hf
    have hr0 := h2 hf'
    have Hf := Lib.hid hf'
    clear h1 h2 hf hf'
    go_wp2
    go_ret
    exact ⟨ret_bool (by rw [Hf.out]; simp), rfl⟩
theorem areFolk_any (A : Option Addr) (c n : Nat) (fs : List Int) (w : World) (B : Nat) (hr : RdI w B A fs) (hn : fs.length = n) (hb : n ≤ 1152921504606846976) :
    Calls Try.prog 108 #[.slice A n c] w fun e w' => e = .returned (.bool (okF fs)) ∧ w = w' := by
  have H := Lib.hid (containsFolk_any A c n fs w B hr hn hb)
  clear hr hn
  go_enter Try.func108, Try.ntmps108
  go_wp2_with fail
  refine H.out.mono ?_
  rintro e w' ⟨rfl, rfl⟩
  go_wp2
  go_ret
  exact ⟨ret_bool (by simp), rfl⟩
end Go.Proofs.Ytkgomgfhhhdnjab
