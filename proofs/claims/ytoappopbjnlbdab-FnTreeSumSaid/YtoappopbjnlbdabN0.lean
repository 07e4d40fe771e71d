/-
  The program's tree in memory: a block for each node, with its roads.
  Conditions: none beyond what each theorem states.
-/
import Derived.Test.YtoappopbjnlbdabUG
import Derived.Test.YtoappopbjnlbdabG5
import Derived.Test.YtoappopbjnlbdabT7
import Derived.Deep.AppendLies
import Derived.Deep.RegionLaw
import Derived.BigRegion
import Derived.OneCell
import Derived.LaidEqlPtr
import Derived.Laws.Pointers
namespace Go.Proofs.Ytoappopbjnlbdab
open Go.ChangeShapes Go.WideShapes Go.ChangeAt Go.RowKit
set_option linter.unusedVariables false
set_option maxRecDepth 4000

def ptr (g : Nat) : Value := .pointer (some ⟨g, 0, none⟩)
def brv (P : Nat → Nat) : List (Nat × Int) → List Value
  | [] => []
  | x :: r => ptr (P x.1) :: .int .i64 x.2 :: brv P r
theorem brv_len (P : Nat → Nat) : ∀ l, (brv P l).length = l.length * 2
  | [] => rfl
  | x :: r => by simp only [brv, List.length_cons, brv_len P r]; omega
theorem brv_append (P : Nat → Nat) : ∀ a b, brv P (a ++ b) = brv P a ++ brv P b
  | [], b => rfl
  | x :: r, b => by simp [brv, brv_append P r b]
theorem brv_congr {P P' : Nat → Nat} : ∀ {l : List (Nat × Int)}, (∀ x ∈ l, P x.1 = P' x.1) → brv P l = brv P' l
  | [], _ => rfl
  | x :: r, h => by simp only [brv, h x (List.mem_cons_self ..), brv_congr (l := r) fun y hy => h y (List.mem_cons_of_mem _ hy)]
theorem brv_ptr (P : Nat → Nat) : ∀ (l : List (Nat × Int)) k, k < l.length → (brv P l)[k * 2]? = some (ptr (P (l.getD k (0, 0)).1))
  | [], k, h => by simp at h
  | x :: r, 0, h => rfl
  | x :: r, k + 1, h => by
    rw [show (k + 1) * 2 = k * 2 + 1 + 1 by omega]
    simp only [brv, List.getElem?_cons_succ, List.getD_cons_succ]
    exact brv_ptr P r k (by simpa using h)
theorem brv_int (P : Nat → Nat) : ∀ (l : List (Nat × Int)) k, k < l.length → (brv P l)[k * 2 + 1]? = some (.int .i64 (l.getD k (0, 0)).2)
  | [], k, h => by simp at h
  | x :: r, 0, h => rfl
  | x :: r, k + 1, h => by
    rw [show (k + 1) * 2 + 1 = k * 2 + 1 + 1 + 1 by omega]
    simp only [brv, List.getElem?_cons_succ, List.getD_cons_succ]
    exact brv_int P r k (by simpa using h)
def ptrs (P : Nat → Nat) (n : Nat) : List Value := (List.range n).map fun i => ptr (P i)
def upv (P : Nat → Nat) (t : List (Int × Int)) (i : Nat) : Value := if i = 0 then .pointer none else ptr (P (tto t i))
/-- The first n nodes lie in w, from block B on. -/
structure LkN (w : World) (B n : Nat) (P : Nat → Nat) (RV : Nat → Value) (t : List (Int × Int)) : Prop where
  node : ∀ i, i < n → B ≤ P i ∧ w.heap[P i]? = some (.cells #[.int .i64 i, .int .i64 (dn t n i 0), upv P t i, RV i] 67 (0, 0))
  inj : ∀ i j, i < n → j < n → P i = P j → i = j
  own : ∀ i, i < n → w.ownsRow B 92 2 (RV i) (nb t n i).length (brv P (nb t n i))
  dis : ∀ i j g, i < n → j < n → (RV i).ownBlock = some g → (RV j).ownBlock = some g → i = j
def LinkRel (w : World) (t : List (Int × Int)) (v i : Value) (wr : World) : Prop :=
  ∃ k : Nat, ∃ P RV, k < t.length ∧ i = .int .i64 k ∧ LkN wr w.heap.size (k + 1) P RV t ∧ wr.ownsRow w.heap.size 62 1 v (k + 1) (ptrs P (k + 1)) ∧ Below w.heap.size w wr
def Linked (w : World) (t : List (Int × Int)) (e : Ending) (w' : World) : Prop :=
  ∃ v P RV, e = .returned v ∧ LkN w' w.heap.size t.length P RV t ∧ w'.ownsRow w.heap.size 62 1 v t.length (ptrs P t.length) ∧ Below w.heap.size w w'
theorem brInfo : (Try.prog.info? 92).map (fun i => (i.zero, i.size, i.bytes)) = some (some (.agg #[.pointer none, .int .i64 0]), 2, 16) := by kernel_rfl
theorem nptrInfo : (Try.prog.info? 62).map (fun i => (i.zero, i.size, i.bytes)) = some (some (.pointer none), 1, 8) := by kernel_rfl
theorem LkN.lt {w : World} {B n : Nat} {P : Nat → Nat} {RV : Nat → Value} {t : List (Int × Int)} (h : LkN w B n P RV t) {i : Nat} (hi : i < n) : P i < w.heap.size := (Array.getElem?_eq_some_iff.1 (h.node i hi).2).1
theorem LkN.below {w w' : World} {B n : Nat} {P : Nat → Nat} {RV : Nat → Value} {t : List (Int × Int)} (h : LkN w B n P RV t) (hb : Below w.heap.size w w') : LkN w' B n P RV t where
  node i hi := ⟨(h.node i hi).1, (hb.block _ (h.lt hi)).trans (h.node i hi).2⟩
  inj := h.inj
  own i hi := ownN_below (h.own i hi) hb
  dis := h.dis
theorem LkN.cells {w : World} {B n : Nat} {P : Nat → Nat} {RV : Nat → Value} {t : List (Int × Int)} (h : LkN w B n P RV t) {i : Nat} (hi : i < n) :
    w.cell? ⟨P i, 0, none⟩ = some (.int .i64 i) ∧ w.cell? ⟨P i, 1, none⟩ = some (.int .i64 (dn t n i 0)) ∧ w.cell? ⟨P i, 2, none⟩ = some (upv P t i) ∧ w.cell? ⟨P i, 3, none⟩ = some (RV i) ∧ w.frozen? ⟨P i, 3, none⟩ = false := by
  have hh := (h.node i hi).2
  refine ⟨?_, ?_, ?_, ?_, ?_⟩
  · rw [cell_of_row _ _ _ _ _ _ hh]; rfl
  · rw [cell_of_row _ _ _ _ _ _ hh]; rfl
  · rw [cell_of_row _ _ _ _ _ _ hh]; rfl
  · rw [cell_of_row _ _ _ _ _ _ hh]; rfl
  · simp [World.frozen?, hh]
theorem nilOwn (Q : Nat) : (Value.slice none 0 0).ownBlock ≠ some Q := by simp [Value.ownBlock]
theorem node_c3 {w : World} {Q : Nat} {a b c d : Value} {t : TypeId} (hh : w.heap[Q]? = some (.cells #[a, b, c, d] t (0, 0))) : w.cell? ⟨Q, 3, none⟩ = some d := by
  rw [cell_of_row _ _ _ _ _ _ hh]; rfl
theorem app_node {wB w1 : World} {o x : Obj} {row : Option Nat} {Q : Nat} (hg : (wB.alloc o).drew.grownBy w1 row) (hh : wB.heap[Q]? = some x) (hne : row ≠ some Q) : w1.heap[Q]? = some x :=
  grown_node hg (show (wB.alloc o).heap[Q]? = some x from (heap_alloc_old wB o (Array.getElem?_eq_some_iff.1 hh).1).trans hh) hne
/-- The first node. -/
theorem link_start (w w1 : World) (t : List (Int × Int)) (hw : w1 = w.alloc (.cells #[.int .i64 0, .int .i64 0, .pointer none, .slice none 0 0] 67)) :
    LkN w1 w.heap.size 1 (fun _ => w.heap.size) (fun _ => .slice none 0 0) t := by
  subst hw
  constructor
  · intro i hi
    obtain rfl : i = 0 := by omega
    refine ⟨Nat.le_refl _, ?_⟩
    rw [heap_alloc_new]
    simp [upv, dn]
  · intro i j hi hj _; omega
  · intro i hi
    obtain rfl : i = 0 := by omega
    exact World.ownsRow_nil _ _ _ _
  · intro i j g hi hj _ _; omega

/-- A node's roads lie elsewhere than nodes. -/
theorem LkN.own_node {w : World} {B n : Nat} {P : Nat → Nat} {RV : Nat → Value} {t : List (Int × Int)} (h : LkN w B n P RV t) {i j : Nat} (hi : i < n) (hj : j < n) : (RV i).ownBlock ≠ some (P j) := fun e => by
  obtain ⟨⟨cs, hc⟩, _⟩ := own_heap (h.own i hi) e
  exact types_apart hc (h.node j hj).2 (by decide) rfl
theorem LkN.own_lt {w : World} {B n : Nat} {P : Nat → Nat} {RV : Nat → Value} {t : List (Int × Int)} (h : LkN w B n P RV t) {i g : Nat} (hi : i < n) (e : (RV i).ownBlock = some g) : g < w.heap.size := (own_heap (h.own i hi) e).2.2
/-- What writes into a block of another type leaves the nodes. -/
theorem LkN.kept {w w' : World} {B n : Nat} {P : Nat → Nat} {RV : Nat → Value} {t : List (Int × Int)} {row : Option Nat} (h : LkN w B n P RV t) (hg : w.grownBy w' row)
    (hr : ∀ g, row = some g → g < w.heap.size → ∃ cs ty fz, w.heap[g]? = some (.cells cs ty fz) ∧ ty ≠ 67 ∧ ty ≠ 92) : LkN w' B n P RV t where
  node i hi := ⟨(h.node i hi).1, grown_node hg (h.node i hi).2 fun e => by
    obtain ⟨cs, ty, fz, hc, h1, h2⟩ := hr _ e (h.lt hi)
    exact types_apart hc (h.node i hi).2 h1 rfl⟩
  inj := h.inj
  own i hi := (h.own i hi).kept hg (by
    rcases e : (RV i).ownBlock with _ | g
    · exact .inl rfl
    · right
      intro e'
      obtain ⟨cs, ty, fz, hc, h1, h2⟩ := hr g e'.symm (h.own_lt hi e)
      obtain ⟨⟨cs', hc'⟩, _⟩ := own_heap (h.own i hi) e
      exact types_apart hc hc' h2 rfl)
  dis := h.dis
theorem heap_setCell_at {w : World} {g : Nat} {a b c d v : Value} {ty : TypeId} (hh : w.heap[g]? = some (.cells #[a, b, c, d] ty (0, 0))) : (w.setCell ⟨g, 3, none⟩ v).heap[g]? = some (.cells #[a, b, c, v] ty (0, 0)) := by
  simp [World.setCell, Array.getElem?_modify, hh]
theorem nb_len (t : List (Int × Int)) : ∀ n i, (nb t n i).length ≤ n
  | 0, _ => Nat.le_refl _
  | n + 1, i => by
    simp only [nb]
    split
    · split <;> simp
    · have := nb_len t n i
      split <;> simp <;> omega
/-- One node more, with both ends of its road. -/
theorem link_step {wC W w2 : World} {B k p Q g1 : Nat} {P : Nat → Nat} {RV : Nat → Value} {t : List (Int × Int)} {v1 : Value} {y : Int} {g2 cap2 : Nat} {l2 : Nat} (ht : Ahead t) (hk : k + 1 < t.length)
    (hlk : LkN wC B (k + 1) P RV t) (nC : wC.heap[Q]? = some (.cells #[.int .i64 (k + 1 : Nat), .int .i64 (dn t (k + 2) (k + 1) 0), ptr (P p), v1] 67 (0, 0)))
    (oC : wC.ownsRow B 92 2 v1 1 [ptr (P p), .int .i64 y]) (hv1 : v1.ownBlock = some g1) (hB : B ≤ Q) (hQ : ∀ i, i < k + 1 → P i ≠ Q) (hg1 : ∀ i, i < k + 1 → (RV i).ownBlock ≠ some g1)
    (hW : Below wC.heap.size wC W) (hp : tto t (k + 1) = p) (hy : tlg t (k + 1) = y)
    (hgrow : W.grownBy w2 (RV p).ownBlock) (hown2 : w2.ownsRow B 92 2 (.slice (some ⟨g2, 0, none⟩) l2 cap2) l2 (brv P (nb t (k + 1) p) ++ [ptr Q, .int .i64 y])) (hl2 : l2 = (nb t (k + 1) p).length + 1)
    (hat : (RV p).ownBlock = some g2 ∨ g2 = W.heap.size) :
    LkN (w2.setCell ⟨P p, 3, none⟩ (.slice (some ⟨g2, 0, none⟩) l2 cap2)) B (k + 2) (fun i => if i = k + 1 then Q else P i) (fun i => if i = k + 1 then v1 else if i = p then .slice (some ⟨g2, 0, none⟩) l2 cap2 else RV i) t := by
  have hpk : p < k + 1 := by have := (ht (k + 1) (by omega) hk).1; omega
  have hlkW := hlk.below hW
  have nW : W.heap[Q]? = _ := (hW.block Q (Array.getElem?_eq_some_iff.1 nC).1).trans nC
  have oW := ownN_below oC hW
  have hWs := hW.size
  have hg1lt : g1 < wC.heap.size := (own_heap oC hv1).2.2
  -- the nodes in w2
  have node2 : ∀ i, i < k + 1 → w2.heap[P i]? = some (.cells #[.int .i64 i, .int .i64 (dn t (k + 1) i 0), upv P t i, RV i] 67 (0, 0)) := fun i hi =>
    grown_node hgrow (hlkW.node i hi).2 (hlkW.own_node hpk hi)
  have nQ2 : w2.heap[Q]? = _ := grown_node hgrow nW (fun e => by
    obtain ⟨⟨cs, hc⟩, _⟩ := own_heap (hlkW.own p hpk) e
    exact types_apart hc nW (by decide) rfl)
  have own2 : ∀ i, i < k + 1 → i ≠ p → w2.ownsRow B 92 2 (RV i) (nb t (k + 1) i).length (brv P (nb t (k + 1) i)) := fun i hi hne =>
    (hlkW.own i hi).kept hgrow (by
      rcases e : (RV i).ownBlock with _ | g
      · exact .inl rfl
      · right; intro e'
        exact hne (hlkW.dis i p g hi hpk e e'.symm))
  have o1 : w2.ownsRow B 92 2 v1 1 [ptr (P p), .int .i64 y] := oW.kept hgrow (.inr (by rw [hv1]; exact fun e => hg1 p hpk e.symm))
  -- the store
  have ne2 : ∀ {v : Value} {m : Nat} {xs : List Value}, w2.ownsRow B 92 2 v m xs → v.ownBlock ≠ some (P p) := fun h e => by
    obtain ⟨⟨cs, hc⟩, _⟩ := own_heap h e
    exact types_apart hc (node2 p hpk) (by decide) rfl
  have st : ∀ g, g ≠ P p → (w2.setCell ⟨P p, 3, none⟩ (.slice (some ⟨g2, 0, none⟩) l2 cap2)).heap[g]? = w2.heap[g]? := fun g hne => Below.heap_setCell w2 _ _ g hne
  have P'old : ∀ i, i < k + 1 → (if i = k + 1 then Q else P i) = P i := fun i hi => if_neg (by omega)
  have brv' : ∀ i, i < k + 1 → brv (fun i => if i = k + 1 then Q else P i) (nb t (k + 1) i) = brv P (nb t (k + 1) i) := fun i hi =>
    brv_congr fun x hx => P'old x.1 (nb_lt ht (k + 1) (by omega) i hi x.1 x.2 hx)
  constructor
  · intro i hi
    by_cases e : i = k + 1
    · subst e
      simp only [if_true]
      refine ⟨hB, ?_⟩
      rw [st Q (fun e => hQ p hpk e.symm), nQ2]
      simp only [upv]
      rw [if_neg (by omega), hp, if_neg (by omega)]
    · simp only [if_neg e]
      refine ⟨(hlk.node i (by omega)).1, ?_⟩
      have hup : upv (fun i => if i = k + 1 then Q else P i) t i = upv P t i := by
        unfold upv
        by_cases h0 : i = 0
        · rw [if_pos h0, if_pos h0]
        · have := (ht i (by omega) (by omega)).1
          rw [if_neg h0, if_neg h0]
          simp only
          rw [if_neg (by omega)]
      rw [hup, dn_old (by omega) (by omega)]
      by_cases ep : i = p
      · subst ep
        rw [if_pos rfl]
        exact heap_setCell_at (node2 i (by omega))
      · rw [if_neg ep, st _ (fun h => ep (hlk.inj i p (by omega) hpk h))]
        exact node2 i (by omega)
  · intro i j hi hj h
    by_cases e1 : i = k + 1 <;> by_cases e2 : j = k + 1
    · omega
    · rw [if_pos e1, if_neg e2] at h; exact absurd h.symm (hQ j (by omega))
    · rw [if_neg e1, if_pos e2] at h; exact absurd h (hQ i (by omega))
    · rw [if_neg e1, if_neg e2] at h; exact hlk.inj i j (by omega) (by omega) h
  · intro i hi
    by_cases e : i = k + 1
    · subst e
      simp only [if_true]
      rw [nb_new (by omega), hp, hy]
      simp only [brv]
      rw [if_neg (by omega)]
      exact ownsRow_setCell_other o1 (by rw [hv1]; intro e; injection e with e; exact ne2 o1 (by rw [hv1, e])) _
    · simp only [if_neg e]
      rw [nb_old (show i < k + 1 by omega), hp, hy, brv_append, brv' i (by omega)]
      by_cases ep : i = p
      · subst ep
        rw [if_pos rfl, if_pos rfl]
        simp only [brv, if_true, List.length_append, List.length_cons, List.length_nil, Nat.zero_add, ← hl2]
        exact ownsRow_setCell_other hown2 (ne2 hown2) _
      · rw [if_neg ep, if_neg (fun h => ep h.symm)]
        simp only [brv, List.append_nil]
        exact ownsRow_setCell_other (own2 i (by omega) ep) (ne2 (own2 i (by omega) ep)) _
  · intro i j g hi hj h h'
    have key : ∀ i, i < k + 1 → (if i = p then Value.slice (some ⟨g2, 0, none⟩) l2 cap2 else RV i).ownBlock ≠ some g1 := fun i hi h => by
      by_cases ep : i = p
      · rw [if_pos ep] at h
        have : g2 = g1 := by simpa [Value.ownBlock] using h
        subst this
        rcases hat with ha | ha
        · exact hg1 p hpk ha
        · omega
      · rw [if_neg ep] at h; exact hg1 i hi h
    have key2 : ∀ i j, i < k + 1 → j < k + 1 → i ≠ p → j = p → (RV i).ownBlock = some g → some g2 ≠ some g := fun i j hi hj hne hjp h e => by
      injection e with e
      subst e
      rcases hat with ha | ha
      · exact hne (hlk.dis i p _ hi hpk h ha)
      · have := hlkW.own_lt hi h; omega
    by_cases e1 : i = k + 1 <;> by_cases e2 : j = k + 1
    · omega
    · rw [if_pos e1, hv1] at h; rw [if_neg e2] at h'; cases h; exact absurd h' (key j (by omega))
    · rw [if_neg e1] at h; rw [if_pos e2, hv1] at h'; cases h'; exact absurd h (key i (by omega))
    · rw [if_neg e1] at h; rw [if_neg e2] at h'
      by_cases f1 : i = p <;> by_cases f2 : j = p
      · omega
      · rw [if_pos f1] at h; rw [if_neg f2] at h'
        exact absurd (by simpa [Value.ownBlock] using h) (fun e => key2 j i (by omega) (by omega) f2 f1 h' (by rw [e]))
      · rw [if_neg f1] at h; rw [if_pos f2] at h'
        exact absurd (by simpa [Value.ownBlock] using h') (fun e => key2 i j (by omega) (by omega) f1 f2 h (by rw [e]))
      · rw [if_neg f1] at h; rw [if_neg f2] at h'
        exact hlk.dis i j g (by omega) (by omega) h h'
/-- Behind the new node's own road. -/
theorem link_mid {wr wB w1 : World} {B Q g cap : Nat} {a b c : Value} {xs : List Value} {o : Obj} (h1 : Below wr.heap.size wr wB) (hQ : wr.heap.size ≤ Q) (hQB : Q < wB.heap.size)
    (n1 : w1.heap[Q]? = some (.cells #[a, b, c, .slice none 0 0] 67 (0, 0))) (hown : w1.ownsRow B 92 2 (.slice (some ⟨g, 0, none⟩) (0 + 1) cap) (0 + 1) ([] ++ xs))
    (hgrow : (wB.alloc o).drew.grownBy w1 (Value.slice none 0 0).ownBlock) (hat : (Value.slice none 0 0).ownBlock = some g ∨ g = (wB.alloc o).drew.heap.size) :
    Below wr.heap.size wr (w1.setCell ⟨Q, 3, none⟩ (.slice (some ⟨g, 0, none⟩) 1 cap)) ∧ (w1.setCell ⟨Q, 3, none⟩ (.slice (some ⟨g, 0, none⟩) 1 cap)).heap[Q]? = some (.cells #[a, b, c, .slice (some ⟨g, 0, none⟩) 1 cap] 67 (0, 0)) ∧
    (w1.setCell ⟨Q, 3, none⟩ (.slice (some ⟨g, 0, none⟩) 1 cap)).ownsRow B 92 2 (.slice (some ⟨g, 0, none⟩) 1 cap) 1 xs ∧ wB.heap.size ≤ g ∧
    (∀ q, q < wB.heap.size → q ≠ Q → (w1.setCell ⟨Q, 3, none⟩ (.slice (some ⟨g, 0, none⟩) 1 cap)).heap[q]? = wB.heap[q]?) := by
  have hg : wB.heap.size ≤ g := by
    rcases hat with h | h
    · simp [Value.ownBlock] at h
    · have : (wB.alloc o).drew.heap.size = wB.heap.size + 1 := size_alloc1 wB o
      omega
  have hgr : Below wB.heap.size wB w1 := ((((Below.refl wB.heap.size wB).alloc (Nat.le_refl _) o)).drew).grown hgrow (by show wB.heap.size ≤ (wB.alloc o).heap.size; rw [size_alloc1]; omega) (fun k h => by simp [Value.ownBlock] at h)
  refine ⟨(h1.trans (hgr.mono h1.size)).setCell hQ _, heap_setCell_at n1, ?_, hg, fun q hq hne => ?_⟩
  · exact ownsRow_setCell_other hown (by simp [Value.ownBlock]; omega) _
  · rw [Below.heap_setCell w1 _ _ q hne]
    exact hgr.block q hq
theorem ptrs_congr {P P' : Nat → Nat} {n : Nat} (h : ∀ i, i < n → P i = P' i) : ptrs P n = ptrs P' n := by
  unfold ptrs
  exact List.map_congr_left fun i hi => by rw [h i (List.mem_range.1 hi)]
theorem ptrs_step (P : Nat → Nat) (n : Nat) : ptrs P (n + 1) = ptrs P n ++ [ptr (P n)] := by
  unfold ptrs; rw [List.range_succ, List.map_append]; rfl
/-- The list of the nodes is not touched by a road's being laid. -/
theorem link_nodes {wC W w2 : World} {B n p gn cA g2 l2 cap2 m : Nat} {P : Nat → Nat} {RV : Nat → Value} {t : List (Int × Int)} {xs : List Value} (hlk : LkN wC B n P RV t) (hp : p < n)
    (hn : wC.ownsRow B 62 1 (.slice (some ⟨gn, 0, none⟩) m cA) m xs) (hW : Below wC.heap.size wC W) (hgrow : W.grownBy w2 (RV p).ownBlock) :
    (w2.setCell ⟨P p, 3, none⟩ (.slice (some ⟨g2, 0, none⟩) l2 cap2)).ownsRow B 62 1 (.slice (some ⟨gn, 0, none⟩) m cA) m xs := by
  obtain ⟨⟨cs, hc⟩, _⟩ := own_heap hn (g := gn) rfl
  refine ownsRow_setCell_other ((ownN_below hn hW).kept hgrow (.inr fun e => ?_)) (fun e => ?_) _
  · obtain ⟨⟨cs', hc'⟩, _⟩ := own_heap (hlk.own p hp) e.symm
    exact types_apart hc hc' (by decide) rfl
  · injection e with e
    exact types_apart hc (hlk.node p hp).2 (by decide) e
theorem link_below {w wC W w2 : World} {p : Nat} {P : Nat → Nat} {RV : Nat → Value} {t : List (Int × Int)} {n : Nat} {v : Value} (hlk : LkN wC w.heap.size n P RV t) (hp : p < n)
    (h1 : Below w.heap.size w wC) (hW : Below wC.heap.size wC W) (hgrow : W.grownBy w2 (RV p).ownBlock) : Below w.heap.size w (w2.setCell ⟨P p, 3, none⟩ v) :=
  ((h1.trans (hW.mono h1.size)).grown hgrow (Nat.le_trans h1.size hW.size) fun k h => (own_heap (hlk.own p hp) h).2.1).setCell (hlk.node p hp).1 _
/-- What is appended to the list of the nodes leaves them. -/
theorem link_list {wD w3 : World} {B n gn cA m : Nat} {P : Nat → Nat} {RV : Nat → Value} {t : List (Int × Int)} {xs : List Value} {o : Obj} (hlk : LkN wD B n P RV t)
    (hn : wD.ownsRow B 62 1 (.slice (some ⟨gn, 0, none⟩) m cA) m xs) (hgrow : (wD.alloc o).grownBy w3 (Value.slice (some ⟨gn, 0, none⟩) m cA).ownBlock) : LkN w3 B n P RV t := by
  obtain ⟨⟨cs, hc⟩, _⟩ := own_heap hn (g := gn) rfl
  refine (hlk.below ((Below.refl _ _).alloc (Nat.le_refl _) o)).kept hgrow fun g e _ => ?_
  have e' : gn = g := by simpa [Value.ownBlock] using e
  subst e'
  exact ⟨cs, _, _, (heap_alloc_old wD o (Array.getElem?_eq_some_iff.1 hc).1).trans hc, by decide, by decide⟩
def fromA (P : Nat → Nat) : Option Nat → Option Addr
  | none => none
  | some f => some ⟨P f, 0, none⟩
theorem eq_same (w : World) (a : Addr) : ∀ d : Nat, (Op.equalIn (d + 1) 62 (.pointer (some a)) (.pointer (some a))).run Try.prog w = .ok true w := by
  obtain ⟨j, hj, _, hsz, _⟩ := info_parts (show (Try.prog.info? 67).map (fun i => (i.zero, i.size, i.bytes)) = some (some (.agg #[.int .i64 0, .int .i64 0, .pointer none, .slice none 0 0]), 4, 48) by kernel_rfl)
  intro d
  simp [Op.equalIn, run_underlying Try.underlying62, sizeOf, typeInfo, hj, run_sameAddr_same]
theorem neq_same (w : World) (a : Addr) : (binOp .neq 62 (.pointer (some a)) (.pointer (some a))).run Try.prog w = .ok (.bool false) w := by
  simp only [binOp]
  simp [Op.equal, Op.maxDepth, eq_same w a 9999]
theorem neq_other {w : World} {a b : Addr} {ca cb : Array Value} {ta tb : TypeId} (hne : a ≠ b) (ha : w.heap[a.block]? = some (.cells ca ta (0, 0))) (hb : w.heap[b.block]? = some (.cells cb tb (0, 0))) :
    (binOp .neq 62 (.pointer (some a)) (.pointer (some b))).run Try.prog w = .ok (.bool true) w := by
  obtain ⟨j, hj, _, hsz, _⟩ := info_parts (show (Try.prog.info? 67).map (fun i => (i.zero, i.size, i.bytes)) = some (some (.agg #[.int .i64 0, .int .i64 0, .pointer none, .slice none 0 0]), 4, 48) by kernel_rfl)
  have h : ∀ d : Nat, (Op.equalIn (d + 1) 62 (.pointer (some a)) (.pointer (some b))).run Try.prog w = .ok false w := fun d => by
    simp [Op.equalIn, run_underlying Try.underlying62, sizeOf, typeInfo, hj, hsz, run_sameAddr_other w hne ha hb]
  simp only [binOp]
  simp [Op.equal, Op.maxDepth, h 9999]
theorem neq_from {w : World} {B n b : Nat} {P : Nat → Nat} {RV : Nat → Value} {t : List (Int × Int)} {f : Option Nat} (hlk : LkN w B n P RV t) (hb : b < n) (hf : ∀ g, f = some g → g < n) (hne : f ≠ some b) :
    (binOp .neq 62 (.pointer (some ⟨P b, 0, none⟩)) (.pointer (fromA P f))).run Try.prog w = .ok (.bool true) w := by
  cases f with
  | none =>
    show (binOp .neq 62 (.pointer (some ⟨P b, 0, none⟩)) (.pointer none)).run Try.prog w = _
    rw [run_neq_pointer_nil w _ _ (by kernel_rfl)]; rfl
  | some g =>
    exact neq_other (a := ⟨P b, 0, none⟩) (b := ⟨P g, 0, none⟩) (fun e => hne (by injection e with e; rw [hlk.inj g b (hf g rfl) hb e.symm])) (hlk.node b hb).2 (hlk.node g (hf g rfl)).2
end Go.Proofs.Ytoappopbjnlbdab
