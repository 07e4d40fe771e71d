/-
  Rows in memory: words for slices that a call owns, and for tables of rows.
  Conditions: none beyond what each theorem states.
  Words for slices of streets: three cells an element, From, To and Long; what a valid net is.
  Conditions: none beyond what each theorem states.
  Slices of streets in the exact laws: how many there may be, their copy, their comparison.
  Conditions: the slice is shorter than 2^20 elements.
  Shortest ways: a table that no street shortens, each entry of which is the length of some way, is the only one; trees have one.
  Conditions: as each theorem states.
  Nets: the table of shortest ways by streets; making it shorter street by street comes to an end.
  Conditions: as each theorem states.
-/
import Derived.Test.YtkgomgfhhhdnjabZ0
import Derived.Deep.AppendLies
import Derived.Deep.RegionWith
namespace Go.Proofs.Ytkgomgfhhhdnjab
open Go.ChangeShapes Go.WideShapes Go.ChangeAt Go.RowKit
set_option linter.unusedVariables false
set_option maxRecDepth 4000

theorem belowd {a w : World} (h : Below a.drew.heap.size a.drew w) : Below a.heap.size a w := ⟨h.os, h.tape, h.output, h.size, h.block⟩

/-- The first k numbers are there, then zeros. -/
def fillL (zs : List Int) (k : Nat) : List Value := (zs.take k).map (Value.int .i64) ++ List.replicate (zs.length - k) (Value.int .i64 0)
theorem fill_step {w : World} {B b n cap sz k : Nat} {t : TypeId} {zs : List Int} (hk : k < zs.length)
    (hown : w.ownsRow B t sz (.slice (some ⟨b, 0, none⟩) n cap) n (fillL zs k)) :
    (w.setCell ⟨b, k, none⟩ (Value.int .i64 (zs.getD k 0))).ownsRow B t sz (.slice (some ⟨b, 0, none⟩) n cap) n (fillL zs (k + 1)) := by
  have h := hown.stored k (Value.int .i64 (zs.getD k 0))
  have e : (fillL zs k).set k (Value.int .i64 (zs.getD k 0)) = fillL zs (k + 1) := by
    unfold fillL
    have hl : ((zs.take k).map (Value.int .i64)).length = k := by simp; omega
    rw [List.set_append_right _ _ (by omega), hl, Nat.sub_self]
    have hr : List.replicate (zs.length - k) (Value.int .i64 0) = Value.int .i64 0 :: List.replicate (zs.length - (k + 1)) (Value.int .i64 0) := by
      rw [show zs.length - k = (zs.length - (k + 1)) + 1 by omega]; rfl
    rw [hr, List.set_cons_zero, List.take_succ_eq_append_getElem (by omega), List.map_append]
    have hg : zs.getD k 0 = zs[k]'(by omega) := by simp [List.getD, List.getElem?_eq_getElem (show k < zs.length by omega)]
    rw [hg]; simp
  rw [e] at h
  exact h.1
theorem fillL_len (zs : List Int) {k : Nat} (hk : k ≤ zs.length) : (fillL zs k).length = zs.length := by unfold fillL; simp; omega
theorem fillL_all (zs : List Int) {k : Nat} (hk : zs.length ≤ k) : fillL zs k = zs.map (Value.int .i64) := by
  unfold fillL
  rw [List.take_of_length_le hk, show zs.length - k = 0 by omega]; simp
theorem rdI_of_ownN {w : World} {B b n cap sz : Nat} {t : TypeId} {zs : List Int} (h : w.ownsRow B t sz (.slice (some ⟨b, 0, none⟩) n cap) n (zs.map (Value.int .i64))) (hn : zs.length = n * sz) : RdI w w.heap.size (some ⟨b, 0, none⟩) zs := fun _ =>
  ⟨b, 0, rfl, (h.lt b rfl).2, fun i hi => by
    rw [Nat.zero_add, h.cellAt i (by omega)]
    simp [List.getElem?_eq_getElem hi]⟩
theorem ownN_below {w w' : World} {B s n : Nat} {e : TypeId} {v : Value} {xs : List Value} (h : w.ownsRow B e s v n xs) (hb : Below w.heap.size w w') : w'.ownsRow B e s v n xs := by
  refine ⟨h.1, ?_⟩
  rcases h.2 with h0 | ⟨g, cap, cur, h1, h2, hg, h3⟩
  · exact .inl h0
  · exact .inr ⟨g, cap, cur, h1, h2, (hb.block g (Array.getElem?_eq_some_iff.1 hg).1).trans hg, h3⟩
theorem own_sliceN {w : World} {B n sz : Nat} {t : TypeId} {v : Value} {xs : List Value} (h : w.ownsRow B t sz v n xs) : ∃ A c, v = .slice A n c ∧ n ≤ c ∧ c ≤ 9223372036854775807 ∧ (0 < n → ∃ g, A = some ⟨g, 0, none⟩ ∧ B ≤ g ∧ g < w.heap.size) := by
  have h0 := h
  rcases h.2 with ⟨rfl, rfl⟩ | ⟨g, cap, cur, rfl, _, _, hnc, hmx, _⟩
  · exact ⟨none, 0, rfl, Nat.le_refl _, by omega, fun hp => by omega⟩
  · exact ⟨_, cap, rfl, hnc, hmx, fun _ => ⟨g, rfl, h0.lt g rfl⟩⟩
theorem addr_add0 {b k : Nat} : (⟨b, 0, none⟩ : Addr).add k = ⟨b, k, none⟩ := by unfold Addr.add; split <;> simp_all
theorem own_cell {w : World} {B b n cap sz : Nat} {t : TypeId} {xs : List Value} (h : w.ownsRow B t sz (.slice (some ⟨b, 0, none⟩) n cap) n xs) {j : Nat} (hj : j < n * sz) (hl : xs.length = n * sz) : ∃ v, w.cell? ⟨b, j, none⟩ = some v := by
  rw [h.cellAt j hj]
  exact ⟨_, List.getElem?_eq_getElem (by omega)⟩
theorem gb_trans {R : Nat} {a b c : World} {row : Option Nat} (h : a.grownBy b (some R)) (k : b.grownBy c row) (hr : row = some R ∨ ∀ g, row = some g → a.heap.size ≤ g) : a.grownBy c (some R) :=
  ⟨k.os.trans h.os, k.tape.trans h.tape, k.output.trans h.output, Nat.le_trans h.size k.size, fun i hi hne => (k.block i (Nat.lt_of_lt_of_le hi h.size) (by
    rcases hr with hr | hr
    · rw [hr]; exact hne
    · intro e; have := hr i e.symm; omega)).trans (h.block i hi hne)⟩
theorem gb_below {R B : Nat} {a b : World} (h : a.grownBy b (some R)) (hB : B ≤ R) (hR : R ≤ a.heap.size) : Below B a b :=
  ⟨h.os, h.tape, h.output, h.size, fun i hi => h.block i (by omega) (by intro e; injection e with e; omega)⟩
theorem size_alloc1 (w : World) (o : Obj) : (w.alloc o).heap.size = w.heap.size + 1 := by show (w.heap.push o).size = _; simp
theorem grown_node {W w1 : World} {row : Option Nat} {Q : Nat} {o : Obj} (hg : W.grownBy w1 row) (hh : W.heap[Q]? = some o) (hne : row ≠ some Q) : w1.heap[Q]? = some o :=
  (hg.block Q (Array.getElem?_eq_some_iff.1 hh).1 (fun e => hne e.symm)).trans hh
theorem frozen_of_row (w : World) (g j : Nat) (cs : Array Value) (t : TypeId) (hh : w.heap[g]? = some (.cells cs t (0, 0))) : w.frozen? ⟨g, j, none⟩ = false := by simp [World.frozen?, hh]
theorem own_heap {w : World} {B s n : Nat} {e : TypeId} {v : Value} {xs : List Value} (h : w.ownsRow B e s v n xs) {g : Nat} (hg : v.ownBlock = some g) : (∃ cs, w.heap[g]? = some (.cells cs e (0, 0))) ∧ B ≤ g ∧ g < w.heap.size := by
  have hl := h.lt g hg
  rcases h.2 with ⟨rfl, _⟩ | ⟨g', cap, cur, rfl, h2, hb, h3⟩
  · simp [Value.ownBlock] at hg
  · have e : g' = g := by simpa [Value.ownBlock] using hg
    subst e
    exact ⟨⟨cur, hb⟩, hl⟩
theorem types_apart {w : World} {g g' : Nat} {cs cs' : Array Value} {ty ty' : TypeId} {fz fz' : Nat × Nat} (h : w.heap[g]? = some (.cells cs ty fz)) (h' : w.heap[g']? = some (.cells cs' ty' fz')) (hne : ty ≠ ty') : g ≠ g' := by
  rintro rfl
  rw [h] at h'
  injection h' with h'
  injection h' with _ e _
  exact hne e
theorem grown_refl (w : World) (row : Option Nat) : w.grownBy w row := ⟨rfl, rfl, rfl, Nat.le_refl _, fun _ _ _ => rfl⟩
theorem grown_trans {R : Nat} {a b c : World} (h : a.grownBy b (some R)) (k : b.grownBy c (some R)) : a.grownBy c (some R) := gb_trans h k (.inl rfl)
theorem own_blockN {w : World} {B b n : Nat} {t : TypeId} {xs : List Value} (h : w.ownsRow B t 1 (.slice (some ⟨b, 0, none⟩) n n) n xs) : w.heap[b]? = some (.cells xs.toArray t (0, 0)) := by
  rcases h.2 with ⟨h', _⟩ | ⟨g, cap, cur, h', _, hb, _, _, hs, ht⟩
  · simp at h'
  · injection h' with h1 h2 h3
    injection h1 with h1
    injection h1 with h1
    subst h1 h3
    rw [hb]
    congr 2
    rw [← ht]
    rw [List.take_of_length_le (by rw [Array.length_toList, hs]; omega)]
def upd {α : Type} (f : Nat → α) (r : Nat) (v : α) : Nat → α := fun i => if i = r then v else f i
theorem upd_at {α : Type} (f : Nat → α) (r : Nat) (v : α) : upd f r v r = v := if_pos rfl
theorem upd_other {α : Type} (f : Nat → α) {r i : Nat} (v : α) (h : i ≠ r) : upd f r v i = f i := if_neg h
/-- Rows of ints, each in a block of its own, from block B on. -/
structure TT (w : World) (B m : Nat) (VR : Nat → Value) (ls : Nat → List Int) : Prop where
  own : ∀ j, j < m → w.ownsRow B 3 1 (VR j) (ls j).length ((ls j).map (Value.int .i64))
  dis : ∀ i j g, i < m → j < m → (VR i).ownBlock = some g → (VR j).ownBlock = some g → i = j
theorem TT.below {w w' : World} {B m : Nat} {VR : Nat → Value} {ls : Nat → List Int} (h : TT w B m VR ls) (hb : Below w.heap.size w w') : TT w' B m VR ls :=
  ⟨fun j hj => ownN_below (h.own j hj) hb, h.dis⟩
theorem TT.congr {w : World} {B m : Nat} {VR : Nat → Value} {ls ls' : Nat → List Int} (h : TT w B m VR ls) (he : ∀ j, j < m → ls j = ls' j) : TT w B m VR ls' :=
  ⟨fun j hj => by rw [← he j hj]; exact h.own j hj, h.dis⟩
theorem TT.append {w W w2 : World} {B m r g2 l2 c2 : Nat} {d : Int} {VR : Nat → Value} {ls : Nat → List Int} (h : TT w B m VR ls) (hr : r < m) (hW : Below w.heap.size w W) (hg : W.grownBy w2 (VR r).ownBlock)
    (hown : w2.ownsRow B 3 1 (.slice (some ⟨g2, 0, none⟩) l2 c2) l2 ((ls r).map (Value.int .i64) ++ [Value.int .i64 d])) (hl2 : l2 = (ls r).length + 1) (hat : (VR r).ownBlock = some g2 ∨ g2 = W.heap.size) :
    TT w2 B m (upd VR r (.slice (some ⟨g2, 0, none⟩) l2 c2)) (upd ls r (ls r ++ [d])) := by
  have hTW := h.below hW
  have hlt : ∀ {i g}, i < m → (VR i).ownBlock = some g → g < w.heap.size := fun hi e => (own_heap (h.own _ hi) e).2.2
  constructor
  · intro j hj
    by_cases e : j = r
    · subst e
      rw [upd_at, upd_at]
      simp only [List.length_append, List.length_cons, List.length_nil, Nat.zero_add, ← hl2, List.map_append, List.map_cons, List.map_nil]
      exact hown
    · rw [upd_other _ _ e, upd_other _ _ e]
      exact (hTW.own j hj).kept hg (by
        rcases e' : (VR j).ownBlock with _ | g
        · exact .inl rfl
        · right; intro e2; exact e (h.dis j r g hj hr e' e2.symm))
  · intro i j g hi hj h1 h2
    have hs := hW.size
    by_cases e1 : i = r <;> by_cases e2 : j = r
    · omega
    · subst e1
      rw [upd_at] at h1; rw [upd_other _ _ e2] at h2
      have : g2 = g := by simpa [Value.ownBlock] using h1
      subst this
      rcases hat with ha | ha
      · exact h.dis i j _ hr hj ha h2
      · have := hlt hj h2; omega
    · subst e2
      rw [upd_at] at h2; rw [upd_other _ _ e1] at h1
      have : g2 = g := by simpa [Value.ownBlock] using h2
      subst this
      rcases hat with ha | ha
      · exact h.dis i j _ hi hr h1 ha
      · have := hlt hi h1; omega
    · rw [upd_other _ _ e1] at h1; rw [upd_other _ _ e2] at h2
      exact h.dis i j g hi hj h1 h2
theorem TT.store {w : World} {B m g k : Nat} {VR : Nat → Value} {ls : Nat → List Int} {v : Value} {cs : Array Value} {ty : TypeId} (h : TT w B m VR ls) (hc : w.heap[g]? = some (.cells cs ty (0, 0))) (hne : ty ≠ 3) : TT (w.setCell ⟨g, k, none⟩ v) B m VR ls :=
  ⟨fun j hj => ownsRow_setCell_other (h.own j hj) (fun e => by
    obtain ⟨⟨cs', hc'⟩, _⟩ := own_heap (h.own j hj) e
    exact types_apart hc hc' hne rfl) _, h.dis⟩
theorem TT.add {w : World} {B m : Nat} {VR : Nat → Value} {ls : Nat → List Int} (h : TT w B m VR ls) (hB : B ≤ w.heap.size) : TT (w.alloc (.cells #[] 3)) B (m + 1) (upd VR m (.slice (some ⟨w.heap.size, 0, none⟩) 0 0)) (upd ls m []) := by
  have hb := (Below.refl w.heap.size w).alloc (Nat.le_refl _) (.cells #[] 3)
  constructor
  · intro j hj
    by_cases e : j = m
    · subst e
      rw [upd_at, upd_at]
      exact World.ownsRow_lit w #[] 0 hB (by decide) rfl
    · rw [upd_other _ _ e, upd_other _ _ e]
      exact ownN_below (h.own j (by omega)) hb
  · intro i j g hi hj h1 h2
    by_cases e1 : i = m <;> by_cases e2 : j = m
    · omega
    · rw [e1, upd_at] at h1; rw [upd_other _ _ e2] at h2
      have : w.heap.size = g := by simpa [Value.ownBlock] using h1
      have := (own_heap (h.own j (by omega)) h2).2.2; omega
    · rw [e2, upd_at] at h2; rw [upd_other _ _ e1] at h1
      have : w.heap.size = g := by simpa [Value.ownBlock] using h2
      have := (own_heap (h.own i (by omega)) h1).2.2; omega
    · rw [upd_other _ _ e1] at h1; rw [upd_other _ _ e2] at h2
      exact h.dis i j g (by omega) (by omega) h1 h2
/-- The rows' outer slice. -/
def Outer (w : World) (B n : Nat) (v : Value) (VR : Nat → Value) : Prop := w.ownsRow B 33 1 v n ((List.range n).map VR)
theorem Outer.kept {w W w2 : World} {B n m r : Nat} {v : Value} {VR VR' : Nat → Value} {ls : Nat → List Int} (h : Outer w B n v VR) (ht : TT w B m VR' ls) (hr : r < m) (hW : Below w.heap.size w W) (hg : W.grownBy w2 (VR' r).ownBlock) : Outer w2 B n v VR :=
  (ownN_below h hW).kept hg (by
    rcases e : v.ownBlock with _ | g
    · exact .inl rfl
    · right
      intro e2
      obtain ⟨⟨cs, hc⟩, _⟩ := own_heap h e
      obtain ⟨⟨cs', hc'⟩, _⟩ := own_heap (ht.own r hr) e2.symm
      exact types_apart hc hc' (by decide) rfl)
theorem Outer.congr {w : World} {B n : Nat} {v : Value} {VR VR' : Nat → Value} (h : Outer w B n v VR) (he : ∀ j, j < n → VR j = VR' j) : Outer w B n v VR' := by
  unfold Outer at h ⊢
  rw [← List.map_congr_left (f := VR) fun i hi => he i (List.mem_range.1 hi)]; exact h
theorem Outer.cell {w : World} {B n g c : Nat} {VR : Nat → Value} (h : Outer w B n (.slice (some ⟨g, 0, none⟩) n c) VR) {j : Nat} (hj : j < n) : w.cell? ⟨g, j, none⟩ = some (VR j) := by
  rw [World.ownsRow.cellAt h j (by omega)]
  simp [hj]
theorem Outer.stored {w : World} {B n g c k : Nat} {VR : Nat → Value} {v : Value} (h : Outer w B n (.slice (some ⟨g, 0, none⟩) n c) VR) (hk : k < n) : Outer (w.setCell ⟨g, k, none⟩ v) B n (.slice (some ⟨g, 0, none⟩) n c) (upd VR k v) := by
  have h1 := (World.ownsRow.stored h k v).1
  unfold Outer
  have e : ((List.range n).map VR).set k v = (List.range n).map (upd VR k v) := by
    apply List.ext_getElem?
    intro i
    rw [List.getElem?_set]
    by_cases hi : i < n
    · by_cases e : k = i
      · subst e; simp [hi, upd_at]
      · simp [hi, e, upd_other VR v (fun h => e h.symm)]
    · simp [hi]; omega
  rw [← e]; exact h1
theorem TT.drewN {w : World} {B m : Nat} {VR : Nat → Value} {ls : Nat → List Int} (h : TT w B m VR ls) (q : Nat) : TT (w.drewN q) B m VR ls := ⟨fun j hj => h.own j hj, h.dis⟩
theorem Outer.drewN {w : World} {B n : Nat} {v : Value} {VR : Nat → Value} (h : Outer w B n v VR) (q : Nat) : Outer (w.drewN q) B n v VR := h
/-- A row's cells. -/
theorem TT.cells {w : World} {B m : Nat} {VR : Nat → Value} {ls : Nat → List Int} (h : TT w B m VR ls) {j k : Nat} (hj : j < m) (hk : k < (ls j).length) :
    ∃ g c, VR j = .slice (some ⟨g, 0, none⟩) (ls j).length c ∧ w.cell? ⟨g, k, none⟩ = some (.int .i64 ((ls j).getD k 0)) := by
  obtain ⟨A, c, e, _, _, h3⟩ := own_sliceN (h.own j hj)
  obtain ⟨g, rfl, _⟩ := h3 (by omega)
  have h1 := h.own j hj
  rw [e] at h1
  refine ⟨g, c, e, ?_⟩
  rw [h1.cellAt k (by omega)]
  simp [List.getElem?_eq_getElem hk]
theorem TT.keptBy {w w' : World} {B m : Nat} {VR : Nat → Value} {ls : Nat → List Int} {row : Option Nat} (h : TT w B m VR ls) (hg : w.grownBy w' row) (hr : ∀ g, row = some g → ∃ cs ty, w.heap[g]? = some (.cells cs ty (0, 0)) ∧ ty ≠ 3) : TT w' B m VR ls :=
  ⟨fun j hj => (h.own j hj).kept hg (by
    rcases e : (VR j).ownBlock with _ | g
    · exact .inl rfl
    · right
      intro e'
      obtain ⟨cs, ty, hc, hne⟩ := hr g e'.symm
      obtain ⟨⟨cs', hc'⟩, _⟩ := own_heap (h.own j hj) e
      exact types_apart hc hc' hne rfl), h.dis⟩
theorem slInfo2 : (Try.prog.info? 33).map (fun i => (i.zero, i.size, i.bytes)) = some (some (.slice none 0 0), 1, 24) := by kernel_rfl
theorem Outer.below {w w' : World} {B n : Nat} {v : Value} {VR : Nat → Value} (h : Outer w B n v VR) (hb : Below w.heap.size w w') : Outer w' B n v VR := ownN_below h hb
theorem Outer.keptRow {w w' : World} {B n b : Nat} {v : Value} {VR : Nat → Value} {cs : Array Value} {ty : TypeId} (h : Outer w B n v VR) (hg : w.grownBy w' (some b)) (hc : w.heap[b]? = some (.cells cs ty (0, 0))) (hne : ty ≠ 33) : Outer w' B n v VR :=
  World.ownsRow.kept h hg (by
    rcases e : v.ownBlock with _ | g
    · exact .inl rfl
    · right
      intro e2
      injection e2 with e2
      subst e2
      obtain ⟨⟨cs', hc'⟩, _⟩ := own_heap h e
      exact types_apart hc hc' hne rfl)
/-- A row of a table, as it is read. -/
theorem TT.row {w : World} {B m : Nat} {VR : Nat → Value} {ls : Nat → List Int} (h : TT w B m VR ls) {j : Nat} (hj : j < m) : ∃ A c, VR j = .slice A (ls j).length c ∧ RdI w w.heap.size A (ls j) := by
  have h1 := h.own j hj
  obtain ⟨A, c, e, _, _, h3⟩ := own_sliceN h1
  refine ⟨A, c, e, fun hp => ?_⟩
  obtain ⟨g, rfl, _, _⟩ := h3 hp
  rw [e] at h1
  exact rdI_of_own h1 rfl hp
end Go.Proofs.Ytkgomgfhhhdnjab
namespace Go.Proofs.Ytkgomgfhhhdnjab
open Go.ChangeShapes Go.WideShapes Go.ChangeAt Go.RowKit
set_option linter.unusedVariables false

abbrev Str := Int × Int × Int
abbrev str0 : Str := (0, 0, 0)
/-- The streets as the cells hold them. -/
def flat3 : List Str → List Int
  | [] => []
  | p :: r => p.1 :: p.2.1 :: p.2.2 :: flat3 r
theorem flat3_len : ∀ ss, (flat3 ss).length = ss.length * 3
  | [] => rfl
  | p :: r => by simp only [flat3, List.length_cons, flat3_len r]; omega
theorem flat3_0 : ∀ (ss : List Str) k, k < ss.length → (flat3 ss).getD (k * 3) 0 = (ss.getD k str0).1
  | [], k, h => by simp at h
  | p :: r, 0, h => rfl
  | p :: r, k + 1, h => by
    rw [show (k + 1) * 3 = k * 3 + 1 + 1 + 1 by omega]
    simp only [flat3, List.getD_cons_succ]
    exact flat3_0 r k (by simpa using h)
theorem flat3_1 : ∀ (ss : List Str) k, k < ss.length → (flat3 ss).getD (k * 3 + 1) 0 = (ss.getD k str0).2.1
  | [], k, h => by simp at h
  | p :: r, 0, h => rfl
  | p :: r, k + 1, h => by
    rw [show (k + 1) * 3 + 1 = k * 3 + 1 + 1 + 1 + 1 by omega]
    simp only [flat3, List.getD_cons_succ]
    exact flat3_1 r k (by simpa using h)
theorem flat3_2 : ∀ (ss : List Str) k, k < ss.length → (flat3 ss).getD (k * 3 + 2) 0 = (ss.getD k str0).2.2
  | [], k, h => by simp at h
  | p :: r, 0, h => rfl
  | p :: r, k + 1, h => by
    rw [show (k + 1) * 3 + 2 = k * 3 + 2 + 1 + 1 + 1 by omega]
    simp only [flat3, List.getD_cons_succ]
    exact flat3_2 r k (by simpa using h)
theorem flat3_append : ∀ a b, flat3 (a ++ b) = flat3 a ++ flat3 b
  | [], b => rfl
  | p :: r, b => by simp [flat3, flat3_append r b]
theorem flat3_take : ∀ (ss : List Str) k, flat3 (ss.take k) = (flat3 ss).take (k * 3)
  | [], k => by simp [flat3]
  | p :: r, 0 => by simp [flat3]
  | p :: r, k + 1 => by
    rw [show (k + 1) * 3 = k * 3 + 1 + 1 + 1 by omega]
    simp [flat3, flat3_take r k]
/-- The slice with address A reads as the streets ss, below block B. -/
def RdS (w : World) (B : Nat) (A : Option Addr) (ss : List Str) : Prop := RdI w B A (flat3 ss)
theorem RdS.x {w : World} {B : Nat} {A : Option Addr} {ss : List Str} (h : RdS w B A ss) {k : Nat} (hk : k < ss.length) :
    ∃ b off x y z, A = some ⟨b, off, none⟩ ∧ b < B ∧ Hid (ss.getD k str0 = (x, y, z)) ∧ w.cell? ⟨b, off + k * 3, none⟩ = some (.int .i64 x) ∧ w.cell? ⟨b, off + k * 3 + 1, none⟩ = some (.int .i64 y) ∧ w.cell? ⟨b, off + k * 3 + 2, none⟩ = some (.int .i64 z) := by
  have hl := flat3_len ss
  obtain ⟨b, off, e, hb, hc⟩ := h (by omega)
  refine ⟨b, off, (ss.getD k str0).1, (ss.getD k str0).2.1, (ss.getD k str0).2.2, e, hb, rfl, ?_, ?_, ?_⟩
  · rw [hc _ (by omega), flat3_0 _ _ hk]
  · rw [Nat.add_assoc, hc _ (by omega), flat3_1 _ _ hk]
  · rw [Nat.add_assoc, hc _ (by omega), flat3_2 _ _ hk]
theorem RdS.keep {w w' : World} {B : Nat} {A : Option Addr} {ss : List Str} (h : RdS w B A ss) (hk : ∀ p : Addr, p.block < B → w'.cell? p = w.cell? p) : RdS w' B A ss := RdI.keep h hk
theorem RdS.below {w w' : World} {B : Nat} {A : Option Addr} {ss : List Str} (h : RdS w B A ss) (hb : Below B w w') : RdS w' B A ss := RdI.below h hb
theorem RdS.more {w : World} {B B' : Nat} {A : Option Addr} {ss : List Str} (h : RdS w B A ss) (hB : B ≤ B') : RdS w B' A ss := RdI.more h hB
theorem RdS.drewN {w : World} {B : Nat} {A : Option Addr} {ss : List Str} (h : RdS w B A ss) (n : Nat) : RdS (w.drewN n) B A ss := h
theorem RdS.nil (w : World) (B : Nat) (A : Option Addr) : RdS w B A [] := RdI.nil w B A
theorem RdS.take {w : World} {B : Nat} {A : Option Addr} {ss : List Str} (h : RdS w B A ss) (k : Nat) : RdS w B A (ss.take k) := by
  intro hp
  rw [flat3_take] at hp ⊢
  rw [List.length_take] at hp
  obtain ⟨b, off, e, hb, hc⟩ := h (by omega)
  refine ⟨b, off, e, hb, fun i hi => ?_⟩
  rw [List.length_take] at hi
  rw [hc i (by omega)]
  congr 2
  simp only [List.getD, List.getElem?_take]
  rw [if_pos (by omega)]

/-- One street of a net of n nodes. -/
def OkS (n : Int) (p : Str) : Prop := (0 ≤ p.1 ∧ p.1 < n) ∧ (0 ≤ p.2.1 ∧ p.2.1 < n) ∧ 1 ≤ p.2.2 ∧ p.2.2 ≤ 9
instance (n : Int) (p : Str) : Decidable (OkS n p) := by unfold OkS; infer_instance
/-- ValidNet. -/
def vnet (n : Int) (ss : List Str) : Bool := decide ((1 ≤ n ∧ n ≤ 7) ∧ ss.length ≤ 12 ∧ ∀ p ∈ ss, OkS n p)
theorem vnet_iff (n : Int) (ss : List Str) : vnet n ss = true ↔ (1 ≤ n ∧ n ≤ 7) ∧ ss.length ≤ 12 ∧ ∀ p ∈ ss, OkS n p := by unfold vnet; rw [decide_eq_true_iff]
theorem getD_mem3 {ss : List Str} {k : Nat} (hk : k < ss.length) : ss.getD k str0 ∈ ss := by
  rw [List.getD_eq_getElem?_getD, List.getElem?_eq_getElem hk]
  exact List.getElem_mem hk
theorem mem_getD3 {ss : List Str} {p : Str} (h : p ∈ ss) : ∃ k, k < ss.length ∧ ss.getD k str0 = p := by
  obtain ⟨k, hk, e⟩ := List.getElem_of_mem h
  exact ⟨k, hk, by rw [List.getD_eq_getElem?_getD, List.getElem?_eq_getElem hk, ← e]; rfl⟩
theorem vnet_no_n {n : Int} {ss : List Str} (h : n < 1 ∨ 7 < n) : vnet n ss = false := by
  rw [Bool.eq_false_iff]; intro h'
  have := (vnet_iff n ss).1 h'
  omega
theorem vnet_no_len {n : Int} {ss : List Str} (h : 12 < ss.length) : vnet n ss = false := by
  rw [Bool.eq_false_iff]; intro h'
  have := (vnet_iff n ss).1 h'
  omega
theorem vnet_no_at {n : Int} {ss : List Str} {k : Nat} {x y z : Int} (hk : k < ss.length) (hx : ss.getD k str0 = (x, y, z)) (h : x < 0 ∨ n ≤ x ∨ y < 0 ∨ n ≤ y ∨ z < 1 ∨ 9 < z) : vnet n ss = false := by
  rw [Bool.eq_false_iff]; intro h'
  have := ((vnet_iff n ss).1 h').2.2 _ (getD_mem3 hk)
  rw [hx] at this
  unfold OkS at this
  simp only at this
  omega
/-- So far, all streets are fine. -/
def OkN (n : Int) (ss : List Str) (k : Nat) : Prop := ∀ i, i < k → OkS n (ss.getD i str0)
theorem OkN.zero (n : Int) (ss : List Str) : OkN n ss 0 := fun i hi => by omega
theorem OkN.step {n : Int} {ss : List Str} {k : Nat} {x y z : Int} (h : OkN n ss k) (hx : ss.getD k str0 = (x, y, z)) (h0 : 0 ≤ x) (h1 : x < n) (h2 : 0 ≤ y) (h3 : y < n) (h4 : 1 ≤ z) (h5 : z ≤ 9) : OkN n ss (k + 1) := fun i hi => by
  by_cases e : i = k
  · subst e; rw [hx]; exact ⟨⟨h0, h1⟩, ⟨h2, h3⟩, h4, h5⟩
  · exact h i (by omega)
theorem vnet_yes {n : Int} {ss : List Str} {k : Nat} (h : OkN n ss k) (h1 : 1 ≤ n) (h7 : n ≤ 7) (h12 : ss.length ≤ 12) (hk : ss.length ≤ k) : vnet n ss = true :=
  (vnet_iff n ss).2 ⟨⟨h1, h7⟩, h12, fun p hp => by
    obtain ⟨i, hi, e⟩ := mem_getD3 hp
    rw [← e]; exact h i (by omega)⟩
/-- Fewer streets are a net. -/
theorem vnet_take {n : Int} {ss : List Str} (h : vnet n ss = true) (k : Nat) : vnet n (ss.take k) = true := by
  obtain ⟨h1, h2, h3⟩ := (vnet_iff n ss).1 h
  exact (vnet_iff _ _).2 ⟨h1, by rw [List.length_take]; omega, fun p hp => h3 p (List.mem_of_mem_take hp)⟩
end Go.Proofs.Ytkgomgfhhhdnjab
namespace Go.Proofs.Ytkgomgfhhhdnjab
open Go.ChangeShapes Go.WideShapes Go.ChangeAt Go.RowKit
set_option linter.unusedVariables false

theorem szS_any (A : Option Addr) (c n : Nat) (left : Int) (w : World) (hn : n ≤ 9223372036854775807) (hl : 0 ≤ left ∧ left ≤ 1048576) :
    Calls Try.prog 50 #[.slice A n c, .int .i64 left] w fun e w' => e = .returned (.int .i64 (if left < n then -1 else left - n)) ∧ w = w' := by
  by_cases h : left < n
  · have h' : left - n < 0 := by omega
    rw [if_pos h]
    go_enter Try.func50, Try.ntmps50
    go_wp2
    go_ret
    exact ⟨rfl, rfl⟩
  · have h' : ¬ left - n < 0 := by omega
    rw [if_neg h]
    go_enter Try.func50, Try.ntmps50
    go_wp2
    go_ret
    exact ⟨rfl, rfl⟩

theorem toStr_any (x y z : Int) (w : World) :
    Calls Try.prog 102 #[.agg #[.int .i64 x, .int .i64 y, .int .i64 z]] w fun e w' => e = .returned (.agg #[.int .i64 x, .int .i64 y, .int .i64 z]) ∧ Below w.heap.size w w' := by
  go_enter Try.func102, Try.ntmps102
  go_wp2
  exact bodyPost_ret (v := .agg #[.int .i64 x, .int .i64 y, .int .i64 z]) (by simp [results, Try.results102, go_sem]) rfl ⟨rfl, (((Below.refl _ _).alloc (Nat.le_refl _) _).alloc (by simp [go_sem]) _).alloc (by simp [go_sem]; omega) _⟩

theorem eqStr_any (x y z x' y' z' : Int) (w : World) :
    Calls Try.prog 103 #[.agg #[.int .i64 x, .int .i64 y, .int .i64 z], .agg #[.int .i64 x', .int .i64 y', .int .i64 z']] w fun e w' => e = .returned (.bool (decide (x = x') && (decide (y = y') && decide (z = z')))) ∧ Below w.heap.size w w' := by
  by_cases h1 : x = x' <;> by_cases h2 : y = y' <;> by_cases h3 : z = z'
  all_goals
    have g1 : (x != x') = !(decide (x = x')) := by by_cases h : x = x' <;> simp [h]
    have g2 : (y != y') = !(decide (y = y')) := by by_cases h : y = y' <;> simp [h]
    have g3 : (z != z') = !(decide (z = z')) := by by_cases h : z = z' <;> simp [h]
    simp only [h1, h2, h3, decide_true, decide_false, Bool.not_true, Bool.not_false] at g1 g2 g3
    go_enter Try.func103, Try.ntmps103
    go_wp2
    go_ret
    exact ⟨ret_bool (by simp [h1, h2, h3]), ((Below.refl _ _).alloc (Nat.le_refl _) _).alloc (by simp [go_sem]) _⟩

theorem eqStr_yes (x y z x' y' z' : Int) (w : World) (h1 : x = x') (h2 : y = y') (h3 : z = z') :
    Calls Try.prog 103 #[.agg #[.int .i64 x, .int .i64 y, .int .i64 z], .agg #[.int .i64 x', .int .i64 y', .int .i64 z']] w fun e w' => e = .returned (.bool true) ∧ Below w.heap.size w w' :=
  (eqStr_any x y z x' y' z' w).mono fun _ _ ⟨he, hw⟩ => ⟨by rw [he]; simp [h1, h2, h3], hw⟩
theorem eqStr_no (x y z x' y' z' : Int) (w : World) (h : x ≠ x' ∨ y ≠ y' ∨ z ≠ z') :
    Calls Try.prog 103 #[.agg #[.int .i64 x, .int .i64 y, .int .i64 z], .agg #[.int .i64 x', .int .i64 y', .int .i64 z']] w fun e w' => e = .returned (.bool false) ∧ Below w.heap.size w w' :=
  (eqStr_any x y z x' y' z' w).mono fun _ _ ⟨he, hw⟩ => ⟨by rw [he]; rcases h with h | h | h <;> simp [h], hw⟩
/-- A copy of streets in a new block. -/
def CopiedS (w : World) (ts : List Str) (e : Ending) (w' : World) : Prop :=
  ∃ b, e = .returned (.slice (some ⟨b, 0, none⟩) ts.length ts.length) ∧ w.heap.size ≤ b ∧ RdS w' w'.heap.size (some ⟨b, 0, none⟩) ts ∧ Below w.heap.size w w' ∧ w'.ownsRow w.heap.size 74 3 (.slice (some ⟨b, 0, none⟩) ts.length ts.length) ts.length ((flat3 ts).map (Value.int .i64))
theorem strInfo : (Try.prog.info? 74).map (fun i => (i.zero, i.size, i.bytes)) = some (some (.agg #[.int .i64 0, .int .i64 0, .int .i64 0]), 3, 24) := by kernel_rfl
theorem made_three (n : Nat) : (madeCells (Value.agg #[.int .i64 0, .int .i64 0, .int .i64 0]).cells (n * 3)).toList = List.replicate (n * 3) (Value.int .i64 0) := by
  apply List.ext_getElem?
  intro j
  by_cases hj : j < n * 3
  · have h3 : j % 3 = 0 ∨ j % 3 = 1 ∨ j % 3 = 2 := by omega
    rcases h3 with h3 | h3 | h3 <;> simp [madeCells, Value.cells, hj, h3]
  · simp [madeCells, hj]
set_option maxHeartbeats 400000 in
theorem toS_any (A : Option Addr) (c : Nat) (n : Nat) (ts : List Str) (w : World) (hr : RdS w w.heap.size A ts) (hn : ts.length = n) (hb : n ≤ 1048576) :
    Calls Try.prog 52 #[.slice A n c] w (CopiedS w ts) := by
  obtain ⟨i0, hi0, hz0, hz1, hz2⟩ := info_parts strInfo
  have Hn := Lib.hid hn
  have HL := Lib.hid (show (flat3 ts).length = n * 3 by rw [flat3_len, hn])
  clear hn
  go_enter Try.func52, Try.ntmps52
  go_wp2_with (at_make; refine wpList_make_full _ rfl _ _ 31 rfl w.heap.size 74 i0 _ 3 Try.underlying31 hi0 hz0 hz1 _ _ _ _ n rfl rfl rfl rfl (by rw [hz2]; omega) (by unfold maxLen; omega) (Nat.le_refl _) ?_; intro w1 hown1 hg1)
  have hs1 : w.heap.size < w1.heap.size := (hown1.lt w.heap.size rfl).2
  have hnx1 : Below w.heap.size w w1 := (Below.refl _ _).grown hg1 (Nat.le_refl _) (fun j hj => by cases hj)
  rw [made_three] at hown1
  go_loopw [4] (fun i wr => ∃ k : Nat, k ≤ n ∧ i = .int .i64 k ∧ wr.ownsRow w.heap.size 74 3 (.slice (some ⟨w.heap.size, 0, none⟩) n n) n (fillL (flat3 ts) (k * 3)) ∧ Below w.heap.size w wr)
    (fun i _ => n - (intOf i).toNat)
  case atStart => exact ⟨0, Nat.zero_le _, rfl, by simpa [fillL, HL.out] using hown1, hnx1⟩
  case round =>
    obtain ⟨k, hk, rfl, hown, hnx⟩ := hrel
    by_cases hlt : k < n
    · obtain ⟨b, off, x, y, z, rfl, hbw, Hx, hcx, hcy, hcz⟩ := (hr.below hnx).x (k := k) (by rw [Hn.out]; exact hlt)
      go_wp2_with fail
      refine (toStr_any x y z wr).mono ?_
      rintro e wr2 ⟨rfl, hnx2⟩
      have hnx3 := hnx.trans (hnx2.mono hnx.size)
      have hown2 : wr2.ownsRow w.heap.size 74 3 (.slice (some ⟨w.heap.size, 0, none⟩) n n) n (fillL (flat3 ts) (k * 3)) := ownN_below hown hnx2
      obtain ⟨v1, hv1⟩ := own_cell hown2 (j := k * 3) (by omega) (by rw [fillL_len _ (by rw [HL.out]; omega)]; exact HL.out)
      obtain ⟨v2, hv2⟩ := own_cell hown2 (j := k * 3 + 1) (by omega) (by rw [fillL_len _ (by rw [HL.out]; omega)]; exact HL.out)
      obtain ⟨v3, hv3⟩ := own_cell hown2 (j := k * 3 + 2) (by omega) (by rw [fillL_len _ (by rw [HL.out]; omega)]; exact HL.out)
      have hf1 := hown2.frozenAt (k * 3)
      have hf2 := hown2.frozenAt (k * 3 + 1)
      have hf3 := hown2.frozenAt (k * 3 + 2)
      have HS := Lib.hid (fill_step (by rw [HL.out]; omega) (fill_step (by rw [HL.out]; omega) (fill_step (by rw [HL.out]; omega) hown2)))
      have HB := Lib.hid hnx3
      clear hown2 hnx3 hnx2 hown hnx hcx hcy hcz
      go_wp2
      go_roundw
      case rel => exact ⟨k + 1, by omega, by go_num, by have h := HS.out; rw [flat3_0 _ _ (by rw [Hn.out]; omega), flat3_1 _ _ (by rw [Hn.out]; omega), flat3_2 _ _ (by rw [Hn.out]; omega), Hx.out] at h; rw [show (k + 1) * 3 = k * 3 + 1 + 1 + 1 by omega]; exact h, ((HB.out.setCell (Nat.le_refl _) _).setCell (Nat.le_refl _) _).setCell (Nat.le_refl _) _⟩
      case measure => simp [intOf]; omega
    · have HO := Lib.hid hown
      clear hown
      go_wp2
      go_ret
      have hkn : k = n := by omega
      subst hkn
      have ho := HO.out
      rw [fillL_all _ (by rw [HL.out]; omega)] at ho
      have hn := Hn.out
      subst hn
      exact ⟨w.heap.size, rfl, Nat.le_refl _, rdI_of_ownN ho HL.out, hnx, ho⟩

theorem eqSt_no {k : Nat} {ts ts' : List Str} (e : ¬ ts.getD k str0 = ts'.getD k str0) : (ts == ts') = false := by
  rw [beq_eq_false_iff_ne]
  rintro rfl
  exact e rfl
theorem eqSt_end {n k : Nat} {ts ts' : List Str} (h : ∀ i, i < k → ts.getD i str0 = ts'.getD i str0) (hn : ts.length = n) (hn' : ts'.length = n) (hk : n ≤ k) : (ts == ts') = true := by
  have e : ts = ts' := by
    apply List.ext_getElem (by omega)
    intro i h1 h2
    have := h i (by omega)
    simpa [List.getD, List.getElem?_eq_getElem h1, List.getElem?_eq_getElem h2] using this
  rw [e]; simp

set_option maxHeartbeats 800000 in
theorem eqS_any (A A' : Option Addr) (c c' n n' : Nat) (ts ts' : List Str) (w : World) (B B' : Nat) (hr : RdS w B A ts) (hn : ts.length = n) (hr' : RdS w B' A' ts') (hn' : ts'.length = n') (hb : n ≤ 1048576) (hB : B ≤ w.heap.size) (hB' : B' ≤ w.heap.size) :
    Calls Try.prog 53 #[.slice A n c, .slice A' n' c'] w fun e w' => e = .returned (.bool (ts == ts')) ∧ Below w.heap.size w w' := by
  by_cases hnn : n = n'
  · subst hnn
    have Hn := Lib.hid hn
    have Hn' := Lib.hid hn'
    clear hn hn'
    go_enter Try.func53, Try.ntmps53
    go_wp2
    go_loopw [5] (fun i wr => ∃ k : Nat, k ≤ n ∧ Hid (∀ i, i < k → ts.getD i str0 = ts'.getD i str0) ∧ i = .int .i64 k ∧ Below w.heap.size w wr) (fun i wr => n - (intOf i).toNat)
    case atStart => exact ⟨0, Nat.zero_le _, fun i hi => by omega, rfl, Below.refl _ _⟩
    case round =>
      obtain ⟨k, hk, Hk, rfl, hnx⟩ := hrel
      by_cases hlt : k < n
      · obtain ⟨b, off, x, y, z, rfl, hbw, Hx, hcx, hcy, hcz⟩ := (hr.below (hnx.mono hB)).x (k := k) (by rw [Hn.out]; exact hlt)
        obtain ⟨b', off', x', y', z', rfl, hbw', Hy, hcx', hcy', hcz'⟩ := (hr'.below (hnx.mono hB')).x (k := k) (by rw [Hn'.out]; exact hlt)
        go_wp2_with fail
        by_cases he : x = x' ∧ y = y' ∧ z = z'
        · have Hs := Lib.hid (show ∀ i, i < k + 1 → ts.getD i str0 = ts'.getD i str0 from fun i hi => by
            by_cases e : i = k
            · rw [e, Hx.out, Hy.out, he.1, he.2.1, he.2.2]
            · exact Hk.out i (by omega))
          obtain ⟨rfl, rfl, rfl⟩ := he
          go_region_with (go_at_call 103; refine (eqStr_yes x y z x y z _ rfl rfl rfl).mono ?_; rintro e wr2 ⟨rfl, hnx2⟩)
          all_goals
            have hnx3 := hnx.trans ((belowd hnx2).mono hnx.size)
            go_wp2
            go_roundw
            case rel => exact ⟨k + 1, by omega, Hs, by go_num, hnx3⟩
            case measure => simp [intOf]; omega
        · have Hs := Lib.hid (eqSt_no (ts := ts) (ts' := ts') (k := k) (by rw [Hx.out, Hy.out]; intro h; exact he ⟨congrArg Prod.fst h, congrArg (fun p => p.2.1) h, congrArg (fun p => p.2.2) h⟩))
          have he' := Lib.hid (show x ≠ x' ∨ y ≠ y' ∨ z ≠ z' by omega)
          clear he
          go_region_with (go_at_call 103; refine (eqStr_no x y z x' y' z' _ he'.out).mono ?_; rintro e wr2 ⟨rfl, hnx2⟩)
          all_goals
            have hnx3 := hnx.trans ((belowd hnx2).mono hnx.size)
            go_wp2
            go_ret
            exact ⟨ret_bool Hs.out.symm, hnx3⟩
      · have hs := eqSt_end Hk.out Hn.out Hn'.out (by omega)
        have Hs := Lib.hid hs
        clear hs
        go_wp2
        go_ret
        exact ⟨ret_bool Hs.out.symm, hnx⟩
  · have hs : (ts == ts') = false := by
      rw [beq_eq_false_iff_ne]
      rintro rfl
      omega
    have hb1 : ((n : Int) != (n' : Int)) = true := by rw [bne_iff_ne]; omega
    have Hs := Lib.hid hs
    clear hs hn hn' hnn
    go_enter Try.func53, Try.ntmps53
    go_wp2
    go_ret
    exact ⟨ret_bool Hs.out.symm, Below.refl _ _⟩
theorem eqS_same (A A' : Option Addr) (c c' n n' : Nat) (ts : List Str) (w : World) (B B' : Nat) (hr : RdS w B A ts) (hn : ts.length = n) (hr' : RdS w B' A' ts) (hn' : ts.length = n') (hb : n ≤ 1048576) (hB : B ≤ w.heap.size) (hB' : B' ≤ w.heap.size) :
    Calls Try.prog 53 #[.slice A n c, .slice A' n' c'] w fun e w' => e = .returned (.bool true) ∧ Below w.heap.size w w' :=
  (eqS_any A A' c c' n n' ts ts w B B' hr hn hr' hn' hb hB hB').mono fun _ _ ⟨he, hw⟩ => ⟨by rw [he]; simp, hw⟩
theorem szS_big (A : Option Addr) (c n : Nat) (w : World) (hn : n ≤ 9223372036854775807) (h : 1048576 < n) :
    Calls Try.prog 50 #[.slice A n c, .int .i64 1048576] w fun e w' => e = .returned (.int .i64 (-1)) ∧ w = w' :=
  (szS_any A c n 1048576 w hn (by omega)).mono fun _ _ ⟨he, hw⟩ => ⟨by rw [he, if_pos (by omega)], hw⟩
theorem szS_fits (A : Option Addr) (c n : Nat) (w : World) (h : n ≤ 1048576) :
    Calls Try.prog 50 #[.slice A n c, .int .i64 1048576] w fun e w' => ∃ q : Int, 0 ≤ q ∧ e = .returned (.int .i64 q) ∧ w = w' :=
  (szS_any A c n 1048576 w (by omega) (by omega)).mono fun _ _ ⟨he, hw⟩ => ⟨1048576 - n, by omega, by rw [he, if_neg (by omega)], hw⟩

theorem rdS_own {w : World} {B n : Nat} {v : Value} {ss : List Str} (h : w.ownsRow B 74 3 v n ((flat3 ss).map (Value.int .i64))) (hn : ss.length = n) :
    ∃ A c, v = .slice A n c ∧ n ≤ c ∧ c ≤ 9223372036854775807 ∧ RdS w w.heap.size A ss := by
  have h0 := h
  rcases h.2 with ⟨rfl, rfl⟩ | ⟨g, cap, cur, rfl, _, _, hnc, hmx, _⟩
  · refine ⟨none, 0, rfl, Nat.le_refl _, by omega, fun hp => ?_⟩
    rw [flat3_len] at hp; omega
  · exact ⟨_, cap, rfl, hnc, hmx, rdI_of_ownN h0 (by rw [flat3_len, hn])⟩
end Go.Proofs.Ytkgomgfhhhdnjab
namespace Go.Proofs.Ytkgomgfhhhdnjab
open Go.ChangeShapes Go.WideShapes Go.ChangeAt Go.RowKit
set_option linter.unusedVariables false

/-- Ways over streets, and their lengths. -/
inductive Wk (E : Nat → Nat → Int → Prop) (n : Nat) (a : Nat) : Nat → Int → Prop
  | nil : a < n → Wk E n a a 0
  | snoc (u v : Nat) (x L : Int) : Wk E n a u x → E u v L → v < n → Wk E n a v (x + L)
theorem Wk.start {E : Nat → Nat → Int → Prop} {n a b : Nat} {x : Int} (h : Wk E n a b x) : a < n := by
  induction h with
  | nil h => exact h
  | snoc u v x L h1 h2 h3 ih => exact ih
theorem Wk.cons {E : Nat → Nat → Int → Prop} {n a u b : Nat} {L x : Int} (ha : a < n) (he : E a u L) (h : Wk E n u b x) : Wk E n a b (L + x) := by
  induction h with
  | nil hu => have := Wk.snoc a u 0 L (Wk.nil ha) he hu; rw [Int.zero_add] at this; rw [Int.add_zero]; exact this
  | snoc w v x M h1 h2 h3 ih => rw [← Int.add_assoc]; exact Wk.snoc _ _ _ _ ih h2 h3
theorem Wk.join {E : Nat → Nat → Int → Prop} {n a c b : Nat} {x y : Int} (h1 : Wk E n a c x) (h2 : Wk E n c b y) : Wk E n a b (x + y) := by
  induction h2 with
  | nil hc => rw [Int.add_zero]; exact h1
  | snoc w v y M h3 h4 h5 ih => rw [← Int.add_assoc]; exact Wk.snoc _ _ _ _ ih h4 h5
theorem Wk.rev {E : Nat → Nat → Int → Prop} {n a b : Nat} {x : Int} (hs : ∀ u v L, E u v L → E v u L) (h : Wk E n a b x) : Wk E n b a x := by
  induction h with
  | nil ha => exact Wk.nil ha
  | snoc u v x L h1 h2 h3 ih => rw [Int.add_comm]; exact Wk.cons h3 (hs _ _ _ h2) ih
structure Short (E : Nat → Nat → Int → Prop) (n : Nat) (X : Nat → Nat → Int) : Prop where
  zero : ∀ a, a < n → X a a = 0
  step : ∀ a u v L, a < n → E u v L → v < n → 0 ≤ X a u → 0 ≤ X a v ∧ X a v ≤ X a u + L
  way : ∀ a b, a < n → b < n → X a b = -1 ∨ (0 ≤ X a b ∧ Wk E n a b (X a b))
theorem Short.le {E : Nat → Nat → Int → Prop} {n : Nat} {X : Nat → Nat → Int} (h : Short E n X) {a b : Nat} {x : Int} (ha : a < n) (hw : Wk E n a b x) : 0 ≤ X a b ∧ X a b ≤ x := by
  induction hw with
  | nil ha => rw [h.zero a ha]; omega
  | snoc u v x L h1 h2 h3 ih =>
    have := h.step a u v L ha h2 h3 ih.1
    omega
theorem Short.unique {E : Nat → Nat → Int → Prop} {n : Nat} {X Y : Nat → Nat → Int} (hx : Short E n X) (hy : Short E n Y) {a b : Nat} (ha : a < n) (hb : b < n) : X a b = Y a b := by
  rcases hx.way a b ha hb with h1 | ⟨h1, h2⟩ <;> rcases hy.way a b ha hb with h3 | ⟨h3, h4⟩
  · rw [h1, h3]
  · have := hx.le ha h4; omega
  · have := hy.le ha h2; omega
  · have := hx.le ha h4; have := hy.le ha h2; omega
theorem Short.symm {E : Nat → Nat → Int → Prop} {n : Nat} {X : Nat → Nat → Int} (hs : ∀ u v L, E u v L → E v u L) (hx : Short E n X) {a b : Nat} (ha : a < n) (hb : b < n) : X a b = X b a := by
  rcases hx.way a b ha hb with h1 | ⟨h1, h2⟩ <;> rcases hx.way b a hb ha with h3 | ⟨h3, h4⟩
  · rw [h1, h3]
  · have := hx.le ha (h4.rev hs); omega
  · have := hx.le hb (h2.rev hs); omega
  · have := hx.le ha (h4.rev hs); have := hx.le hb (h2.rev hs); omega
theorem Short.tri {E : Nat → Nat → Int → Prop} {n : Nat} {X : Nat → Nat → Int} (hx : Short E n X) {a b c : Nat} (ha : a < n) (hb : b < n) (hc : c < n) (h1 : 0 ≤ X a c) (h2 : 0 ≤ X c b) : 0 ≤ X a b ∧ X a b ≤ X a c + X c b := by
  rcases hx.way a c ha hc with h3 | ⟨_, h3⟩
  · omega
  · rcases hx.way c b hc hb with h4 | ⟨_, h4⟩
    · omega
    · exact hx.le ha (h3.join h4)

/-- The roads of a tree, as streets. -/
def TE (t : List (Int × Int)) (n : Nat) (u v : Nat) (L : Int) : Prop := ∃ i, 1 ≤ i ∧ i < n ∧ L = tlg t i ∧ ((u = tto t i ∧ v = i) ∨ (u = i ∧ v = tto t i))
theorem TE.symm {t : List (Int × Int)} {n u v : Nat} {L : Int} (h : TE t n u v L) : TE t n v u L := by
  obtain ⟨i, h1, h2, h3, h4⟩ := h
  exact ⟨i, h1, h2, h3, h4.elim (fun h => .inr ⟨h.2, h.1⟩) (fun h => .inl ⟨h.2, h.1⟩)⟩
theorem dn_way {t : List (Int × Int)} (ht : Ahead t) {n : Nat} (hn : n ≤ t.length) : ∀ m a b, a + b = m → a < n → b < n → Wk (TE t n) n a b (dn t n a b) := by
  intro m
  induction m using Nat.strongRecOn with
  | ind m ih =>
    intro a b hm ha hb
    rcases Nat.lt_trichotomy a b with h | h | h
    · have hr := ht b (by omega) (by omega)
      rw [dn_symm, dn_road ht hn hb h, dn_symm]
      exact Wk.snoc _ _ _ _ (ih (a + tto t b) (by omega) a (tto t b) rfl ha (by omega)) ⟨b, by omega, hb, rfl, .inl ⟨rfl, rfl⟩⟩ hb
    · subst h; rw [dn_diag t n a ha]; exact Wk.nil ha
    · have hr := ht a (by omega) (by omega)
      rw [dn_road ht hn ha h, Int.add_comm]
      exact Wk.cons ha ⟨a, by omega, ha, rfl, .inr ⟨rfl, rfl⟩⟩ (ih (tto t a + b) (by omega) (tto t a) b rfl (by omega) hb)
/-- A tree's table is that of its roads as streets. -/
theorem dn_short {t : List (Int × Int)} (ht : Ahead t) {n : Nat} (hn : n ≤ t.length) : Short (TE t n) n (dn t n) where
  zero a ha := dn_diag t n a ha
  step a u v L ha he hv h0 := by
    obtain ⟨i, h1, h2, rfl, h4⟩ := he
    have hr := ht i h1 (by omega)
    have ho := dn_over ht hn h1 h2 a ha
    rw [dn_symm t n i a, dn_symm t n (tto t i) a] at ho
    refine ⟨(dn_bd ht n a v hn ha hv).1, ?_⟩
    rcases h4 with ⟨rfl, rfl⟩ | ⟨rfl, rfl⟩ <;> split at ho <;> omega
  way a b ha hb := .inr ⟨(dn_bd ht n a b hn ha hb).1, dn_way ht hn _ a b rfl ha hb⟩

/-- A table's entry, no way as a great number. -/
def big (x : Int) : Int := if x < 0 then 1000000 else x
/-- With one node more in the middle. -/
theorem middles_step {X Y : Nat → Nat → Int} {n m : Nat} (hbd : ∀ a b, a < n → b < n → -1 ≤ X a b ∧ X a b ≤ 400000) (hm : m < n) (h0 : X m m = 0) (hY : ∀ a b, a < n → b < n → big (Y a b) = min (big (X a b)) (min 1000000 (big (X a m) + big (X m b))))
    (hT : ∀ a b c, a < n → b < n → c < m → big (X a b) ≤ big (X a c) + big (X c b)) : ∀ a b c, a < n → b < n → c < m + 1 → big (Y a b) ≤ big (Y a c) + big (Y c b) := by
  intro a b c ha hb hc
  have nn : ∀ a b, a < n → b < n → 0 ≤ big (X a b) ∧ big (X a b) ≤ 1000000 := fun a b ha hb => by have := hbd a b ha hb; unfold big; split <;> omega
  rw [hY a b ha hb, hY a c ha (by omega), hY c b (by omega) hb]
  have e0 : big (X m m) = 0 := by rw [h0]; rfl
  have n1 := nn a b ha hb; have n2 := nn a c ha (by omega); have n3 := nn c b (by omega) hb; have n4 := nn a m ha hm; have n5 := nn m b hm hb; have n6 := nn m c hm (by omega); have n7 := nn c m (by omega) hm
  by_cases e : c = m
  · subst e
    omega
  · have t1 := hT a b c ha hb (by omega)
    have t2 := hT m b c hm hb (by omega)
    have t3 := hT a m c ha hm (by omega)
    omega
end Go.Proofs.Ytkgomgfhhhdnjab
namespace Go.Proofs.Ytkgomgfhhhdnjab
open Go.ChangeShapes Go.WideShapes Go.ChangeAt Go.RowKit
set_option linter.unusedVariables false

/-- The streets, both ways. -/
def SE (ss : List Str) (u v : Nat) (L : Int) : Prop := ∃ p, p ∈ ss ∧ L = p.2.2 ∧ ((p.1 = u ∧ p.2.1 = v) ∨ (p.1 = v ∧ p.2.1 = u))
theorem SE.symm {ss : List Str} {u v : Nat} {L : Int} (h : SE ss u v L) : SE ss v u L := by
  obtain ⟨p, h1, h2, h3⟩ := h
  exact ⟨p, h1, h2, h3.symm⟩
theorem SE.pos {n : Int} {ss : List Str} (hv : vnet n ss = true) {u v : Nat} {L : Int} (h : SE ss u v L) : 1 ≤ L ∧ L ≤ 9 ∧ (u : Int) < n ∧ (v : Int) < n := by
  obtain ⟨p, h1, h2, h3⟩ := h
  have := ((vnet_iff n ss).1 hv).2.2 p h1
  unfold OkS at this
  omega

/-- How many nodes a row reaches. -/
def cntX (X : Nat → Nat → Int) (a : Nat) : Nat → Nat
  | 0 => 0
  | m + 1 => cntX X a m + (if 0 ≤ X a m then 1 else 0)
theorem cntX_le (X : Nat → Nat → Int) (a : Nat) : ∀ m, cntX X a m ≤ m
  | 0 => Nat.le_refl _
  | m + 1 => by have := cntX_le X a m; simp only [cntX]; split <;> omega
def up2 (X : Nat → Nat → Int) (a b : Nat) (v : Int) : Nat → Nat → Int := fun i j => if i = a ∧ j = b then v else X i j
theorem up2_at (X : Nat → Nat → Int) (a b : Nat) (v : Int) : up2 X a b v a b = v := if_pos ⟨rfl, rfl⟩
theorem up2_other (X : Nat → Nat → Int) {a b i j : Nat} (v : Int) (h : ¬ (i = a ∧ j = b)) : up2 X a b v i j = X i j := if_neg h
theorem cntX_row {X : Nat → Nat → Int} {a b i : Nat} {v : Int} (h : i ≠ a) : ∀ m, cntX (up2 X a b v) i m = cntX X i m
  | 0 => rfl
  | m + 1 => by simp only [cntX]; rw [cntX_row h m, up2_other _ _ (fun e => h e.1)]
theorem cntX_up {X : Nat → Nat → Int} {a b : Nat} {v : Int} (hv : 0 ≤ v) : ∀ m, cntX (up2 X a b v) a m = cntX X a m + (if b < m ∧ X a b < 0 then 1 else 0)
  | 0 => by simp [cntX]
  | m + 1 => by
    simp only [cntX]
    rw [cntX_up hv m]
    by_cases e : b = m
    · subst e
      rw [up2_at, if_pos hv]
      repeat' split
      all_goals omega
    · rw [up2_other _ _ (fun e' => e e'.2.symm)]
      repeat' split
      all_goals omega

/-- The table while it is made shorter: each entry is a way's length or -1. -/
structure Rlx (ss : List Str) (n : Nat) (X : Nat → Nat → Int) : Prop where
  zero : ∀ a, a < n → X a a = 0
  way : ∀ a b, a < n → b < n → X a b = -1 ∨ (0 ≤ X a b ∧ Wk (SE ss) n a b (X a b))
  bd : ∀ a b, a < n → b < n → X a b + 9 ≤ 9 * (cntX X a n : Int)
theorem Rlx.le {ss : List Str} {n : Nat} {X : Nat → Nat → Int} (h : Rlx ss n X) (hn : n ≤ 7) {a b : Nat} (ha : a < n) (hb : b < n) : -1 ≤ X a b ∧ X a b ≤ 54 := by
  have h1 := h.bd a b ha hb
  have h2 := cntX_le X a n
  rcases h.way a b ha hb with h3 | ⟨h3, -⟩ <;> omega
def ownX (a b : Nat) : Int := if a = b then 0 else -1
theorem cntX_own (a : Nat) : ∀ m, cntX ownX a m = if a < m then 1 else 0
  | 0 => rfl
  | m + 1 => by
    simp only [cntX]
    rw [cntX_own a m]
    unfold ownX
    by_cases h : a = m
    · subst h; simp
    · rw [if_neg h]
      by_cases h2 : a < m
      · rw [if_pos h2, if_neg (by omega), if_pos (by omega)]
      · rw [if_neg h2, if_neg (by omega), if_neg (by omega)]
theorem rlx_start (ss : List Str) (n : Nat) : Rlx ss n ownX where
  zero a _ := by simp [ownX]
  way a b ha hb := by
    unfold ownX
    by_cases h : a = b
    · subst h; rw [if_pos rfl]; exact .inr ⟨Int.le_refl _, Wk.nil ha⟩
    · rw [if_neg h]; exact .inl rfl
  bd a b ha hb := by rw [cntX_own, if_pos ha]; unfold ownX; split <;> omega
/-- One entry shorter. -/
theorem rlx_step {ss : List Str} {n : Nat} {X : Nat → Nat → Int} (h : Rlx ss n X) {at' u v : Nat} {L : Int} (ha : at' < n) (hu : u < n) (hv : v < n) (he : SE ss u v L) (hL : 1 ≤ L ∧ L ≤ 9) (h0 : 0 ≤ X at' u) (hc : X at' v < 0 ∨ X at' u + L < X at' v) :
    Rlx ss n (up2 X at' v (X at' u + L)) where
  zero a ha' := by
    by_cases e : a = at' ∧ a = v
    · obtain ⟨e1, e2⟩ := e
      subst e1
      rw [← e2, h.zero a ha'] at hc
      omega
    · rw [up2_other _ _ e]; exact h.zero a ha'
  way a b ha' hb := by
    by_cases e : a = at' ∧ b = v
    · obtain ⟨rfl, rfl⟩ := e
      rw [up2_at]
      rcases h.way a u ha hu with h1 | ⟨_, h1⟩
      · omega
      · exact .inr ⟨by omega, Wk.snoc _ _ _ _ h1 he hv⟩
    · rw [up2_other _ _ e]; exact h.way a b ha' hb
  bd a b ha' hb := by
    by_cases e1 : a = at'
    · subst e1
      rw [cntX_up (by omega)]
      have h1 := h.bd a u ha hu
      have h2 := h.bd a b ha hb
      have h3 := h.bd a v ha hv
      by_cases e : b = v
      · subst e
        rw [up2_at]
        by_cases hn : X a b < 0
        · rw [if_pos ⟨hb, hn⟩]; omega
        · rw [if_neg (by omega)]; omega
      · rw [up2_other _ _ (fun e' => e e'.2)]
        omega
    · rw [cntX_row e1, up2_other _ _ (fun e => e1 e.1)]; exact h.bd a b ha' hb

/-- What goes down with each step. -/
def sumR (f : Nat → Nat) : Nat → Nat
  | 0 => 0
  | m + 1 => sumR f m + f m
theorem sumR_congr {f g : Nat → Nat} : ∀ {m}, (∀ i, i < m → f i = g i) → sumR f m = sumR g m
  | 0, _ => rfl
  | m + 1, h => by simp only [sumR]; rw [sumR_congr fun i hi => h i (by omega), h m (by omega)]
theorem sumR_lt {f g : Nat → Nat} {k : Nat} : ∀ {m}, k < m → (∀ i, i < m → i ≠ k → f i = g i) → f k < g k → sumR f m < sumR g m
  | 0, h, _, _ => by omega
  | m + 1, h, he, hk => by
    simp only [sumR]
    by_cases e : k = m
    · subst e
      rw [sumR_congr fun i hi => he i (by omega) (by omega)]; omega
    · have := sumR_lt (m := m) (by omega) (fun i hi hne => he i (by omega) hne) hk
      rw [he m (by omega) (fun e' => e e'.symm)]; omega
def ent (x : Int) : Nat := if x < 0 then 64 else x.toNat
def totX (X : Nat → Nat → Int) (n : Nat) : Nat := sumR (fun a => sumR (fun b => ent (X a b)) n) n
theorem totX_step {X : Nat → Nat → Int} {n a b : Nat} {v : Int} (ha : a < n) (hb : b < n) (hv : 0 ≤ v ∧ v < 64) (h : X a b < 0 ∨ v < X a b) : totX (up2 X a b v) n < totX X n := by
  refine sumR_lt (k := a) ha (fun i hi hne => ?_) ?_
  · refine sumR_congr fun j hj => ?_
    rw [up2_other _ _ (fun e => hne e.1)]
  · refine sumR_lt (k := b) hb (fun j hj hne => ?_) ?_
    · rw [up2_other _ _ (fun e => hne e.2)]
    · rw [up2_at]; unfold ent; rw [if_neg (by omega)]; split <;> omega

/-- A street's way in one sense does not make row a shorter. -/
def Cz (X : Nat → Nat → Int) (a u v : Nat) (L : Int) : Prop := 0 ≤ X a u → 0 ≤ X a v ∧ X a v ≤ X a u + L
theorem rlx_short {ss : List Str} {n : Nat} {X : Nat → Nat → Int} (h : Rlx ss n X) (hs : ∀ p : Str, ∀ u v : Nat, p ∈ ss → p.1 = u → p.2.1 = v → u < n → v < n → ∀ a, a < n → Cz X a u v p.2.2 ∧ Cz X a v u p.2.2) (hN : ∀ u v L, SE ss u v L → u < n ∧ v < n) : Short (SE ss) n X where
  zero := h.zero
  step a u v L ha he hv h0 := by
    have hu := (hN u v L he).1
    obtain ⟨p, hp, rfl, ⟨h1, h2⟩ | ⟨h1, h2⟩⟩ := he
    · exact (hs p u v hp h1 h2 hu hv a ha).1 h0
    · exact (hs p v u hp h1 h2 hv hu a ha).2 h0
  way a b ha hb := h.way a b ha hb
theorem se_lt {n : Nat} {ss : List Str} (hv : vnet n ss = true) : ∀ u v L, SE ss u v L → u < n ∧ v < n := fun u v L h => by
  have := SE.pos hv h
  omega
theorem exists_short {n : Nat} {ss : List Str} (hv : vnet n ss = true) : ∀ (m : Nat) (X : Nat → Nat → Int), totX X n = m → Rlx ss n X → ∃ Y, Short (SE ss) n Y ∧ ∀ a b, a < n → b < n → -1 ≤ Y a b ∧ Y a b ≤ 54 := by
  intro m
  induction m using Nat.strongRecOn with
  | ind m ih =>
    intro X hm h
    have h7 := ((vnet_iff _ _).1 hv).1
    by_cases hc : ∃ a u v L, a < n ∧ u < n ∧ v < n ∧ SE ss u v L ∧ ¬ Cz X a u v L
    · obtain ⟨a, u, v, L, ha, hu, hv', he, hcz⟩ := hc
      have hL := SE.pos hv he
      have h0 : 0 ≤ X a u := by
        by_cases h0 : 0 ≤ X a u
        · exact h0
        · exact absurd (fun h1 => absurd h1 h0) hcz
      have hlt : X a v < 0 ∨ X a u + L < X a v := by
        by_cases h1 : X a v < 0 ∨ X a u + L < X a v
        · exact h1
        · exact absurd (fun _ => ⟨by omega, by omega⟩) hcz
      have hb := h.le (by omega) ha hu
      exact ih _ (by rw [← hm]; exact totX_step ha hv' (by omega) hlt) _ rfl (rlx_step h ha hu hv' he ⟨hL.1, hL.2.1⟩ h0 hlt)
    · refine ⟨X, rlx_short h (fun p u v hp h1 h2 hu hv' a ha => ⟨?_, ?_⟩) (se_lt hv), fun a b ha hb => h.le (by omega) ha hb⟩
      · by_cases hz : Cz X a u v p.2.2
        · exact hz
        · exact absurd ⟨a, u, v, _, ha, hu, hv', ⟨p, hp, rfl, .inl ⟨h1, h2⟩⟩, hz⟩ hc
      · by_cases hz : Cz X a v u p.2.2
        · exact hz
        · exact absurd ⟨a, v, u, _, ha, hv', hu, ⟨p, hp, rfl, .inr ⟨h1, h2⟩⟩, hz⟩ hc
open Classical in
/-- The table of shortest ways. -/
noncomputable def sht (n : Nat) (ss : List Str) : Nat → Nat → Int := if h : ∃ Y, Short (SE ss) n Y ∧ ∀ a b, a < n → b < n → -1 ≤ Y a b ∧ Y a b ≤ 54 then Classical.choose h else fun _ _ => 0
theorem sht_spec {n : Nat} {ss : List Str} (hv : vnet n ss = true) : Short (SE ss) n (sht n ss) ∧ ∀ a b, a < n → b < n → -1 ≤ sht n ss a b ∧ sht n ss a b ≤ 54 := by
  have h := exists_short hv _ ownX rfl (rlx_start ss n)
  unfold sht
  rw [dif_pos h]
  exact Classical.choose_spec h
theorem sht_is {n : Nat} {ss : List Str} (hv : vnet n ss = true) {X : Nat → Nat → Int} (h : Short (SE ss) n X) {a b : Nat} (ha : a < n) (hb : b < n) : X a b = sht n ss a b := h.unique (sht_spec hv).1 ha hb
end Go.Proofs.Ytkgomgfhhhdnjab
