/-
  The model's table of a tree: rows that grow in turn.
  Conditions: the roads are a tree.
-/
import Derived.Test.YtoappopbjnlbdabUG
import Derived.Test.YtoappopbjnlbdabN0
namespace Go.Proofs.Ytoappopbjnlbdab
open Go.ChangeShapes Go.WideShapes Go.ChangeAt Go.RowKit
set_option linter.unusedVariables false
set_option maxRecDepth 4000

def rowN (t : List (Int × Int)) (n j : Nat) : List Int := (List.range n).map fun k => dn t n j k
theorem rowN_len (t : List (Int × Int)) (n j : Nat) : (rowN t n j).length = n := by simp [rowN]
theorem rowN_get (t : List (Int × Int)) {n j k : Nat} (hk : k < n) : (rowN t n j).getD k 0 = dn t n j k := by simp [rowN, List.getD, hk]
theorem rowN_step (t : List (Int × Int)) {n j : Nat} (hj : j < n) : rowN t (n + 1) j = rowN t n j ++ [dn t (n + 1) j n] := by
  unfold rowN
  rw [List.range_succ, List.map_append]
  congr 1
  exact List.map_congr_left fun k hk => dn_old hj (List.mem_range.1 hk)
/-- The rows in the inner loop: those below k have grown, the last one grows. -/
def lsK (t : List (Int × Int)) (i k : Nat) : Nat → List Int := fun j => if j = i then (List.range k).map (fun k => dn t (i + 1) i k) else if j < k then rowN t (i + 1) j else rowN t i j
theorem lsK_get {t : List (Int × Int)} {i k p : Nat} (hp : p < i) (hk : k < i) : (lsK t i k p).getD k 0 = dn t i p k ∧ k < (lsK t i k p).length := by
  unfold lsK
  rw [if_neg (by omega)]
  split
  · rw [rowN_get t (by omega), rowN_len]; exact ⟨dn_old hp hk, by omega⟩
  · rw [rowN_get t (by omega), rowN_len]; exact ⟨rfl, hk⟩
theorem lsK_step {t : List (Int × Int)} {i k : Nat} (hk : k < i) : ∀ j, upd (upd (lsK t i k) i (lsK t i k i ++ [dn t (i + 1) i k])) k (upd (lsK t i k) i (lsK t i k i ++ [dn t (i + 1) i k]) k ++ [dn t (i + 1) i k]) j = lsK t i (k + 1) j := by
  intro j
  have e1 : upd (lsK t i k) i (lsK t i k i ++ [dn t (i + 1) i k]) k = rowN t i k := by
    rw [upd_other _ _ (by omega)]
    unfold lsK
    rw [if_neg (by omega), if_neg (by omega)]
  rw [e1]
  by_cases ek : j = k
  · subst ek
    rw [upd_at]
    unfold lsK
    rw [if_neg (by omega), if_pos (by omega), rowN_step t hk, dn_symm t (i + 1) i j]
  · rw [upd_other _ _ ek]
    by_cases ei : j = i
    · subst ei
      rw [upd_at]
      unfold lsK
      rw [if_pos rfl, if_pos rfl, List.range_succ, List.map_append]; rfl
    · rw [upd_other _ _ ei]
      unfold lsK
      rw [if_neg ei, if_neg ei]
      by_cases h : j < k
      · rw [if_pos h, if_pos (by omega)]
      · rw [if_neg h, if_neg (by omega)]
theorem lsK_end {t : List (Int × Int)} {i : Nat} : ∀ j, j < i + 1 → upd (lsK t i i) i (lsK t i i i ++ [0]) j = rowN t (i + 1) j := by
  intro j hj
  by_cases e : j = i
  · subst e
    rw [upd_at]
    unfold lsK rowN
    rw [if_pos rfl, List.range_succ, List.map_append]
    simp only [List.map_cons, List.map_nil]
    rw [dn_diag t (j + 1) j (by omega)]
  · rw [upd_other _ _ e]
    unfold lsK
    rw [if_neg e, if_pos (by omega)]
theorem lsK_start {t : List (Int × Int)} {i : Nat} : ∀ j, j < i + 1 → upd (rowN t i) i [] j = lsK t i 0 j := by
  intro j hj
  by_cases e : j = i
  · subst e; rw [upd_at]; unfold lsK; rw [if_pos rfl]; rfl
  · rw [upd_other _ _ e]; unfold lsK; rw [if_neg e, if_neg (by omega)]
/-- The table as it is handed back. -/
def Tabled (w : World) (t : List (Int × Int)) (e : Ending) (w' : World) : Prop :=
  ∃ v VR, e = .returned v ∧ Outer w' w.heap.size t.length v VR ∧ TT w' w.heap.size t.length VR (rowN t t.length) ∧ Below w.heap.size w w'
def TabRel (w : World) (t : List (Int × Int)) (v i : Value) (wr : World) : Prop :=
  ∃ k : Nat, ∃ VR g cA, k ≤ t.length ∧ i = .int .i64 k ∧ v = .slice (some ⟨g, 0, none⟩) k cA ∧ Outer wr w.heap.size k v VR ∧ TT wr w.heap.size k VR (rowN t k) ∧ Below w.heap.size w wr
def RowRel (w : World) (t : List (Int × Int)) (n : Nat) (g c : Nat) (r i : Value) (wr : World) : Prop :=
  ∃ k : Nat, ∃ VR, k ≤ n ∧ i = .int .i64 k ∧ r = VR n ∧ Outer wr w.heap.size n (.slice (some ⟨g, 0, none⟩) n c) VR ∧ TT wr w.heap.size (n + 1) VR (lsK t n k) ∧ Below w.heap.size w wr
/-- The new row has grown. -/
theorem tab_first {w wq w2 : World} {t : List (Int × Int)} {m k g cA g2 c2 : Nat} {VR : Nat → Value} {x : Int} {o : Obj} (hT : TT wq w.heap.size (m + 1) VR (lsK t m k)) (hO : Outer wq w.heap.size m (.slice (some ⟨g, 0, none⟩) m cA) VR) (hB : Below w.heap.size w wq) (hlk : k < m)
    (hown : w2.ownsRow w.heap.size 3 1 (.slice (some ⟨g2, 0, none⟩) (k + 1) c2) (k + 1) ((lsK t m k m).map (Value.int .i64) ++ [.int .i64 x])) (hg : (wq.alloc o).grownBy w2 (VR m).ownBlock) (hat : (VR m).ownBlock = some g2 ∨ g2 = (wq.alloc o).heap.size) :
    ∃ gk ck, TT w2 w.heap.size (m + 1) (upd VR m (.slice (some ⟨g2, 0, none⟩) (k + 1) c2)) (upd (lsK t m k) m (lsK t m k m ++ [x])) ∧ Outer w2 w.heap.size m (.slice (some ⟨g, 0, none⟩) m cA) VR ∧ Below w.heap.size w w2 ∧
      VR k = .slice (some ⟨gk, 0, none⟩) m ck ∧ w2.ownsRow w.heap.size 3 1 (.slice (some ⟨gk, 0, none⟩) m ck) m ((rowN t m k).map (Value.int .i64)) ∧ w2.cell? ⟨g, k, none⟩ = some (.slice (some ⟨gk, 0, none⟩) m ck) := by
  have hW := (Below.refl wq.heap.size wq).alloc (Nat.le_refl _) o
  have hlm : (lsK t m k m).length = k := by unfold lsK; rw [if_pos rfl]; simp
  have hT2 := hT.append (d := x) (by omega) hW hg hown (by rw [hlm]) hat
  have ho2 := hO.kept hT (r := m) (by omega) hW hg
  have hb2 := (hB.trans (hW.mono hB.size)).grown hg (by rw [size_alloc1]; have := hB.size; omega) (fun g h => (own_heap (hT.own m (by omega)) h).2.1)
  have hlk2 : upd (lsK t m k) m (lsK t m k m ++ [x]) k = rowN t m k := by
    rw [upd_other _ _ (by omega)]; unfold lsK; rw [if_neg (by omega), if_neg (by omega)]
  have hok := hT2.own k (by omega)
  obtain ⟨Ak, ck, hvk, hk3, hk4, hk5⟩ := own_sliceN hok
  rw [hlk2, rowN_len] at hvk hok hk3 hk5
  obtain ⟨gk, rfl, hgk1, hgk2⟩ := hk5 (by omega)
  rw [hvk] at hok
  rw [upd_other _ _ (by omega)] at hvk
  have cok := Outer.cell ho2 hlk
  rw [hvk] at cok
  exact ⟨gk, ck, hT2, ho2, hb2, hvk, hok, cok⟩
/-- The old row has grown too, and lies in the table again. -/
theorem tab_second {w w2 w3 : World} {t : List (Int × Int)} {m k g cA gk ck g3 c3 : Nat} {VR : Nat → Value} {v1 : Value} {x : Int} {o : Obj} (hT : TT w2 w.heap.size (m + 1) (upd VR m v1) (upd (lsK t m k) m (lsK t m k m ++ [x]))) (hO : Outer w2 w.heap.size m (.slice (some ⟨g, 0, none⟩) m cA) VR) (hB : Below w.heap.size w w2) (hlk : k < m)
    (hvk : VR k = .slice (some ⟨gk, 0, none⟩) m ck) (hx : dn t (m + 1) m k = x)
    (hown : w3.ownsRow w.heap.size 3 1 (.slice (some ⟨g3, 0, none⟩) (m + 1) c3) (m + 1) ((rowN t m k).map (Value.int .i64) ++ [.int .i64 x])) (hg : (w2.alloc o).grownBy w3 (Value.slice (some ⟨gk, 0, none⟩) m ck).ownBlock)
    (hat : (Value.slice (some ⟨gk, 0, none⟩) m ck).ownBlock = some g3 ∨ g3 = (w2.alloc o).heap.size) :
    ∃ v3 VR3, w3.cell? ⟨g, k, none⟩ = some v3 ∧ w3.frozen? ⟨g, k, none⟩ = false ∧ VR3 m = v1 ∧ Outer (w3.setCell ⟨g, k, none⟩ (.slice (some ⟨g3, 0, none⟩) (m + 1) c3)) w.heap.size m (.slice (some ⟨g, 0, none⟩) m cA) VR3 ∧
      TT (w3.setCell ⟨g, k, none⟩ (.slice (some ⟨g3, 0, none⟩) (m + 1) c3)) w.heap.size (m + 1) VR3 (lsK t m (k + 1)) ∧ Below w.heap.size w (w3.setCell ⟨g, k, none⟩ (.slice (some ⟨g3, 0, none⟩) (m + 1) c3)) := by
  have hW3 := (Below.refl w2.heap.size w2).alloc (Nat.le_refl _) o
  have hvk' : upd VR m v1 k = .slice (some ⟨gk, 0, none⟩) m ck := by rw [upd_other _ _ (by omega)]; exact hvk
  have hlk2 : upd (lsK t m k) m (lsK t m k m ++ [x]) k = rowN t m k := by
    rw [upd_other _ _ (by omega)]; unfold lsK; rw [if_neg (by omega), if_neg (by omega)]
  have hT3 := hT.append (d := x) (r := k) (by omega) hW3 (by rw [hvk']; exact hg) (by rw [hlk2]; exact hown) (by rw [hlk2, rowN_len]) (by rw [hvk']; exact hat)
  have ho3 := hO.kept hT (r := k) (by omega) hW3 (by rw [hvk']; exact hg)
  have hb3 := (hB.trans (hW3.mono hB.size)).grown hg (by rw [size_alloc1]; have := hB.size; omega) (fun g h => by
    have := hT.own k (by omega)
    rw [hvk'] at this
    exact (own_heap this h).2.1)
  obtain ⟨v3, hv3⟩ := own_cell ho3 (j := k) (by omega) (by simp)
  have hf3 := World.ownsRow.frozenAt ho3 k
  have hst := (ho3.stored (k := k) (v := .slice (some ⟨g3, 0, none⟩) (m + 1) c3) hlk).congr (VR' := upd (upd VR m v1) k (.slice (some ⟨g3, 0, none⟩) (m + 1) c3)) (fun j hj => by
    by_cases e : j = k
    · rw [e, upd_at, upd_at]
    · rw [upd_other _ _ e, upd_other _ _ e, upd_other _ _ (by omega)])
  obtain ⟨⟨csg3, hcg3⟩, hgB3, -⟩ := own_heap ho3 (g := g) rfl
  refine ⟨v3, _, hv3, hf3, ?_, hst, (hT3.store (g := g) (k := k) (v := .slice (some ⟨g3, 0, none⟩) (m + 1) c3) hcg3 (by decide)).congr (fun j _ => ?_), hb3.setCell (p := ⟨g, k, none⟩) hgB3 _⟩
  · rw [upd_other _ _ (by omega), upd_at]
  · rw [← hx]; exact lsK_step hlk j
/-- The new row is whole. -/
theorem tab_end1 {w wq w2 : World} {t : List (Int × Int)} {m g cA g2 c2 : Nat} {VR : Nat → Value} {o : Obj} (hT : TT wq w.heap.size (m + 1) VR (lsK t m m)) (hO : Outer wq w.heap.size m (.slice (some ⟨g, 0, none⟩) m cA) VR) (hB : Below w.heap.size w wq)
    (hown : w2.ownsRow w.heap.size 3 1 (.slice (some ⟨g2, 0, none⟩) (m + 1) c2) (m + 1) ((lsK t m m m).map (Value.int .i64) ++ [.int .i64 0])) (hg : (wq.alloc o).grownBy w2 (VR m).ownBlock) (hat : (VR m).ownBlock = some g2 ∨ g2 = (wq.alloc o).heap.size) :
    TT w2 w.heap.size (m + 1) (upd VR m (.slice (some ⟨g2, 0, none⟩) (m + 1) c2)) (rowN t (m + 1)) ∧ Outer w2 w.heap.size m (.slice (some ⟨g, 0, none⟩) m cA) VR ∧ Below w.heap.size w w2 := by
  have hW := (Below.refl wq.heap.size wq).alloc (Nat.le_refl _) o
  have hlm : (lsK t m m m).length = m := by unfold lsK; rw [if_pos rfl]; simp
  refine ⟨(hT.append (d := 0) (by omega) hW hg hown (by rw [hlm]) hat).congr (lsK_end (t := t)), hO.kept hT (r := m) (by omega) hW hg, (hB.trans (hW.mono hB.size)).grown hg (by rw [size_alloc1]; have := hB.size; omega) (fun g h => (own_heap (hT.own m (by omega)) h).2.1)⟩
/-- The new row lies in the table. -/
theorem tab_end2 {w w2 w3 : World} {t : List (Int × Int)} {m g cA g3 c3 : Nat} {VR : Nat → Value} {v : Value} {o : Obj} (hT : TT w2 w.heap.size (m + 1) (upd VR m v) (rowN t (m + 1))) (hO : Outer w2 w.heap.size m (.slice (some ⟨g, 0, none⟩) m cA) VR) (hB : Below w.heap.size w w2)
    (hown : w3.ownsRow w.heap.size 27 1 (.slice (some ⟨g3, 0, none⟩) (m + 1) c3) (m + 1) ((List.range m).map VR ++ [v])) (hg : (w2.alloc o).grownBy w3 (Value.slice (some ⟨g, 0, none⟩) m cA).ownBlock) :
    Outer w3 w.heap.size (m + 1) (.slice (some ⟨g3, 0, none⟩) (m + 1) c3) (upd VR m v) ∧ TT w3 w.heap.size (m + 1) (upd VR m v) (rowN t (m + 1)) ∧ Below w.heap.size w w3 := by
  have hW := (Below.refl w2.heap.size w2).alloc (Nat.le_refl _) o
  obtain ⟨⟨cs, hc⟩, hB2, _⟩ := own_heap (ownN_below hO hW) (g := g) rfl
  refine ⟨?_, (hT.below hW).keptBy hg (fun g' e => ?_), (hB.trans (hW.mono hB.size)).grown hg (by rw [size_alloc1]; have := hB.size; omega) (fun g' e => ?_)⟩
  · unfold Outer
    rw [List.range_succ, List.map_append]
    simp only [List.map_cons, List.map_nil, upd_at]
    rw [List.map_congr_left (g := VR) (fun i hi => upd_other VR v (by have := List.mem_range.1 hi; omega))]
    exact hown
  · have : g = g' := by simpa [Value.ownBlock] using e
    subst this
    exact ⟨cs, _, hc, by decide⟩
  · have : g = g' := by simpa [Value.ownBlock] using e
    subst this
    exact hB2
end Go.Proofs.Ytoappopbjnlbdab
