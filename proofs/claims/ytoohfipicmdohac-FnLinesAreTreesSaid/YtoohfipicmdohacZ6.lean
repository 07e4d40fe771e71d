/-
  The model's table of a tree: rows that grow in turn.
  Conditions: the roads are a tree.
  The model's table of a tree, walked.
  Conditions: the roads are a tree.
  TreeTable: the program's table is the model's.
  Conditions: fewer than 2^60 roads.
  Words for slices of streets: three cells an element, From, To and Long; what a valid net is.
  Conditions: none beyond what each theorem states.
  Shortest ways: a table that no street shortens, each entry of which is the length of some way, is the only one; trees have one.
  Conditions: as each theorem states.
  Nets: the table of shortest ways by streets; making it shorter street by street comes to an end.
  Conditions: as each theorem states.
-/
import Derived.Test.YtoohfipicmdohacZ2
import Derived.Test.YtoohfipicmdohacZ4
import Derived.Test.YtoohfipicmdohacZ3
import Derived.Test.YtoohfipicmdohacZ5
import Derived.Test.YtoohfipicmdohacZ0
import Derived.Test.YtoohfipicmdohacZ1
namespace Go.Proofs.Ytoohfipicmdohac
open Go.ChangeShapes Go.WideShapes Go.ChangeAt Go.RowKit
set_option linter.unusedVariables false
set_option maxRecDepth 4000

def rowN (t : List (Int × Int)) (n j : Nat) : List Int := (List.range n).map fun k => dn t n j k
theorem rowN_len (t : List (Int × Int)) (n j : Nat) : (rowN t n j).length = n := by simp [rowN]
theorem rowN_get (t : List (Int × Int)) {n j k : Nat} (hk : k < n) : (rowN t n j).getD k 0 = dn t n j k := by simp [rowN, List.getD, hk]
theorem rowN_step (t : List (Int × Int)) {n j : Nat} (hj : j < n) : rowN t (n + 1) j = rowN t n j ++ [dn t (n + 1) j n] := by
  unfold rowN
  rw [List.range_succ, List.map_append]
  congr 1
  exact List.map_congr_left fun k hk => dn_old hj (List.mem_range.1 hk)
/-- The rows in the inner loop: those below k have grown, the last one grows. -/
def lsK (t : List (Int × Int)) (i k : Nat) : Nat → List Int := fun j => if j = i then (List.range k).map (fun k => dn t (i + 1) i k) else if j < k then rowN t (i + 1) j else rowN t i j
theorem lsK_get {t : List (Int × Int)} {i k p : Nat} (hp : p < i) (hk : k < i) : (lsK t i k p).getD k 0 = dn t i p k ∧ k < (lsK t i k p).length := by
  unfold lsK
  rw [if_neg (by omega)]
  split
  · rw [rowN_get t (by omega), rowN_len]; exact ⟨dn_old hp hk, by omega⟩
  · rw [rowN_get t (by omega), rowN_len]; exact ⟨rfl, hk⟩
theorem lsK_step {t : List (Int × Int)} {i k : Nat} (hk : k < i) : ∀ j, upd (upd (lsK t i k) i (lsK t i k i ++ [dn t (i + 1) i k])) k (upd (lsK t i k) i (lsK t i k i ++ [dn t (i + 1) i k]) k ++ [dn t (i + 1) i k]) j = lsK t i (k + 1) j := by
  intro j
  have e1 : upd (lsK t i k) i (lsK t i k i ++ [dn t (i + 1) i k]) k = rowN t i k := by
    rw [upd_other _ _ (by omega)]
    unfold lsK
    rw [if_neg (by omega), if_neg (by omega)]
  rw [e1]
  by_cases ek : j = k
  · subst ek
    rw [upd_at]
    unfold lsK
    rw [if_neg (by omega), if_pos (by omega), rowN_step t hk, dn_symm t (i + 1) i j]
  · rw [upd_other _ _ ek]
    by_cases ei : j = i
    · subst ei
      rw [upd_at]
      unfold lsK
      rw [if_pos rfl, if_pos rfl, List.range_succ, List.map_append]; rfl
    · rw [upd_other _ _ ei]
      unfold lsK
      rw [if_neg ei, if_neg ei]
      by_cases h : j < k
      · rw [if_pos h, if_pos (by omega)]
      · rw [if_neg h, if_neg (by omega)]
theorem lsK_end {t : List (Int × Int)} {i : Nat} : ∀ j, j < i + 1 → upd (lsK t i i) i (lsK t i i i ++ [0]) j = rowN t (i + 1) j := by
  intro j hj
  by_cases e : j = i
  · subst e
    rw [upd_at]
    unfold lsK rowN
    rw [if_pos rfl, List.range_succ, List.map_append]
    simp only [List.map_cons, List.map_nil]
    rw [dn_diag t (j + 1) j (by omega)]
  · rw [upd_other _ _ e]
    unfold lsK
    rw [if_neg e, if_pos (by omega)]
theorem lsK_start {t : List (Int × Int)} {i : Nat} : ∀ j, j < i + 1 → upd (rowN t i) i [] j = lsK t i 0 j := by
  intro j hj
  by_cases e : j = i
  · subst e; rw [upd_at]; unfold lsK; rw [if_pos rfl]; rfl
  · rw [upd_other _ _ e]; unfold lsK; rw [if_neg e, if_neg (by omega)]
/-- The table as it is handed back. -/
def Tabled (w : World) (t : List (Int × Int)) (e : Ending) (w' : World) : Prop :=
  ∃ v VR, e = .returned v ∧ Outer w' w.heap.size t.length v VR ∧ TT w' w.heap.size t.length VR (rowN t t.length) ∧ Below w.heap.size w w'
def TabRel (w : World) (t : List (Int × Int)) (v i : Value) (wr : World) : Prop :=
  ∃ k : Nat, ∃ VR g cA, k ≤ t.length ∧ i = .int .i64 k ∧ v = .slice (some ⟨g, 0, none⟩) k cA ∧ Outer wr w.heap.size k v VR ∧ TT wr w.heap.size k VR (rowN t k) ∧ Below w.heap.size w wr
def RowRel (w : World) (t : List (Int × Int)) (n : Nat) (g c : Nat) (r i : Value) (wr : World) : Prop :=
  ∃ k : Nat, ∃ VR, k ≤ n ∧ i = .int .i64 k ∧ r = VR n ∧ Outer wr w.heap.size n (.slice (some ⟨g, 0, none⟩) n c) VR ∧ TT wr w.heap.size (n + 1) VR (lsK t n k) ∧ Below w.heap.size w wr
/-- The new row has grown. -/
theorem tab_first {w wq w2 : World} {t : List (Int × Int)} {m k g cA g2 c2 : Nat} {VR : Nat → Value} {x : Int} {o : Obj} (hT : TT wq w.heap.size (m + 1) VR (lsK t m k)) (hO : Outer wq w.heap.size m (.slice (some ⟨g, 0, none⟩) m cA) VR) (hB : Below w.heap.size w wq) (hlk : k < m)
    (hown : w2.ownsRow w.heap.size 3 1 (.slice (some ⟨g2, 0, none⟩) (k + 1) c2) (k + 1) ((lsK t m k m).map (Value.int .i64) ++ [.int .i64 x])) (hg : (wq.alloc o).grownBy w2 (VR m).ownBlock) (hat : (VR m).ownBlock = some g2 ∨ g2 = (wq.alloc o).heap.size) :
    ∃ gk ck, TT w2 w.heap.size (m + 1) (upd VR m (.slice (some ⟨g2, 0, none⟩) (k + 1) c2)) (upd (lsK t m k) m (lsK t m k m ++ [x])) ∧ Outer w2 w.heap.size m (.slice (some ⟨g, 0, none⟩) m cA) VR ∧ Below w.heap.size w w2 ∧
      VR k = .slice (some ⟨gk, 0, none⟩) m ck ∧ w2.ownsRow w.heap.size 3 1 (.slice (some ⟨gk, 0, none⟩) m ck) m ((rowN t m k).map (Value.int .i64)) ∧ w2.cell? ⟨g, k, none⟩ = some (.slice (some ⟨gk, 0, none⟩) m ck) := by
  have hW := (Below.refl wq.heap.size wq).alloc (Nat.le_refl _) o
  have hlm : (lsK t m k m).length = k := by unfold lsK; rw [if_pos rfl]; simp
  have hT2 := hT.append (d := x) (by omega) hW hg hown (by rw [hlm]) hat
  have ho2 := hO.kept hT (r := m) (by omega) hW hg
  have hb2 := (hB.trans (hW.mono hB.size)).grown hg (by rw [size_alloc1]; have := hB.size; omega) (fun g h => (own_heap (hT.own m (by omega)) h).2.1)
  have hlk2 : upd (lsK t m k) m (lsK t m k m ++ [x]) k = rowN t m k := by
    rw [upd_other _ _ (by omega)]; unfold lsK; rw [if_neg (by omega), if_neg (by omega)]
  have hok := hT2.own k (by omega)
  obtain ⟨Ak, ck, hvk, hk3, hk4, hk5⟩ := own_sliceN hok
  rw [hlk2, rowN_len] at hvk hok hk3 hk5
  obtain ⟨gk, rfl, hgk1, hgk2⟩ := hk5 (by omega)
  rw [hvk] at hok
  rw [upd_other _ _ (by omega)] at hvk
  have cok := Outer.cell ho2 hlk
  rw [hvk] at cok
  exact ⟨gk, ck, hT2, ho2, hb2, hvk, hok, cok⟩
/-- The old row has grown too, and lies in the table again. -/
theorem tab_second {w w2 w3 : World} {t : List (Int × Int)} {m k g cA gk ck g3 c3 : Nat} {VR : Nat → Value} {v1 : Value} {x : Int} {o : Obj} (hT : TT w2 w.heap.size (m + 1) (upd VR m v1) (upd (lsK t m k) m (lsK t m k m ++ [x]))) (hO : Outer w2 w.heap.size m (.slice (some ⟨g, 0, none⟩) m cA) VR) (hB : Below w.heap.size w w2) (hlk : k < m)
    (hvk : VR k = .slice (some ⟨gk, 0, none⟩) m ck) (hx : dn t (m + 1) m k = x)
    (hown : w3.ownsRow w.heap.size 3 1 (.slice (some ⟨g3, 0, none⟩) (m + 1) c3) (m + 1) ((rowN t m k).map (Value.int .i64) ++ [.int .i64 x])) (hg : (w2.alloc o).grownBy w3 (Value.slice (some ⟨gk, 0, none⟩) m ck).ownBlock)
    (hat : (Value.slice (some ⟨gk, 0, none⟩) m ck).ownBlock = some g3 ∨ g3 = (w2.alloc o).heap.size) :
    ∃ v3 VR3, w3.cell? ⟨g, k, none⟩ = some v3 ∧ w3.frozen? ⟨g, k, none⟩ = false ∧ VR3 m = v1 ∧ Outer (w3.setCell ⟨g, k, none⟩ (.slice (some ⟨g3, 0, none⟩) (m + 1) c3)) w.heap.size m (.slice (some ⟨g, 0, none⟩) m cA) VR3 ∧
      TT (w3.setCell ⟨g, k, none⟩ (.slice (some ⟨g3, 0, none⟩) (m + 1) c3)) w.heap.size (m + 1) VR3 (lsK t m (k + 1)) ∧ Below w.heap.size w (w3.setCell ⟨g, k, none⟩ (.slice (some ⟨g3, 0, none⟩) (m + 1) c3)) := by
  have hW3 := (Below.refl w2.heap.size w2).alloc (Nat.le_refl _) o
  have hvk' : upd VR m v1 k = .slice (some ⟨gk, 0, none⟩) m ck := by rw [upd_other _ _ (by omega)]; exact hvk
  have hlk2 : upd (lsK t m k) m (lsK t m k m ++ [x]) k = rowN t m k := by
    rw [upd_other _ _ (by omega)]; unfold lsK; rw [if_neg (by omega), if_neg (by omega)]
  have hT3 := hT.append (d := x) (r := k) (by omega) hW3 (by rw [hvk']; exact hg) (by rw [hlk2]; exact hown) (by rw [hlk2, rowN_len]) (by rw [hvk']; exact hat)
  have ho3 := hO.kept hT (r := k) (by omega) hW3 (by rw [hvk']; exact hg)
  have hb3 := (hB.trans (hW3.mono hB.size)).grown hg (by rw [size_alloc1]; have := hB.size; omega) (fun g h => by
    have := hT.own k (by omega)
    rw [hvk'] at this
    exact (own_heap this h).2.1)
  obtain ⟨v3, hv3⟩ := own_cell ho3 (j := k) (by omega) (by simp)
  have hf3 := World.ownsRow.frozenAt ho3 k
  have hst := (ho3.stored (k := k) (v := .slice (some ⟨g3, 0, none⟩) (m + 1) c3) hlk).congr (VR' := upd (upd VR m v1) k (.slice (some ⟨g3, 0, none⟩) (m + 1) c3)) (fun j hj => by
    by_cases e : j = k
    · rw [e, upd_at, upd_at]
    · rw [upd_other _ _ e, upd_other _ _ e, upd_other _ _ (by omega)])
  obtain ⟨⟨csg3, hcg3⟩, hgB3, -⟩ := own_heap ho3 (g := g) rfl
  refine ⟨v3, _, hv3, hf3, ?_, hst, (hT3.store (g := g) (k := k) (v := .slice (some ⟨g3, 0, none⟩) (m + 1) c3) hcg3 (by decide)).congr (fun j _ => ?_), hb3.setCell (p := ⟨g, k, none⟩) hgB3 _⟩
  · rw [upd_other _ _ (by omega), upd_at]
  · rw [← hx]; exact lsK_step hlk j
/-- The new row is whole. -/
theorem tab_end1 {w wq w2 : World} {t : List (Int × Int)} {m g cA g2 c2 : Nat} {VR : Nat → Value} {o : Obj} (hT : TT wq w.heap.size (m + 1) VR (lsK t m m)) (hO : Outer wq w.heap.size m (.slice (some ⟨g, 0, none⟩) m cA) VR) (hB : Below w.heap.size w wq)
    (hown : w2.ownsRow w.heap.size 3 1 (.slice (some ⟨g2, 0, none⟩) (m + 1) c2) (m + 1) ((lsK t m m m).map (Value.int .i64) ++ [.int .i64 0])) (hg : (wq.alloc o).grownBy w2 (VR m).ownBlock) (hat : (VR m).ownBlock = some g2 ∨ g2 = (wq.alloc o).heap.size) :
    TT w2 w.heap.size (m + 1) (upd VR m (.slice (some ⟨g2, 0, none⟩) (m + 1) c2)) (rowN t (m + 1)) ∧ Outer w2 w.heap.size m (.slice (some ⟨g, 0, none⟩) m cA) VR ∧ Below w.heap.size w w2 := by
  have hW := (Below.refl wq.heap.size wq).alloc (Nat.le_refl _) o
  have hlm : (lsK t m m m).length = m := by unfold lsK; rw [if_pos rfl]; simp
  refine ⟨(hT.append (d := 0) (by omega) hW hg hown (by rw [hlm]) hat).congr (lsK_end (t := t)), hO.kept hT (r := m) (by omega) hW hg, (hB.trans (hW.mono hB.size)).grown hg (by rw [size_alloc1]; have := hB.size; omega) (fun g h => (own_heap (hT.own m (by omega)) h).2.1)⟩
/-- The new row lies in the table. -/
theorem tab_end2 {w w2 w3 : World} {t : List (Int × Int)} {m g cA g3 c3 : Nat} {VR : Nat → Value} {v : Value} {o : Obj} (hT : TT w2 w.heap.size (m + 1) (upd VR m v) (rowN t (m + 1))) (hO : Outer w2 w.heap.size m (.slice (some ⟨g, 0, none⟩) m cA) VR) (hB : Below w.heap.size w w2)
    (hown : w3.ownsRow w.heap.size 23 1 (.slice (some ⟨g3, 0, none⟩) (m + 1) c3) (m + 1) ((List.range m).map VR ++ [v])) (hg : (w2.alloc o).grownBy w3 (Value.slice (some ⟨g, 0, none⟩) m cA).ownBlock) :
    Outer w3 w.heap.size (m + 1) (.slice (some ⟨g3, 0, none⟩) (m + 1) c3) (upd VR m v) ∧ TT w3 w.heap.size (m + 1) (upd VR m v) (rowN t (m + 1)) ∧ Below w.heap.size w w3 := by
  have hW := (Below.refl w2.heap.size w2).alloc (Nat.le_refl _) o
  obtain ⟨⟨cs, hc⟩, hB2, _⟩ := own_heap (ownN_below hO hW) (g := g) rfl
  refine ⟨?_, (hT.below hW).keptBy hg (fun g' e => ?_), (hB.trans (hW.mono hB.size)).grown hg (by rw [size_alloc1]; have := hB.size; omega) (fun g' e => ?_)⟩
  · unfold Outer
    rw [List.range_succ, List.map_append]
    simp only [List.map_cons, List.map_nil, upd_at]
    rw [List.map_congr_left (g := VR) (fun i hi => upd_other VR v (by have := List.mem_range.1 hi; omega))]
    exact hown
  · have : g = g' := by simpa [Value.ownBlock] using e
    subst this
    exact ⟨cs, _, hc, by decide⟩
  · have : g = g' := by simpa [Value.ownBlock] using e
    subst this
    exact hB2
end Go.Proofs.Ytoohfipicmdohac
namespace Go.Proofs.Ytoohfipicmdohac
open Go.ChangeShapes Go.WideShapes Go.ChangeAt Go.RowKit
set_option linter.unusedVariables false
set_option maxRecDepth 4000

set_option maxHeartbeats 1600000 in
theorem treeTable_any (A : Option Addr) (c n : Nat) (t : List (Int × Int)) (w : World) (hr : RdR w w.heap.size A t) (hn : t.length = n) (hv : vt t = true) :
    Calls Try.prog 55 #[.slice A n c] w (Tabled w t) := by
  obtain ⟨ii, hii, hzi0, hzi1, hzi2⟩ := info_parts intInfo
  obtain ⟨is, his, hzs0, hzs1, hzs2⟩ := info_parts slInfo2
  obtain ⟨h1, h7, -⟩ := (vt_iff t).1 hv
  have Hn := Lib.hid hn
  have Hv := Lib.hid hv
  have ha := Lib.hid (vt_ahead hv)
  rw [hn] at h1 h7
  clear hn hv
  have hb0 := (Below.refl w.heap.size w).alloc (Nat.le_refl _) (.cells #[] 23)
  have ho0 : Outer (w.alloc (.cells #[] 23)) w.heap.size 0 (.slice (some ⟨w.heap.size, 0, none⟩) 0 0) (fun _ => .nilIface) := World.ownsRow_lit w #[] 0 (Nat.le_refl _) (by decide) rfl
  have ht0 : TT (w.alloc (.cells #[] 23)) w.heap.size 0 (fun _ => .nilIface) (rowN t 0) := ⟨fun j hj => by omega, fun i j g hi => by omega⟩
  have HB0 := Lib.hid hb0
  have HO0 := Lib.hid ho0
  have HT0 := Lib.hid ht0
  clear hb0 ho0 ht0
  go_enter Try.func55, Try.ntmps55
  go_wp2
  go_loopw [3, 4] (fun v i wr => TabRel w t v i wr) (fun _ i _ => n - (intOf i).toNat)
  case atStart => exact ⟨0, _, _, _, Nat.zero_le _, rfl, rfl, HO0.out, HT0.out, HB0.out⟩
  case round =>
    clear HO0 HT0 HB0
    obtain ⟨m, VR, g, cA, hm, rfl, rfl, ho, hT, hnx⟩ := hrel
    rw [Hn.out] at hm
    by_cases hlt : m < n
    · have hg0 := (own_heap ho (g := g) rfl)
      have hb1 := hnx.alloc hnx.size (.cells #[] 3)
      have hT1 := (hT.add hnx.size).congr (lsK_start (t := t))
      have ho1 := Outer.congr (VR' := upd VR m (.slice (some ⟨wr.heap.size, 0, none⟩) 0 0)) (ownN_below ho ((Below.refl _ _).alloc (Nat.le_refl _) (.cells #[] 3))) (fun j hj => by rw [upd_other _ _ (by omega)])
      have HB1 := Lib.hid hb1
      have HT1 := Lib.hid hT1
      have HO1 := Lib.hid ho1
      clear hb1 hT1 ho1 ho hT hnx hg0
      go_wp2
      go_loopw [5, 6] (fun r i wr => RowRel w t m g cA r i wr) (fun _ i _ => m - (intOf i).toNat)
      case atStart => exact ⟨0, _, Nat.zero_le _, rfl, (upd_at _ _ _).symm, HO1.out, HT1.out, HB1.out⟩
      case round =>
        clear HO1 HT1 HB1
        obtain ⟨k, VR', hk, rfl, rfl, ho, hT, hnx⟩ := hrel
        by_cases hlk : k < m
        · obtain ⟨b, off, x, y, rfl, -, Hx, hcx, hcy⟩ := (hr.below hnx).x (k := m) (by rw [Hn.out]; exact hlt)
          have hx := vt_to Hv.out (i := m) (by omega) (by rw [Hn.out]; exact hlt)
          obtain ⟨hp, hy1, hy9⟩ := ha.out m (by omega) (by rw [Hn.out]; exact hlt)
          have hy : tlg t m = y := by unfold tlg; rw [Hx.out]
          rw [Hx.out] at hx
          simp only at hx
          subst hx
          rw [hy] at hy1 hy9
          obtain ⟨p, Hp⟩ : ∃ p, Hid (tto t m = p) := ⟨_, rfl⟩
          rw [Hp.out] at hp hcx
          obtain ⟨hd1, hd2⟩ := lsK_get (t := t) hp hlk
          obtain ⟨gp, cp, hvp, hcp⟩ := hT.cells (j := p) (k := k) (by omega) hd2
          have hop := Outer.cell ho hp
          rw [hvp] at hop
          rw [hd1] at hcp
          obtain ⟨lp, Hlp⟩ : ∃ lp, Hid ((lsK t m k p).length = lp) := ⟨_, rfl⟩
          rw [Hlp.out] at hop hd2
          obtain ⟨d, Hd⟩ : ∃ d, Hid (dn t m p k = d) := ⟨_, rfl⟩
          rw [Hd.out] at hcp
          have hdb := dn_bd ha.out m p k (by rw [Hn.out]; omega) hp hlk
          rw [Hd.out] at hdb
          have hdd : dn t (m + 1) m k = d + y := by rw [dn_new hlk, Hp.out, Hd.out, hy]
          have HDD := Lib.hid hdd
          have w1 : IntKind.i64.wrap (d + y) = d + y := IntWalk.i64_in _ (by omega)
          have HO := Lib.hid ho
          have HT := Lib.hid hT
          have HB := Lib.hid hnx
          clear ho hT hnx hdd hd1 hvp
          go_wp2
          go_quiet (fail)
          clear hop hcp hcx hcy w1
          have hT0 := HT.out.drewN nq
          have ho0 := HO.out.drewN nq
          have hb0 := below_drewN HB.out nq
          generalize wr.drewN nq = wq at hT0 ho0 hb0 ⊢
          have HT := Lib.hid hT0
          have HO := Lib.hid ho0
          have HB := Lib.hid hb0
          clear hT0 ho0 hb0
          have hlm : (lsK t m k m).length = k := by unfold lsK; rw [if_pos rfl]; simp
          have hom := HT.out.own m (by omega)
          rw [hlm] at hom
          have Hom := Lib.hid hom
          have Hlm := Lib.hid hlm
          have hk1 : k + 1 ≤ maxLen := by unfold maxLen; omega
          have hk2 : (k + 1) * 8 ≤ 140737488355328 := by omega
          have hsz : ∀ o, w.heap.size ≤ (wq.alloc o).heap.size := fun o => by rw [size_alloc1]; have := HB.out.size; omega
          clear hom hlm
          have hm1 : m + 1 ≤ maxLen := by unfold maxLen; omega
          have hm2 : (m + 1) * 8 ≤ 140737488355328 := by omega
          have hs8 : ∀ (w' : World) o, Below w.heap.size w w' → w.heap.size ≤ (w'.alloc o).heap.size := fun w' o h => by rw [size_alloc1]; have := h.size; omega
          have Hs8 := Lib.hid hs8
          have h1c : ∀ u ∈ [Value.int .i64 (d + y)], u.oneCell' = true := by intro u hu; simp at hu; subst hu; rfl
          have H1c := Lib.hid h1c
          clear hs8 hsz h1c
          go_wp2_with (
            first
            | (
              at_builtin
              refine wpList_append_lies _ rfl _ _ 23 rfl w.heap.size 3 ii _ 1 8 Try.underlying23 hii hzi0 hzi1 hzi2 rfl (by decide) _ _ _ rfl (Hom.out.alloc _) ⟨wq.heap.size, 0, none⟩ 1 1 [.int .i64 (d + y)] rfl rfl (cell_one_new _ _ _) H1c.out (by decide) hk1 hk2 (Hs8.out _ _ HB.out) _ rfl ?_
              intro g2 c2 w2 hown2 hgrow2 hat2 hlt2
              obtain ⟨gk, ck, hT2, ho2, hb2, hvk, hok, cok⟩ := tab_first HT.out HO.out HB.out hlk hown2 hgrow2 hat2
              have HT2 := Lib.hid hT2
              have HO2 := Lib.hid ho2
              have HB2 := Lib.hid hb2
              have Hok := Lib.hid hok
              have Hvk := Lib.hid hvk
              clear hown2 hgrow2 hat2 hlt2 hT2 ho2 hb2 hok hvk)
            | (
              at_builtin
              refine wpList_append_lies _ rfl _ _ 23 rfl w.heap.size 3 ii _ 1 8 Try.underlying23 hii hzi0 hzi1 hzi2 rfl (by decide) _ _ _ rfl (Hok.out.alloc _) ⟨w2.heap.size, 0, none⟩ 1 1 [.int .i64 (d + y)] rfl rfl (cell_one_new _ _ _) H1c.out (by decide) hm1 hm2 (Hs8.out _ _ HB2.out) _ rfl ?_
              intro g3 c3 w3 hown3 hgrow3 hat3 hlt3
              obtain ⟨v3, VR3, hv3, hf3, hm3, hst, hT4, hb4⟩ := tab_second HT2.out HO2.out HB2.out hlk Hvk.out HDD.out hown3 hgrow3 hat3
              have HST := Lib.hid hst
              have HT4 := Lib.hid hT4
              have HB4 := Lib.hid hb4
              have Hm3 := Lib.hid hm3
              clear hown3 hgrow3 hat3 hlt3 hst hT4 hb4 hm3))
          go_roundw
          case rel => exact ⟨k + 1, VR3, by omega, by go_num, Hm3.out.symm, HST.out, HT4.out, HB4.out⟩
          case measure => simp [intOf]; omega
        · have hkm : k = m := by omega
          subst hkm
          have hlm : (lsK t k k k).length = k := by unfold lsK; rw [if_pos rfl]; simp
          have hom := hT.own k (by omega)
          rw [hlm] at hom
          have Hom := Lib.hid hom
          have HT := Lib.hid hT
          have HO := Lib.hid ho
          have HB := Lib.hid hnx
          have hm1 : k + 1 ≤ maxLen := by unfold maxLen; omega
          have hm2 : (k + 1) * 8 ≤ 140737488355328 := by omega
          have hm3 : (k + 1) * 24 ≤ 140737488355328 := by omega
          have hs8 : ∀ (w' : World) o, Below w.heap.size w w' → w.heap.size ≤ (w'.alloc o).heap.size := fun w' o h => by rw [size_alloc1]; have := h.size; omega
          have Hs8 := Lib.hid hs8
          have h1c : ∀ u ∈ [Value.int .i64 0], u.oneCell' = true := by intro u hu; simp at hu; subst hu; rfl
          have H1c := Lib.hid h1c
          have h1s : ∀ a b c, ∀ u ∈ [Value.slice a b c], u.oneCell' = true := by intro a b c u hu; simp at hu; subst hu; rfl
          have H1s := Lib.hid h1s
          clear hs8 h1c h1s hom hlm hT ho hnx
          rename_i wz _
          go_wp2_with (
            first
            | (
              at_builtin
              refine wpList_append_lies _ rfl _ _ 23 rfl w.heap.size 3 ii _ 1 8 Try.underlying23 hii hzi0 hzi1 hzi2 rfl (by decide) _ _ _ rfl (Hom.out.alloc _) ⟨_, 0, none⟩ 1 1 [.int .i64 0] rfl rfl (cell_one_new _ _ _) H1c.out (by decide) hm1 hm2 (Hs8.out _ _ HB.out) _ rfl ?_
              intro g2 c2 w2 hown2 hgrow2 hat2 hlt2
              obtain ⟨hT2, ho2, hb2⟩ := tab_end1 HT.out HO.out HB.out hown2 hgrow2 hat2
              have HT2 := Lib.hid hT2
              have HO2 := Lib.hid ho2
              have HB2 := Lib.hid hb2
              clear hown2 hgrow2 hat2 hlt2 hT2 ho2 hb2)
            | (
              at_builtin
              refine wpList_append_lies _ rfl _ _ 40 rfl w.heap.size 23 is _ 1 24 Try.underlying40 his hzs0 hzs1 hzs2 rfl (by decide) _ _ _ rfl (World.ownsRow.alloc HO2.out _) ⟨w2.heap.size, 0, none⟩ 1 1 [.slice (some ⟨g2, 0, none⟩) (k + 1) c2] rfl rfl (cell_one_new _ _ _) (H1s.out _ _ _) (by decide) hm1 hm3 (Hs8.out _ _ HB2.out) _ rfl ?_
              intro g3 c3 w3 hown3 hgrow3 hat3 hlt3
              obtain ⟨ho3, hT3, hb3⟩ := tab_end2 HT2.out HO2.out HB2.out hown3 hgrow3
              have HT3 := Lib.hid hT3
              have HO3 := Lib.hid ho3
              have HB3 := Lib.hid hb3
              clear hown3 hgrow3 hat3 hlt3 hT3 ho3 hb3))
          go_roundw
          case rel => exact ⟨k + 1, _, _, _, by rw [Hn.out]; omega, by go_num, rfl, HO3.out, HT3.out, HB3.out⟩
          case measure => simp [intOf]; omega
    · have hmn : m = n := by omega
      subst hmn
      have HO := Lib.hid ho
      have HT := Lib.hid hT
      clear ho hT
      go_wp2
      go_ret
      exact ⟨_, VR, rfl, by rw [Hn.out]; exact HO.out, by rw [Hn.out]; exact HT.out, hnx⟩
end Go.Proofs.Ytoohfipicmdohac
namespace Go.Proofs.Ytoohfipicmdohac
open Go.ChangeShapes Go.WideShapes Go.ChangeAt Go.RowKit
set_option linter.unusedVariables false
set_option maxRecDepth 4000

/-- What a table's call answers: nil for what is no tree, else the rows. -/
def TabAns (w : World) (t : List (Int × Int)) (e : Ending) (w' : World) : Prop :=
  (vt t = false ∧ e = .returned (.slice none 0 0) ∧ Below w.heap.size w w') ∨ (vt t = true ∧ Tabled w t e w')
theorem sTreeTable_any (A : Option Addr) (c n : Nat) (ts : List (Int × Int)) (w : World) (hr : RdR w w.heap.size A ts) (hn : ts.length = n) (hb : n ≤ 1152921504606846976) :
    Calls Try.prog 29 #[.slice A n c] w (TabAns w ts) := by
  by_cases hv : vt ts = true
  · have H1 := Lib.hid (sValidTree_in A c n ts w _ hr hn hb)
    have Ht := Lib.hid (treeTable_any A c n ts w hr hn hv)
    rw [hv] at H1
    have Hv := Lib.hid hv
    clear hv hr hn
    go_enter Try.func29, Try.ntmps29
    go_wp2_with fail
    refine H1.out.mono ?_
    rintro e w' ⟨rfl, rfl⟩
    go_wp2_with fail
    refine Ht.out.mono ?_
    rintro e w1 ⟨v, VR, rfl, hO, hT, hnx1⟩
    have HO := Lib.hid hO
    have HT := Lib.hid hT
    have HB := Lib.hid hnx1
    clear hO hT hnx1
    go_wp2
    go_ret
    exact .inr ⟨Hv.out, v, VR, rfl, HO.out, HT.out, HB.out⟩
  · have hv' : vt ts = false := by simpa using hv
    have H1 := Lib.hid (sValidTree_in A c n ts w _ hr hn hb)
    rw [hv'] at H1
    have Hv := Lib.hid hv'
    clear hv hv' hr hn
    go_enter Try.func29, Try.ntmps29
    go_wp2_with fail
    refine H1.out.mono ?_
    rintro e w' ⟨rfl, rfl⟩
    go_wp2
    go_ret
    exact .inl ⟨Hv.out, rfl, Below.refl _ _⟩
/-- What the loop over the nodes keeps: the rows so far, the rest of the table nil. -/
def TabRel2 (w w3 : World) (t : List (Int × Int)) (n g : Nat) (i : Value) (wr : World) : Prop :=
  ∃ k : Nat, ∃ VR, k ≤ n ∧ i = .int .i64 k ∧ wr.ownsRow w.heap.size 23 1 (.slice (some ⟨g, 0, none⟩) n n) n (half VR k n) ∧ TT wr w.heap.size k VR (rowN t n) ∧ Below w3.heap.size w3 wr
/-- One row more. -/
theorem tab2_step {w wr wC : World} {t : List (Int × Int)} {n k g R : Nat} {VR : Nat → Value} (hk : k < n) (hn7 : n ≤ 7) (hT : TT wr w.heap.size k VR (rowN t n)) (hO : wr.ownsRow w.heap.size 23 1 (.slice (some ⟨g, 0, none⟩) n n) n (half VR k n))
    (hb : Below wr.heap.size wr wC) (hR : wr.heap.size ≤ R) (hw : w.heap.size ≤ wr.heap.size) (hrow : wC.heap[R]? = some (.cells (((List.range n).map fun j => dn t n k j).map (Value.int .i64)).toArray 3 (0, 0))) :
    ∃ v, wC.cell? ⟨g, k, none⟩ = some v ∧ wC.frozen? ⟨g, k, none⟩ = false ∧ (wC.setCell ⟨g, k, none⟩ (.slice (some ⟨R, 0, none⟩) n n)).ownsRow w.heap.size 23 1 (.slice (some ⟨g, 0, none⟩) n n) n (half (upd VR k (.slice (some ⟨R, 0, none⟩) n n)) (k + 1) n) ∧
      TT (wC.setCell ⟨g, k, none⟩ (.slice (some ⟨R, 0, none⟩) n n)) w.heap.size (k + 1) (upd VR k (.slice (some ⟨R, 0, none⟩) n n)) (rowN t n) ∧ w.heap.size ≤ g := by
  have hOC := ownN_below hO hb
  have hTC := hT.below hb
  obtain ⟨v, hv⟩ := own_cell hOC (j := k) (by omega) (by simp [half])
  obtain ⟨⟨cs, hc⟩, hgB, _⟩ := own_heap hOC (g := g) rfl
  have hgR : g ≠ R := types_apart hc hrow (by decide)
  have hst := (hOC.stored k (.slice (some ⟨R, 0, none⟩) n n)).1
  rw [half_get hk] at hst
  refine ⟨v, hv, hOC.frozenAt k, hst, ⟨fun j hj => ?_, fun i j g' hi hj h1 h2 => ?_⟩, hgB⟩
  · by_cases e : j = k
    · subst e
      rw [upd_at, rowN_len]
      refine ⟨by simp [rowN], .inr ⟨R, n, _, rfl, by omega, (Below.heap_setCell wC _ _ R (fun e => hgR e.symm)).trans hrow, Nat.le_refl _, by unfold maxLen; omega, by simp, ?_⟩⟩
      simp only [rowN, Nat.mul_one]
      exact List.take_of_length_le (by simp)
    · rw [upd_other _ _ e]
      exact (hTC.store (g := g) (k := k) (v := .slice (some ⟨R, 0, none⟩) n n) hc (by decide)).own j (by omega)
  · have hlt : ∀ {i}, i < k → (VR i).ownBlock = some g' → g' < wr.heap.size := fun hi e => (own_heap (hT.own _ hi) e).2.2
    by_cases e1 : i = k <;> by_cases e2 : j = k
    · omega
    · rw [e1, upd_at] at h1; rw [upd_other _ _ e2] at h2
      have : R = g' := by simpa [Value.ownBlock] using h1
      have := hlt (by omega) h2; omega
    · rw [e2, upd_at] at h2; rw [upd_other _ _ e1] at h1
      have : R = g' := by simpa [Value.ownBlock] using h2
      have := hlt (by omega) h1; omega
    · rw [upd_other _ _ e1] at h1; rw [upd_other _ _ e2] at h2
      exact hT.dis i j g' (by omega) (by omega) h1 h2

set_option maxHeartbeats 1600000 in
theorem iTreeTable_any (A : Option Addr) (c n : Nat) (ts : List (Int × Int)) (w : World) (hr : RdR w w.heap.size A ts) (hn : ts.length = n) (hc : n ≤ c) (hb : n ≤ 1152921504606846976) :
    Calls Try.prog 23 #[.slice A n c] w (TabAns w ts) := by
  obtain ⟨ii, hii, hzi0, hzi1, hzi2⟩ := info_parts intInfo
  obtain ⟨is, his, hzs0, hzs1, hzs2⟩ := info_parts slInfo2
  by_cases hv : vt ts = true
  · obtain ⟨h1, h7, -⟩ := (vt_iff ts).1 hv
    rw [hn] at h1 h7
    have H1 := Lib.hid (iValidTree_is A c n ts w _ hr hn hc hb (Nat.le_refl _) hv)
    have Hv := Lib.hid hv
    have Hn := Lib.hid hn
    have Hr := Lib.hid hr
    clear hv hr hn
    go_enter Try.func23, Try.ntmps23
    go_wp2_with fail
    refine H1.out.mono ?_
    rintro e w2 ⟨rfl, hnx2⟩
    have Hl := Lib.hid (linked_any A c n ts w2 ((Hr.out.below hnx2).more hnx2.size) Hn.out hc Hv.out)
    have HB2 := Lib.hid hnx2
    clear hnx2
    go_wp2_with fail
    refine Hl.out.mono ?_
    rintro e w3 ⟨v, P, RV, rfl, hlk, hown, hnx3⟩
    rw [Hn.out] at hlk hown
    obtain ⟨A', c', rfl, -, -, hA⟩ := own_sliceN hown
    obtain ⟨gn, rfl, -, -⟩ := hA (by omega)
    have hb3 := HB2.out.trans (hnx3.mono HB2.out.size)
    have HLK := Lib.hid hlk
    have HON := Lib.hid hown
    have HB3 := Lib.hid hb3
    clear hlk hown hnx3 hA hb3
    have hbi : is.bytes * n ≤ 281474976710656 := by rw [hzs2]; omega
    have hml : n ≤ maxLen := by unfold maxLen; omega
    go_wp2_with (at_make; refine wpList_make_full _ rfl _ _ 40 rfl w.heap.size 23 is _ 1 Try.underlying40 his hzs0 hzs1 _ _ _ _ n rfl rfl rfl rfl hbi hml HB3.out.size ?_; intro w4 hown4 hg4)
    have hb4 : Below w3.heap.size w3 w4 := (Below.refl _ _).grown hg4 (Nat.le_refl _) (fun j hj => by cases hj)
    have ho4 : w4.ownsRow w.heap.size 23 1 (.slice (some ⟨w3.heap.size, 0, none⟩) n n) n (half (fun _ => .slice none 0 0) 0 n) := by
      rw [Nat.mul_one] at hown4
      have e : (madeCells (Value.slice none 0 0).cells n).toList = half (fun _ => .slice none 0 0) 0 n := by
        rw [show (Value.slice none 0 0).cells = #[Value.slice none 0 0] from rfl, toList_madeCells_one]
        unfold half
        apply List.ext_getElem?
        intro i
        by_cases hi : i < n <;> simp [hi]
      rw [← e]; exact hown4
    have hbm : ii.bytes * n ≤ 281474976710656 := by rw [hzi2]; omega
    obtain ⟨G, HG⟩ : ∃ G, Hid (w3.heap.size = G) := ⟨_, rfl⟩
    rw [HG.out]
    rw [HG.out] at ho4
    have HO4 := Lib.hid ho4
    have HB4 := Lib.hid hb4
    clear hown4 hg4 ho4 hb4
    go_loopw [18] (fun i wr => TabRel2 w w3 ts n G i wr) (fun i _ => n - (intOf i).toNat)
    case atStart => exact ⟨0, fun _ => .slice none 0 0, Nat.zero_le _, rfl, HO4.out, ⟨fun j hj => by omega, fun i j g hi => by omega⟩, HB4.out⟩
    case round =>
      clear HO4 HB4
      obtain ⟨k, VR, hk, rfl, hO, hT, hnx⟩ := hrel
      by_cases hlt : k < n
      · have cn : wr.cell? ⟨gn, k, none⟩ = some (.pointer (some ⟨P k, 0, none⟩)) := by
          rw [hnx.cell (p := ⟨gn, k, none⟩) (own_heap HON.out (g := gn) rfl).2.2, HON.out.cellAt k (by omega)]
          simp [ptrs, ptr, hlt]
        have hwsz : w.heap.size ≤ wr.heap.size := Nat.le_trans HB3.out.size hnx.size
        have HO := Lib.hid hO
        have HT := Lib.hid hT
        have HB := Lib.hid hnx
        clear hO hT hnx
        go_wp2_with (at_make; refine wpList_make_full _ rfl _ _ 23 rfl wr.heap.size 3 ii _ 1 Try.underlying23 hii hzi0 hzi1 _ _ _ _ n rfl rfl rfl rfl hbm hml (Nat.le_refl _) ?_; intro wA hownA hgA)
        have hbA : Below wr.heap.size wr wA := (Below.refl _ _).grown hgA (Nat.le_refl _) (fun j hj => by cases hj)
        have hzero : (madeCells (Value.int .i64 0).cells (n * 1)).toList = (List.replicate n (0 : Int)).map (Value.int .i64) := by
          rw [made_ints]; simp
        rw [hzero] at hownA
        have hAb := own_blockN hownA
        have hRA := (own_heap hownA (g := wr.heap.size) rfl).2.2
        have hbB := (Below.refl wA.heap.size wA).alloc (Nat.le_refl _) (.cells #[.slice (some ⟨wr.heap.size, 0, none⟩) n n] 23)
        have hb3B := (HB.out.trans (hbA.mono HB.out.size)).trans (hbB.mono (Nat.le_trans HB.out.size hbA.size))
        have hcall := treeRow_walk (w4 := wA.alloc (.cells #[.slice (some ⟨wr.heap.size, 0, none⟩) n n] 23)) (R := wr.heap.size) (rb := wA.heap.size) (vt_ahead Hv.out) Hn.out h7 hlt (HLK.out.below hb3B) ((heap_alloc_old wA _ hRA).trans hAb) (Nat.ne_of_gt hRA)
          (by rw [cell_of_row _ _ _ _ _ _ (heap_alloc_new wA _)]; rfl)
        have Hcall := Lib.hid hcall
        have HbA := Lib.hid hbA
        have HbB := Lib.hid hbB
        have HRA := Lib.hid hRA
        clear hbA hzero hownA hAb hRA hbB hb3B hcall hgA
        go_wp2_with fail
        refine Hcall.out.mono ?_
        rintro e wC ⟨rfl, hrow, hgC⟩
        have hbC : Below wr.heap.size wr wC := (HbA.out.trans (HbB.out.mono HbA.out.size)).grown hgC (Nat.le_trans HbA.out.size HbB.out.size) (fun j hj => by injection hj with hj; omega)
        have crb : wC.cell? ⟨wA.heap.size, 0, none⟩ = some (.slice (some ⟨wr.heap.size, 0, none⟩) n n) := by
          rw [cell_of_row _ _ _ _ _ _ (grown_node hgC (heap_alloc_new wA _) (fun e => by injection e with e; have := HRA.out; omega))]; rfl
        obtain ⟨vg, hvg, hfg, hst, hTT, hgB⟩ := tab2_step hlt h7 HT.out HO.out hbC (Nat.le_refl _) hwsz hrow
        have hgw : w3.heap.size ≤ G := Nat.le_of_eq HG.out
        have hb5 := (HB.out.trans (hbC.mono HB.out.size)).setCell (p := ⟨G, k, none⟩) hgw (.slice (some ⟨wr.heap.size, 0, none⟩) n n)
        have HST := Lib.hid hst
        have HTT := Lib.hid hTT
        have HB5 := Lib.hid hb5
        clear hst hTT hb5 hbC hrow hgC cn
        go_wp2
        go_roundw
        case rel => exact ⟨k + 1, _, by omega, by go_num, HST.out, HTT.out, HB5.out⟩
        case measure => simp [intOf]; omega
      · have hkn : k = n := by omega
        subst hkn
        have HO := Lib.hid hO
        have HT := Lib.hid hT
        clear hO hT
        go_wp2
        go_ret
        refine .inr ⟨Hv.out, _, VR, rfl, ?_, by rw [Hn.out]; exact HT.out, HB3.out.trans (hnx.mono HB3.out.size)⟩
        rw [Hn.out]
        have := HO.out
        unfold Outer
        have e : half VR k k = (List.range k).map VR := List.map_congr_left fun i hi => if_pos (List.mem_range.1 hi)
        rw [← e]; exact this
  · have hv' : vt ts = false := by simpa using hv
    have H1 := Lib.hid (iValidTree_is A c n ts w _ hr hn hc hb (Nat.le_refl _) hv')
    have Hv := Lib.hid hv'
    clear hv hv' hr hn
    go_enter Try.func23, Try.ntmps23
    go_wp2_with fail
    refine H1.out.mono ?_
    rintro e w2 ⟨rfl, hnx2⟩
    have HB2 := Lib.hid hnx2
    clear hnx2
    go_wp2
    go_ret
    exact .inl ⟨Hv.out, rfl, HB2.out⟩
end Go.Proofs.Ytoohfipicmdohac
namespace Go.Proofs.Ytoohfipicmdohac
open Go.ChangeShapes Go.WideShapes Go.ChangeAt Go.RowKit
set_option linter.unusedVariables false

abbrev Str := Int × Int × Int
abbrev str0 : Str := (0, 0, 0)
/-- The streets as the cells hold them. -/
def flat3 : List Str → List Int
  | [] => []
  | p :: r => p.1 :: p.2.1 :: p.2.2 :: flat3 r
theorem flat3_len : ∀ ss, (flat3 ss).length = ss.length * 3
  | [] => rfl
  | p :: r => by simp only [flat3, List.length_cons, flat3_len r]; omega
theorem flat3_0 : ∀ (ss : List Str) k, k < ss.length → (flat3 ss).getD (k * 3) 0 = (ss.getD k str0).1
  | [], k, h => by simp at h
  | p :: r, 0, h => rfl
  | p :: r, k + 1, h => by
    rw [show (k + 1) * 3 = k * 3 + 1 + 1 + 1 by omega]
    simp only [flat3, List.getD_cons_succ]
    exact flat3_0 r k (by simpa using h)
theorem flat3_1 : ∀ (ss : List Str) k, k < ss.length → (flat3 ss).getD (k * 3 + 1) 0 = (ss.getD k str0).2.1
  | [], k, h => by simp at h
  | p :: r, 0, h => rfl
  | p :: r, k + 1, h => by
    rw [show (k + 1) * 3 + 1 = k * 3 + 1 + 1 + 1 + 1 by omega]
    simp only [flat3, List.getD_cons_succ]
    exact flat3_1 r k (by simpa using h)
theorem flat3_2 : ∀ (ss : List Str) k, k < ss.length → (flat3 ss).getD (k * 3 + 2) 0 = (ss.getD k str0).2.2
  | [], k, h => by simp at h
  | p :: r, 0, h => rfl
  | p :: r, k + 1, h => by
    rw [show (k + 1) * 3 + 2 = k * 3 + 2 + 1 + 1 + 1 by omega]
    simp only [flat3, List.getD_cons_succ]
    exact flat3_2 r k (by simpa using h)
theorem flat3_append : ∀ a b, flat3 (a ++ b) = flat3 a ++ flat3 b
  | [], b => rfl
  | p :: r, b => by simp [flat3, flat3_append r b]
theorem flat3_take : ∀ (ss : List Str) k, flat3 (ss.take k) = (flat3 ss).take (k * 3)
  | [], k => by simp [flat3]
  | p :: r, 0 => by simp [flat3]
  | p :: r, k + 1 => by
    rw [show (k + 1) * 3 = k * 3 + 1 + 1 + 1 by omega]
    simp [flat3, flat3_take r k]
/-- The slice with address A reads as the streets ss, below block B. -/
def RdS (w : World) (B : Nat) (A : Option Addr) (ss : List Str) : Prop := RdI w B A (flat3 ss)
theorem RdS.x {w : World} {B : Nat} {A : Option Addr} {ss : List Str} (h : RdS w B A ss) {k : Nat} (hk : k < ss.length) :
    ∃ b off x y z, A = some ⟨b, off, none⟩ ∧ b < B ∧ Hid (ss.getD k str0 = (x, y, z)) ∧ w.cell? ⟨b, off + k * 3, none⟩ = some (.int .i64 x) ∧ w.cell? ⟨b, off + k * 3 + 1, none⟩ = some (.int .i64 y) ∧ w.cell? ⟨b, off + k * 3 + 2, none⟩ = some (.int .i64 z) := by
  have hl := flat3_len ss
  obtain ⟨b, off, e, hb, hc⟩ := h (by omega)
  refine ⟨b, off, (ss.getD k str0).1, (ss.getD k str0).2.1, (ss.getD k str0).2.2, e, hb, rfl, ?_, ?_, ?_⟩
  · rw [hc _ (by omega), flat3_0 _ _ hk]
  · rw [Nat.add_assoc, hc _ (by omega), flat3_1 _ _ hk]
  · rw [Nat.add_assoc, hc _ (by omega), flat3_2 _ _ hk]
theorem RdS.keep {w w' : World} {B : Nat} {A : Option Addr} {ss : List Str} (h : RdS w B A ss) (hk : ∀ p : Addr, p.block < B → w'.cell? p = w.cell? p) : RdS w' B A ss := RdI.keep h hk
theorem RdS.below {w w' : World} {B : Nat} {A : Option Addr} {ss : List Str} (h : RdS w B A ss) (hb : Below B w w') : RdS w' B A ss := RdI.below h hb
theorem RdS.more {w : World} {B B' : Nat} {A : Option Addr} {ss : List Str} (h : RdS w B A ss) (hB : B ≤ B') : RdS w B' A ss := RdI.more h hB
theorem RdS.drewN {w : World} {B : Nat} {A : Option Addr} {ss : List Str} (h : RdS w B A ss) (n : Nat) : RdS (w.drewN n) B A ss := h
theorem RdS.nil (w : World) (B : Nat) (A : Option Addr) : RdS w B A [] := RdI.nil w B A
theorem RdS.take {w : World} {B : Nat} {A : Option Addr} {ss : List Str} (h : RdS w B A ss) (k : Nat) : RdS w B A (ss.take k) := by
  intro hp
  rw [flat3_take] at hp ⊢
  rw [List.length_take] at hp
  obtain ⟨b, off, e, hb, hc⟩ := h (by omega)
  refine ⟨b, off, e, hb, fun i hi => ?_⟩
  rw [List.length_take] at hi
  rw [hc i (by omega)]
  congr 2
  simp only [List.getD, List.getElem?_take]
  rw [if_pos (by omega)]

/-- One street of a net of n nodes. -/
def OkS (n : Int) (p : Str) : Prop := (0 ≤ p.1 ∧ p.1 < n) ∧ (0 ≤ p.2.1 ∧ p.2.1 < n) ∧ 1 ≤ p.2.2 ∧ p.2.2 ≤ 9
instance (n : Int) (p : Str) : Decidable (OkS n p) := by unfold OkS; infer_instance
/-- ValidNet. -/
def vnet (n : Int) (ss : List Str) : Bool := decide ((1 ≤ n ∧ n ≤ 7) ∧ ss.length ≤ 12 ∧ ∀ p ∈ ss, OkS n p)
theorem vnet_iff (n : Int) (ss : List Str) : vnet n ss = true ↔ (1 ≤ n ∧ n ≤ 7) ∧ ss.length ≤ 12 ∧ ∀ p ∈ ss, OkS n p := by unfold vnet; rw [decide_eq_true_iff]
theorem getD_mem3 {ss : List Str} {k : Nat} (hk : k < ss.length) : ss.getD k str0 ∈ ss := by
  rw [List.getD_eq_getElem?_getD, List.getElem?_eq_getElem hk]
  exact List.getElem_mem hk
theorem mem_getD3 {ss : List Str} {p : Str} (h : p ∈ ss) : ∃ k, k < ss.length ∧ ss.getD k str0 = p := by
  obtain ⟨k, hk, e⟩ := List.getElem_of_mem h
  exact ⟨k, hk, by rw [List.getD_eq_getElem?_getD, List.getElem?_eq_getElem hk, ← e]; rfl⟩
theorem vnet_no_n {n : Int} {ss : List Str} (h : n < 1 ∨ 7 < n) : vnet n ss = false := by
  rw [Bool.eq_false_iff]; intro h'
  have := (vnet_iff n ss).1 h'
  omega
theorem vnet_no_len {n : Int} {ss : List Str} (h : 12 < ss.length) : vnet n ss = false := by
  rw [Bool.eq_false_iff]; intro h'
  have := (vnet_iff n ss).1 h'
  omega
theorem vnet_no_at {n : Int} {ss : List Str} {k : Nat} {x y z : Int} (hk : k < ss.length) (hx : ss.getD k str0 = (x, y, z)) (h : x < 0 ∨ n ≤ x ∨ y < 0 ∨ n ≤ y ∨ z < 1 ∨ 9 < z) : vnet n ss = false := by
  rw [Bool.eq_false_iff]; intro h'
  have := ((vnet_iff n ss).1 h').2.2 _ (getD_mem3 hk)
  rw [hx] at this
  unfold OkS at this
  simp only at this
  omega
/-- So far, all streets are fine. -/
def OkN (n : Int) (ss : List Str) (k : Nat) : Prop := ∀ i, i < k → OkS n (ss.getD i str0)
theorem OkN.zero (n : Int) (ss : List Str) : OkN n ss 0 := fun i hi => by omega
theorem OkN.step {n : Int} {ss : List Str} {k : Nat} {x y z : Int} (h : OkN n ss k) (hx : ss.getD k str0 = (x, y, z)) (h0 : 0 ≤ x) (h1 : x < n) (h2 : 0 ≤ y) (h3 : y < n) (h4 : 1 ≤ z) (h5 : z ≤ 9) : OkN n ss (k + 1) := fun i hi => by
  by_cases e : i = k
  · subst e; rw [hx]; exact ⟨⟨h0, h1⟩, ⟨h2, h3⟩, h4, h5⟩
  · exact h i (by omega)
theorem vnet_yes {n : Int} {ss : List Str} {k : Nat} (h : OkN n ss k) (h1 : 1 ≤ n) (h7 : n ≤ 7) (h12 : ss.length ≤ 12) (hk : ss.length ≤ k) : vnet n ss = true :=
  (vnet_iff n ss).2 ⟨⟨h1, h7⟩, h12, fun p hp => by
    obtain ⟨i, hi, e⟩ := mem_getD3 hp
    rw [← e]; exact h i (by omega)⟩
/-- Fewer streets are a net. -/
theorem vnet_take {n : Int} {ss : List Str} (h : vnet n ss = true) (k : Nat) : vnet n (ss.take k) = true := by
  obtain ⟨h1, h2, h3⟩ := (vnet_iff n ss).1 h
  exact (vnet_iff _ _).2 ⟨h1, by rw [List.length_take]; omega, fun p hp => h3 p (List.mem_of_mem_take hp)⟩
end Go.Proofs.Ytoohfipicmdohac
namespace Go.Proofs.Ytoohfipicmdohac
open Go.ChangeShapes Go.WideShapes Go.ChangeAt Go.RowKit
set_option linter.unusedVariables false

/-- Ways over streets, and their lengths. -/
inductive Wk (E : Nat → Nat → Int → Prop) (n : Nat) (a : Nat) : Nat → Int → Prop
  | nil : a < n → Wk E n a a 0
  | snoc (u v : Nat) (x L : Int) : Wk E n a u x → E u v L → v < n → Wk E n a v (x + L)
theorem Wk.start {E : Nat → Nat → Int → Prop} {n a b : Nat} {x : Int} (h : Wk E n a b x) : a < n := by
  induction h with
  | nil h => exact h
  | snoc u v x L h1 h2 h3 ih => exact ih
theorem Wk.cons {E : Nat → Nat → Int → Prop} {n a u b : Nat} {L x : Int} (ha : a < n) (he : E a u L) (h : Wk E n u b x) : Wk E n a b (L + x) := by
  induction h with
  | nil hu => have := Wk.snoc a u 0 L (Wk.nil ha) he hu; rw [Int.zero_add] at this; rw [Int.add_zero]; exact this
  | snoc w v x M h1 h2 h3 ih => rw [← Int.add_assoc]; exact Wk.snoc _ _ _ _ ih h2 h3
theorem Wk.join {E : Nat → Nat → Int → Prop} {n a c b : Nat} {x y : Int} (h1 : Wk E n a c x) (h2 : Wk E n c b y) : Wk E n a b (x + y) := by
  induction h2 with
  | nil hc => rw [Int.add_zero]; exact h1
  | snoc w v y M h3 h4 h5 ih => rw [← Int.add_assoc]; exact Wk.snoc _ _ _ _ ih h4 h5
theorem Wk.rev {E : Nat → Nat → Int → Prop} {n a b : Nat} {x : Int} (hs : ∀ u v L, E u v L → E v u L) (h : Wk E n a b x) : Wk E n b a x := by
  induction h with
  | nil ha => exact Wk.nil ha
  | snoc u v x L h1 h2 h3 ih => rw [Int.add_comm]; exact Wk.cons h3 (hs _ _ _ h2) ih
structure Short (E : Nat → Nat → Int → Prop) (n : Nat) (X : Nat → Nat → Int) : Prop where
  zero : ∀ a, a < n → X a a = 0
  step : ∀ a u v L, a < n → E u v L → v < n → 0 ≤ X a u → 0 ≤ X a v ∧ X a v ≤ X a u + L
  way : ∀ a b, a < n → b < n → X a b = -1 ∨ (0 ≤ X a b ∧ Wk E n a b (X a b))
theorem Short.le {E : Nat → Nat → Int → Prop} {n : Nat} {X : Nat → Nat → Int} (h : Short E n X) {a b : Nat} {x : Int} (ha : a < n) (hw : Wk E n a b x) : 0 ≤ X a b ∧ X a b ≤ x := by
  induction hw with
  | nil ha => rw [h.zero a ha]; omega
  | snoc u v x L h1 h2 h3 ih =>
    have := h.step a u v L ha h2 h3 ih.1
    omega
theorem Short.unique {E : Nat → Nat → Int → Prop} {n : Nat} {X Y : Nat → Nat → Int} (hx : Short E n X) (hy : Short E n Y) {a b : Nat} (ha : a < n) (hb : b < n) : X a b = Y a b := by
  rcases hx.way a b ha hb with h1 | ⟨h1, h2⟩ <;> rcases hy.way a b ha hb with h3 | ⟨h3, h4⟩
  · rw [h1, h3]
  · have := hx.le ha h4; omega
  · have := hy.le ha h2; omega
  · have := hx.le ha h4; have := hy.le ha h2; omega
theorem Short.symm {E : Nat → Nat → Int → Prop} {n : Nat} {X : Nat → Nat → Int} (hs : ∀ u v L, E u v L → E v u L) (hx : Short E n X) {a b : Nat} (ha : a < n) (hb : b < n) : X a b = X b a := by
  rcases hx.way a b ha hb with h1 | ⟨h1, h2⟩ <;> rcases hx.way b a hb ha with h3 | ⟨h3, h4⟩
  · rw [h1, h3]
  · have := hx.le ha (h4.rev hs); omega
  · have := hx.le hb (h2.rev hs); omega
  · have := hx.le ha (h4.rev hs); have := hx.le hb (h2.rev hs); omega
theorem Short.tri {E : Nat → Nat → Int → Prop} {n : Nat} {X : Nat → Nat → Int} (hx : Short E n X) {a b c : Nat} (ha : a < n) (hb : b < n) (hc : c < n) (h1 : 0 ≤ X a c) (h2 : 0 ≤ X c b) : 0 ≤ X a b ∧ X a b ≤ X a c + X c b := by
  rcases hx.way a c ha hc with h3 | ⟨_, h3⟩
  · omega
  · rcases hx.way c b hc hb with h4 | ⟨_, h4⟩
    · omega
    · exact hx.le ha (h3.join h4)

/-- The roads of a tree, as streets. -/
def TE (t : List (Int × Int)) (n : Nat) (u v : Nat) (L : Int) : Prop := ∃ i, 1 ≤ i ∧ i < n ∧ L = tlg t i ∧ ((u = tto t i ∧ v = i) ∨ (u = i ∧ v = tto t i))
theorem TE.symm {t : List (Int × Int)} {n u v : Nat} {L : Int} (h : TE t n u v L) : TE t n v u L := by
  obtain ⟨i, h1, h2, h3, h4⟩ := h
  exact ⟨i, h1, h2, h3, h4.elim (fun h => .inr ⟨h.2, h.1⟩) (fun h => .inl ⟨h.2, h.1⟩)⟩
theorem dn_way {t : List (Int × Int)} (ht : Ahead t) {n : Nat} (hn : n ≤ t.length) : ∀ m a b, a + b = m → a < n → b < n → Wk (TE t n) n a b (dn t n a b) := by
  intro m
  induction m using Nat.strongRecOn with
  | ind m ih =>
    intro a b hm ha hb
    rcases Nat.lt_trichotomy a b with h | h | h
    · have hr := ht b (by omega) (by omega)
      rw [dn_symm, dn_road ht hn hb h, dn_symm]
      exact Wk.snoc _ _ _ _ (ih (a + tto t b) (by omega) a (tto t b) rfl ha (by omega)) ⟨b, by omega, hb, rfl, .inl ⟨rfl, rfl⟩⟩ hb
    · subst h; rw [dn_diag t n a ha]; exact Wk.nil ha
    · have hr := ht a (by omega) (by omega)
      rw [dn_road ht hn ha h, Int.add_comm]
      exact Wk.cons ha ⟨a, by omega, ha, rfl, .inr ⟨rfl, rfl⟩⟩ (ih (tto t a + b) (by omega) (tto t a) b rfl (by omega) hb)
/-- A tree's table is that of its roads as streets. -/
theorem dn_short {t : List (Int × Int)} (ht : Ahead t) {n : Nat} (hn : n ≤ t.length) : Short (TE t n) n (dn t n) where
  zero a ha := dn_diag t n a ha
  step a u v L ha he hv h0 := by
    obtain ⟨i, h1, h2, rfl, h4⟩ := he
    have hr := ht i h1 (by omega)
    have ho := dn_over ht hn h1 h2 a ha
    rw [dn_symm t n i a, dn_symm t n (tto t i) a] at ho
    refine ⟨(dn_bd ht n a v hn ha hv).1, ?_⟩
    rcases h4 with ⟨rfl, rfl⟩ | ⟨rfl, rfl⟩ <;> split at ho <;> omega
  way a b ha hb := .inr ⟨(dn_bd ht n a b hn ha hb).1, dn_way ht hn _ a b rfl ha hb⟩

/-- A table's entry, no way as a great number. -/
def big (x : Int) : Int := if x < 0 then 1000000 else x
/-- With one node more in the middle. -/
theorem middles_step {X Y : Nat → Nat → Int} {n m : Nat} (hbd : ∀ a b, a < n → b < n → -1 ≤ X a b ∧ X a b ≤ 400000) (hm : m < n) (h0 : X m m = 0) (hY : ∀ a b, a < n → b < n → big (Y a b) = min (big (X a b)) (min 1000000 (big (X a m) + big (X m b))))
    (hT : ∀ a b c, a < n → b < n → c < m → big (X a b) ≤ big (X a c) + big (X c b)) : ∀ a b c, a < n → b < n → c < m + 1 → big (Y a b) ≤ big (Y a c) + big (Y c b) := by
  intro a b c ha hb hc
  have nn : ∀ a b, a < n → b < n → 0 ≤ big (X a b) ∧ big (X a b) ≤ 1000000 := fun a b ha hb => by have := hbd a b ha hb; unfold big; split <;> omega
  rw [hY a b ha hb, hY a c ha (by omega), hY c b (by omega) hb]
  have e0 : big (X m m) = 0 := by rw [h0]; rfl
  have n1 := nn a b ha hb; have n2 := nn a c ha (by omega); have n3 := nn c b (by omega) hb; have n4 := nn a m ha hm; have n5 := nn m b hm hb; have n6 := nn m c hm (by omega); have n7 := nn c m (by omega) hm
  by_cases e : c = m
  · subst e
    omega
  · have t1 := hT a b c ha hb (by omega)
    have t2 := hT m b c hm hb (by omega)
    have t3 := hT a m c ha hm (by omega)
    omega
end Go.Proofs.Ytoohfipicmdohac
namespace Go.Proofs.Ytoohfipicmdohac
open Go.ChangeShapes Go.WideShapes Go.ChangeAt Go.RowKit
set_option linter.unusedVariables false

/-- The streets, both ways. -/
def SE (ss : List Str) (u v : Nat) (L : Int) : Prop := ∃ p, p ∈ ss ∧ L = p.2.2 ∧ ((p.1 = u ∧ p.2.1 = v) ∨ (p.1 = v ∧ p.2.1 = u))
theorem SE.symm {ss : List Str} {u v : Nat} {L : Int} (h : SE ss u v L) : SE ss v u L := by
  obtain ⟨p, h1, h2, h3⟩ := h
  exact ⟨p, h1, h2, h3.symm⟩
theorem SE.pos {n : Int} {ss : List Str} (hv : vnet n ss = true) {u v : Nat} {L : Int} (h : SE ss u v L) : 1 ≤ L ∧ L ≤ 9 ∧ (u : Int) < n ∧ (v : Int) < n := by
  obtain ⟨p, h1, h2, h3⟩ := h
  have := ((vnet_iff n ss).1 hv).2.2 p h1
  unfold OkS at this
  omega

/-- How many nodes a row reaches. -/
def cntX (X : Nat → Nat → Int) (a : Nat) : Nat → Nat
  | 0 => 0
  | m + 1 => cntX X a m + (if 0 ≤ X a m then 1 else 0)
theorem cntX_le (X : Nat → Nat → Int) (a : Nat) : ∀ m, cntX X a m ≤ m
  | 0 => Nat.le_refl _
  | m + 1 => by have := cntX_le X a m; simp only [cntX]; split <;> omega
def up2 (X : Nat → Nat → Int) (a b : Nat) (v : Int) : Nat → Nat → Int := fun i j => if i = a ∧ j = b then v else X i j
theorem up2_at (X : Nat → Nat → Int) (a b : Nat) (v : Int) : up2 X a b v a b = v := if_pos ⟨rfl, rfl⟩
theorem up2_other (X : Nat → Nat → Int) {a b i j : Nat} (v : Int) (h : ¬ (i = a ∧ j = b)) : up2 X a b v i j = X i j := if_neg h
theorem cntX_row {X : Nat → Nat → Int} {a b i : Nat} {v : Int} (h : i ≠ a) : ∀ m, cntX (up2 X a b v) i m = cntX X i m
  | 0 => rfl
  | m + 1 => by simp only [cntX]; rw [cntX_row h m, up2_other _ _ (fun e => h e.1)]
theorem cntX_up {X : Nat → Nat → Int} {a b : Nat} {v : Int} (hv : 0 ≤ v) : ∀ m, cntX (up2 X a b v) a m = cntX X a m + (if b < m ∧ X a b < 0 then 1 else 0)
  | 0 => by simp [cntX]
  | m + 1 => by
    simp only [cntX]
    rw [cntX_up hv m]
    by_cases e : b = m
    · subst e
      rw [up2_at, if_pos hv]
      repeat' split
      all_goals omega
    · rw [up2_other _ _ (fun e' => e e'.2.symm)]
      repeat' split
      all_goals omega

/-- The table while it is made shorter: each entry is a way's length or -1. -/
structure Rlx (ss : List Str) (n : Nat) (X : Nat → Nat → Int) : Prop where
  zero : ∀ a, a < n → X a a = 0
  way : ∀ a b, a < n → b < n → X a b = -1 ∨ (0 ≤ X a b ∧ Wk (SE ss) n a b (X a b))
  bd : ∀ a b, a < n → b < n → X a b + 9 ≤ 9 * (cntX X a n : Int)
theorem Rlx.le {ss : List Str} {n : Nat} {X : Nat → Nat → Int} (h : Rlx ss n X) (hn : n ≤ 7) {a b : Nat} (ha : a < n) (hb : b < n) : -1 ≤ X a b ∧ X a b ≤ 54 := by
  have h1 := h.bd a b ha hb
  have h2 := cntX_le X a n
  rcases h.way a b ha hb with h3 | ⟨h3, -⟩ <;> omega
def ownX (a b : Nat) : Int := if a = b then 0 else -1
theorem cntX_own (a : Nat) : ∀ m, cntX ownX a m = if a < m then 1 else 0
  | 0 => rfl
  | m + 1 => by
    simp only [cntX]
    rw [cntX_own a m]
    unfold ownX
    by_cases h : a = m
    · subst h; simp
    · rw [if_neg h]
      by_cases h2 : a < m
      · rw [if_pos h2, if_neg (by omega), if_pos (by omega)]
      · rw [if_neg h2, if_neg (by omega), if_neg (by omega)]
theorem rlx_start (ss : List Str) (n : Nat) : Rlx ss n ownX where
  zero a _ := by simp [ownX]
  way a b ha hb := by
    unfold ownX
    by_cases h : a = b
    · subst h; rw [if_pos rfl]; exact .inr ⟨Int.le_refl _, Wk.nil ha⟩
    · rw [if_neg h]; exact .inl rfl
  bd a b ha hb := by rw [cntX_own, if_pos ha]; unfold ownX; split <;> omega
/-- One entry shorter. -/
theorem rlx_step {ss : List Str} {n : Nat} {X : Nat → Nat → Int} (h : Rlx ss n X) {at' u v : Nat} {L : Int} (ha : at' < n) (hu : u < n) (hv : v < n) (he : SE ss u v L) (hL : 1 ≤ L ∧ L ≤ 9) (h0 : 0 ≤ X at' u) (hc : X at' v < 0 ∨ X at' u + L < X at' v) :
    Rlx ss n (up2 X at' v (X at' u + L)) where
  zero a ha' := by
    by_cases e : a = at' ∧ a = v
    · obtain ⟨e1, e2⟩ := e
      subst e1
      rw [← e2, h.zero a ha'] at hc
      omega
    · rw [up2_other _ _ e]; exact h.zero a ha'
  way a b ha' hb := by
    by_cases e : a = at' ∧ b = v
    · obtain ⟨rfl, rfl⟩ := e
      rw [up2_at]
      rcases h.way a u ha hu with h1 | ⟨_, h1⟩
      · omega
      · exact .inr ⟨by omega, Wk.snoc _ _ _ _ h1 he hv⟩
    · rw [up2_other _ _ e]; exact h.way a b ha' hb
  bd a b ha' hb := by
    by_cases e1 : a = at'
    · subst e1
      rw [cntX_up (by omega)]
      have h1 := h.bd a u ha hu
      have h2 := h.bd a b ha hb
      have h3 := h.bd a v ha hv
      by_cases e : b = v
      · subst e
        rw [up2_at]
        by_cases hn : X a b < 0
        · rw [if_pos ⟨hb, hn⟩]; omega
        · rw [if_neg (by omega)]; omega
      · rw [up2_other _ _ (fun e' => e e'.2)]
        omega
    · rw [cntX_row e1, up2_other _ _ (fun e => e1 e.1)]; exact h.bd a b ha' hb

/-- What goes down with each step. -/
def sumR (f : Nat → Nat) : Nat → Nat
  | 0 => 0
  | m + 1 => sumR f m + f m
theorem sumR_congr {f g : Nat → Nat} : ∀ {m}, (∀ i, i < m → f i = g i) → sumR f m = sumR g m
  | 0, _ => rfl
  | m + 1, h => by simp only [sumR]; rw [sumR_congr fun i hi => h i (by omega), h m (by omega)]
theorem sumR_lt {f g : Nat → Nat} {k : Nat} : ∀ {m}, k < m → (∀ i, i < m → i ≠ k → f i = g i) → f k < g k → sumR f m < sumR g m
  | 0, h, _, _ => by omega
  | m + 1, h, he, hk => by
    simp only [sumR]
    by_cases e : k = m
    · subst e
      rw [sumR_congr fun i hi => he i (by omega) (by omega)]; omega
    · have := sumR_lt (m := m) (by omega) (fun i hi hne => he i (by omega) hne) hk
      rw [he m (by omega) (fun e' => e e'.symm)]; omega
def ent (x : Int) : Nat := if x < 0 then 64 else x.toNat
def totX (X : Nat → Nat → Int) (n : Nat) : Nat := sumR (fun a => sumR (fun b => ent (X a b)) n) n
theorem totX_step {X : Nat → Nat → Int} {n a b : Nat} {v : Int} (ha : a < n) (hb : b < n) (hv : 0 ≤ v ∧ v < 64) (h : X a b < 0 ∨ v < X a b) : totX (up2 X a b v) n < totX X n := by
  refine sumR_lt (k := a) ha (fun i hi hne => ?_) ?_
  · refine sumR_congr fun j hj => ?_
    rw [up2_other _ _ (fun e => hne e.1)]
  · refine sumR_lt (k := b) hb (fun j hj hne => ?_) ?_
    · rw [up2_other _ _ (fun e => hne e.2)]
    · rw [up2_at]; unfold ent; rw [if_neg (by omega)]; split <;> omega

/-- A street's way in one sense does not make row a shorter. -/
def Cz (X : Nat → Nat → Int) (a u v : Nat) (L : Int) : Prop := 0 ≤ X a u → 0 ≤ X a v ∧ X a v ≤ X a u + L
theorem rlx_short {ss : List Str} {n : Nat} {X : Nat → Nat → Int} (h : Rlx ss n X) (hs : ∀ p : Str, ∀ u v : Nat, p ∈ ss → p.1 = u → p.2.1 = v → u < n → v < n → ∀ a, a < n → Cz X a u v p.2.2 ∧ Cz X a v u p.2.2) (hN : ∀ u v L, SE ss u v L → u < n ∧ v < n) : Short (SE ss) n X where
  zero := h.zero
  step a u v L ha he hv h0 := by
    have hu := (hN u v L he).1
    obtain ⟨p, hp, rfl, ⟨h1, h2⟩ | ⟨h1, h2⟩⟩ := he
    · exact (hs p u v hp h1 h2 hu hv a ha).1 h0
    · exact (hs p v u hp h1 h2 hv hu a ha).2 h0
  way a b ha hb := h.way a b ha hb
theorem se_lt {n : Nat} {ss : List Str} (hv : vnet n ss = true) : ∀ u v L, SE ss u v L → u < n ∧ v < n := fun u v L h => by
  have := SE.pos hv h
  omega
theorem exists_short {n : Nat} {ss : List Str} (hv : vnet n ss = true) : ∀ (m : Nat) (X : Nat → Nat → Int), totX X n = m → Rlx ss n X → ∃ Y, Short (SE ss) n Y ∧ ∀ a b, a < n → b < n → -1 ≤ Y a b ∧ Y a b ≤ 54 := by
  intro m
  induction m using Nat.strongRecOn with
  | ind m ih =>
    intro X hm h
    have h7 := ((vnet_iff _ _).1 hv).1
    by_cases hc : ∃ a u v L, a < n ∧ u < n ∧ v < n ∧ SE ss u v L ∧ ¬ Cz X a u v L
    · obtain ⟨a, u, v, L, ha, hu, hv', he, hcz⟩ := hc
      have hL := SE.pos hv he
      have h0 : 0 ≤ X a u := by
        by_cases h0 : 0 ≤ X a u
        · exact h0
        · exact absurd (fun h1 => absurd h1 h0) hcz
      have hlt : X a v < 0 ∨ X a u + L < X a v := by
        by_cases h1 : X a v < 0 ∨ X a u + L < X a v
        · exact h1
        · exact absurd (fun _ => ⟨by omega, by omega⟩) hcz
      have hb := h.le (by omega) ha hu
      exact ih _ (by rw [← hm]; exact totX_step ha hv' (by omega) hlt) _ rfl (rlx_step h ha hu hv' he ⟨hL.1, hL.2.1⟩ h0 hlt)
    · refine ⟨X, rlx_short h (fun p u v hp h1 h2 hu hv' a ha => ⟨?_, ?_⟩) (se_lt hv), fun a b ha hb => h.le (by omega) ha hb⟩
      · by_cases hz : Cz X a u v p.2.2
        · exact hz
        · exact absurd ⟨a, u, v, _, ha, hu, hv', ⟨p, hp, rfl, .inl ⟨h1, h2⟩⟩, hz⟩ hc
      · by_cases hz : Cz X a v u p.2.2
        · exact hz
        · exact absurd ⟨a, v, u, _, ha, hv', hu, ⟨p, hp, rfl, .inr ⟨h1, h2⟩⟩, hz⟩ hc
open Classical in
/-- The table of shortest ways. -/
noncomputable def sht (n : Nat) (ss : List Str) : Nat → Nat → Int := if h : ∃ Y, Short (SE ss) n Y ∧ ∀ a b, a < n → b < n → -1 ≤ Y a b ∧ Y a b ≤ 54 then Classical.choose h else fun _ _ => 0
theorem sht_spec {n : Nat} {ss : List Str} (hv : vnet n ss = true) : Short (SE ss) n (sht n ss) ∧ ∀ a b, a < n → b < n → -1 ≤ sht n ss a b ∧ sht n ss a b ≤ 54 := by
  have h := exists_short hv _ ownX rfl (rlx_start ss n)
  unfold sht
  rw [dif_pos h]
  exact Classical.choose_spec h
theorem sht_is {n : Nat} {ss : List Str} (hv : vnet n ss = true) {X : Nat → Nat → Int} (h : Short (SE ss) n X) {a b : Nat} (ha : a < n) (hb : b < n) : X a b = sht n ss a b := h.unique (sht_spec hv).1 ha hb
end Go.Proofs.Ytoohfipicmdohac
