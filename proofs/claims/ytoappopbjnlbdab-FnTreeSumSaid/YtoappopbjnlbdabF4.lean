/-
  TreeTable: the program's table is the model's.
  Conditions: fewer than 2^60 roads.
-/
import Derived.Test.YtoappopbjnlbdabHT
import Derived.Test.YtoappopbjnlbdabF2
import Derived.Test.YtoappopbjnlbdabV2
import Derived.Test.YtoappopbjnlbdabN4
namespace Go.Proofs.Ytoappopbjnlbdab
open Go.ChangeShapes Go.WideShapes Go.ChangeAt Go.RowKit
set_option linter.unusedVariables false
set_option maxRecDepth 4000

/-- What a table's call answers: nil for what is no tree, else the rows. -/
def TabAns (w : World) (t : List (Int × Int)) (e : Ending) (w' : World) : Prop :=
  (vt t = false ∧ e = .returned (.slice none 0 0) ∧ Below w.heap.size w w') ∨ (vt t = true ∧ Tabled w t e w')
theorem sTreeTable_any (A : Option Addr) (c n : Nat) (ts : List (Int × Int)) (w : World) (hr : RdR w w.heap.size A ts) (hn : ts.length = n) (hb : n ≤ 1152921504606846976) :
    Calls Try.prog 31 #[.slice A n c] w (TabAns w ts) := by
  by_cases hv : vt ts = true
  · have H1 := Lib.hid (sValidTree_in A c n ts w _ hr hn hb)
    have Ht := Lib.hid (treeTable_any A c n ts w hr hn hv)
    rw [hv] at H1
    have Hv := Lib.hid hv
    clear hv hr hn
    go_enter Try.func31, Try.ntmps31
    go_wp2_with fail
    refine H1.out.mono ?_
    rintro e w' ⟨rfl, rfl⟩
    go_wp2_with fail
    refine Ht.out.mono ?_
    rintro e w1 ⟨v, VR, rfl, hO, hT, hnx1⟩
    have HO := Lib.hid hO
    have HT := Lib.hid hT
    have HB := Lib.hid hnx1
    clear hO hT hnx1
    go_wp2
    go_ret
    exact .inr ⟨Hv.out, v, VR, rfl, HO.out, HT.out, HB.out⟩
  · have hv' : vt ts = false := by simpa using hv
    have H1 := Lib.hid (sValidTree_in A c n ts w _ hr hn hb)
    rw [hv'] at H1
    have Hv := Lib.hid hv'
    clear hv hv' hr hn
    go_enter Try.func31, Try.ntmps31
    go_wp2_with fail
    refine H1.out.mono ?_
    rintro e w' ⟨rfl, rfl⟩
    go_wp2
    go_ret
    exact .inl ⟨Hv.out, rfl, Below.refl _ _⟩
/-- What the loop over the nodes keeps: the rows so far, the rest of the table nil. -/
def TabRel2 (w w3 : World) (t : List (Int × Int)) (n g : Nat) (i : Value) (wr : World) : Prop :=
  ∃ k : Nat, ∃ VR, k ≤ n ∧ i = .int .i64 k ∧ wr.ownsRow w.heap.size 27 1 (.slice (some ⟨g, 0, none⟩) n n) n (half VR k n) ∧ TT wr w.heap.size k VR (rowN t n) ∧ Below w3.heap.size w3 wr
/-- One row more. -/
theorem tab2_step {w wr wC : World} {t : List (Int × Int)} {n k g R : Nat} {VR : Nat → Value} (hk : k < n) (hn7 : n ≤ 7) (hT : TT wr w.heap.size k VR (rowN t n)) (hO : wr.ownsRow w.heap.size 27 1 (.slice (some ⟨g, 0, none⟩) n n) n (half VR k n))
    (hb : Below wr.heap.size wr wC) (hR : wr.heap.size ≤ R) (hw : w.heap.size ≤ wr.heap.size) (hrow : wC.heap[R]? = some (.cells (((List.range n).map fun j => dn t n k j).map (Value.int .i64)).toArray 3 (0, 0))) :
    ∃ v, wC.cell? ⟨g, k, none⟩ = some v ∧ wC.frozen? ⟨g, k, none⟩ = false ∧ (wC.setCell ⟨g, k, none⟩ (.slice (some ⟨R, 0, none⟩) n n)).ownsRow w.heap.size 27 1 (.slice (some ⟨g, 0, none⟩) n n) n (half (upd VR k (.slice (some ⟨R, 0, none⟩) n n)) (k + 1) n) ∧
      TT (wC.setCell ⟨g, k, none⟩ (.slice (some ⟨R, 0, none⟩) n n)) w.heap.size (k + 1) (upd VR k (.slice (some ⟨R, 0, none⟩) n n)) (rowN t n) ∧ w.heap.size ≤ g := by
  have hOC := ownN_below hO hb
  have hTC := hT.below hb
  obtain ⟨v, hv⟩ := own_cell hOC (j := k) (by omega) (by simp [half])
  obtain ⟨⟨cs, hc⟩, hgB, _⟩ := own_heap hOC (g := g) rfl
  have hgR : g ≠ R := types_apart hc hrow (by decide)
  have hst := (hOC.stored k (.slice (some ⟨R, 0, none⟩) n n)).1
  rw [half_get hk] at hst
  refine ⟨v, hv, hOC.frozenAt k, hst, ⟨fun j hj => ?_, fun i j g' hi hj h1 h2 => ?_⟩, hgB⟩
  · by_cases e : j = k
    · subst e
      rw [upd_at, rowN_len]
      refine ⟨by simp [rowN], .inr ⟨R, n, _, rfl, by omega, (Below.heap_setCell wC _ _ R (fun e => hgR e.symm)).trans hrow, Nat.le_refl _, by unfold maxLen; omega, by simp, ?_⟩⟩
      simp only [rowN, Nat.mul_one]
      exact List.take_of_length_le (by simp)
    · rw [upd_other _ _ e]
      exact (hTC.store (g := g) (k := k) (v := .slice (some ⟨R, 0, none⟩) n n) hc (by decide)).own j (by omega)
  · have hlt : ∀ {i}, i < k → (VR i).ownBlock = some g' → g' < wr.heap.size := fun hi e => (own_heap (hT.own _ hi) e).2.2
    by_cases e1 : i = k <;> by_cases e2 : j = k
    · omega
    · rw [e1, upd_at] at h1; rw [upd_other _ _ e2] at h2
      have : R = g' := by simpa [Value.ownBlock] using h1
      have := hlt (by omega) h2; omega
    · rw [e2, upd_at] at h2; rw [upd_other _ _ e1] at h1
      have : R = g' := by simpa [Value.ownBlock] using h2
      have := hlt (by omega) h1; omega
    · rw [upd_other _ _ e1] at h1; rw [upd_other _ _ e2] at h2
      exact hT.dis i j g' (by omega) (by omega) h1 h2

set_option maxHeartbeats 1600000 in
theorem iTreeTable_any (A : Option Addr) (c n : Nat) (ts : List (Int × Int)) (w : World) (hr : RdR w w.heap.size A ts) (hn : ts.length = n) (hc : n ≤ c) (hb : n ≤ 1152921504606846976) :
    Calls Try.prog 19 #[.slice A n c] w (TabAns w ts) := by
  obtain ⟨ii, hii, hzi0, hzi1, hzi2⟩ := info_parts intInfo
  obtain ⟨is, his, hzs0, hzs1, hzs2⟩ := info_parts slInfo2
  by_cases hv : vt ts = true
  · obtain ⟨h1, h7, -⟩ := (vt_iff ts).1 hv
    rw [hn] at h1 h7
    have H1 := Lib.hid (iValidTree_is A c n ts w _ hr hn hc hb (Nat.le_refl _) hv)
    have Hv := Lib.hid hv
    have Hn := Lib.hid hn
    have Hr := Lib.hid hr
    clear hv hr hn
    go_enter Try.func19, Try.ntmps19
    go_wp2_with fail
    refine H1.out.mono ?_
    rintro e w2 ⟨rfl, hnx2⟩
    have Hl := Lib.hid (linked_any A c n ts w2 ((Hr.out.below hnx2).more hnx2.size) Hn.out hc Hv.out)
    have HB2 := Lib.hid hnx2
    clear hnx2
    go_wp2_with fail
    refine Hl.out.mono ?_
    rintro e w3 ⟨v, P, RV, rfl, hlk, hown, hnx3⟩
    rw [Hn.out] at hlk hown
    obtain ⟨A', c', rfl, -, -, hA⟩ := own_sliceN hown
    obtain ⟨gn, rfl, -, -⟩ := hA (by omega)
    have hb3 := HB2.out.trans (hnx3.mono HB2.out.size)
    have HLK := Lib.hid hlk
    have HON := Lib.hid hown
    have HB3 := Lib.hid hb3
    clear hlk hown hnx3 hA hb3
    have hbi : is.bytes * n ≤ 281474976710656 := by rw [hzs2]; omega
    have hml : n ≤ maxLen := by unfold maxLen; omega
    go_wp2_with (at_make; refine wpList_make_full _ rfl _ _ 31 rfl w.heap.size 27 is _ 1 Try.underlying31 his hzs0 hzs1 _ _ _ _ n rfl rfl rfl rfl hbi hml HB3.out.size ?_; intro w4 hown4 hg4)
    have hb4 : Below w3.heap.size w3 w4 := (Below.refl _ _).grown hg4 (Nat.le_refl _) (fun j hj => by cases hj)
    have ho4 : w4.ownsRow w.heap.size 27 1 (.slice (some ⟨w3.heap.size, 0, none⟩) n n) n (half (fun _ => .slice none 0 0) 0 n) := by
      rw [Nat.mul_one] at hown4
      have e : (madeCells (Value.slice none 0 0).cells n).toList = half (fun _ => .slice none 0 0) 0 n := by
        rw [show (Value.slice none 0 0).cells = #[Value.slice none 0 0] from rfl, toList_madeCells_one]
        unfold half
        apply List.ext_getElem?
        intro i
        by_cases hi : i < n <;> simp [hi]
      rw [← e]; exact hown4
    have hbm : ii.bytes * n ≤ 281474976710656 := by rw [hzi2]; omega
    obtain ⟨G, HG⟩ : ∃ G, Hid (w3.heap.size = G) := ⟨_, rfl⟩
    rw [HG.out]
    rw [HG.out] at ho4
    have HO4 := Lib.hid ho4
    have HB4 := Lib.hid hb4
    clear hown4 hg4 ho4 hb4
    go_loopw [18] (fun i wr => TabRel2 w w3 ts n G i wr) (fun i _ => n - (intOf i).toNat)
    case atStart => exact ⟨0, fun _ => .slice none 0 0, Nat.zero_le _, rfl, HO4.out, ⟨fun j hj => by omega, fun i j g hi => by omega⟩, HB4.out⟩
    case round =>
      clear HO4 HB4
      obtain ⟨k, VR, hk, rfl, hO, hT, hnx⟩ := hrel
      by_cases hlt : k < n
      · have cn : wr.cell? ⟨gn, k, none⟩ = some (.pointer (some ⟨P k, 0, none⟩)) := by
          rw [hnx.cell (p := ⟨gn, k, none⟩) (own_heap HON.out (g := gn) rfl).2.2, HON.out.cellAt k (by omega)]
          simp [ptrs, ptr, hlt]
        have hwsz : w.heap.size ≤ wr.heap.size := Nat.le_trans HB3.out.size hnx.size
        have HO := Lib.hid hO
        have HT := Lib.hid hT
        have HB := Lib.hid hnx
        clear hO hT hnx
        go_wp2_with (at_make; refine wpList_make_full _ rfl _ _ 27 rfl wr.heap.size 3 ii _ 1 Try.underlying27 hii hzi0 hzi1 _ _ _ _ n rfl rfl rfl rfl hbm hml (Nat.le_refl _) ?_; intro wA hownA hgA)
        have hbA : Below wr.heap.size wr wA := (Below.refl _ _).grown hgA (Nat.le_refl _) (fun j hj => by cases hj)
        have hzero : (madeCells (Value.int .i64 0).cells (n * 1)).toList = (List.replicate n (0 : Int)).map (Value.int .i64) := by
          rw [made_ints]; simp
        rw [hzero] at hownA
        have hAb := own_blockN hownA
        have hRA := (own_heap hownA (g := wr.heap.size) rfl).2.2
        have hbB := (Below.refl wA.heap.size wA).alloc (Nat.le_refl _) (.cells #[.slice (some ⟨wr.heap.size, 0, none⟩) n n] 27)
        have hb3B := (HB.out.trans (hbA.mono HB.out.size)).trans (hbB.mono (Nat.le_trans HB.out.size hbA.size))
        have hcall := treeRow_walk (w4 := wA.alloc (.cells #[.slice (some ⟨wr.heap.size, 0, none⟩) n n] 27)) (R := wr.heap.size) (rb := wA.heap.size) (vt_ahead Hv.out) Hn.out h7 hlt (HLK.out.below hb3B) ((heap_alloc_old wA _ hRA).trans hAb) (Nat.ne_of_gt hRA)
          (by rw [cell_of_row _ _ _ _ _ _ (heap_alloc_new wA _)]; rfl)
        have Hcall := Lib.hid hcall
        have HbA := Lib.hid hbA
        have HbB := Lib.hid hbB
        have HRA := Lib.hid hRA
        clear hbA hzero hownA hAb hRA hbB hb3B hcall hgA
        go_wp2_with fail
        refine Hcall.out.mono ?_
        rintro e wC ⟨rfl, hrow, hgC⟩
        have hbC : Below wr.heap.size wr wC := (HbA.out.trans (HbB.out.mono HbA.out.size)).grown hgC (Nat.le_trans HbA.out.size HbB.out.size) (fun j hj => by injection hj with hj; omega)
        have crb : wC.cell? ⟨wA.heap.size, 0, none⟩ = some (.slice (some ⟨wr.heap.size, 0, none⟩) n n) := by
          rw [cell_of_row _ _ _ _ _ _ (grown_node hgC (heap_alloc_new wA _) (fun e => by injection e with e; have := HRA.out; omega))]; rfl
        obtain ⟨vg, hvg, hfg, hst, hTT, hgB⟩ := tab2_step hlt h7 HT.out HO.out hbC (Nat.le_refl _) hwsz hrow
        have hgw : w3.heap.size ≤ G := Nat.le_of_eq HG.out
        have hb5 := (HB.out.trans (hbC.mono HB.out.size)).setCell (p := ⟨G, k, none⟩) hgw (.slice (some ⟨wr.heap.size, 0, none⟩) n n)
        have HST := Lib.hid hst
        have HTT := Lib.hid hTT
        have HB5 := Lib.hid hb5
        clear hst hTT hb5 hbC hrow hgC cn
        go_wp2
        go_roundw
        case rel => exact ⟨k + 1, _, by omega, by go_num, HST.out, HTT.out, HB5.out⟩
        case measure => simp [intOf]; omega
      · have hkn : k = n := by omega
        subst hkn
        have HO := Lib.hid hO
        have HT := Lib.hid hT
        clear hO hT
        go_wp2
        go_ret
        refine .inr ⟨Hv.out, _, VR, rfl, ?_, by rw [Hn.out]; exact HT.out, HB3.out.trans (hnx.mono HB3.out.size)⟩
        rw [Hn.out]
        have := HO.out
        unfold Outer
        have e : half VR k k = (List.range k).map VR := List.map_congr_left fun i hi => if_pos (List.mem_range.1 hi)
        rw [← e]; exact this
  · have hv' : vt ts = false := by simpa using hv
    have H1 := Lib.hid (iValidTree_is A c n ts w _ hr hn hc hb (Nat.le_refl _) hv')
    have Hv := Lib.hid hv'
    clear hv hv' hr hn
    go_enter Try.func19, Try.ntmps19
    go_wp2_with fail
    refine H1.out.mono ?_
    rintro e w2 ⟨rfl, hnx2⟩
    have HB2 := Lib.hid hnx2
    clear hnx2
    go_wp2
    go_ret
    exact .inl ⟨Hv.out, rfl, HB2.out⟩
end Go.Proofs.Ytoappopbjnlbdab
