/-
  The model's table of a tree, walked.
  Conditions: the roads are a tree.
-/
import Derived.Test.YtoappopbjnlbdabUG
import Derived.Test.YtoappopbjnlbdabN3
namespace Go.Proofs.Ytoappopbjnlbdab
open Go.ChangeShapes Go.WideShapes Go.ChangeAt Go.RowKit
set_option linter.unusedVariables false
set_option maxRecDepth 4000

set_option maxHeartbeats 1600000 in
theorem treeTable_any (A : Option Addr) (c n : Nat) (t : List (Int × Int)) (w : World) (hr : RdR w w.heap.size A t) (hn : t.length = n) (hv : vt t = true) :
    Calls Try.prog 53 #[.slice A n c] w (Tabled w t) := by
  obtain ⟨ii, hii, hzi0, hzi1, hzi2⟩ := info_parts intInfo
  obtain ⟨is, his, hzs0, hzs1, hzs2⟩ := info_parts slInfo2
  obtain ⟨h1, h7, -⟩ := (vt_iff t).1 hv
  have Hn := Lib.hid hn
  have Hv := Lib.hid hv
  have ha := Lib.hid (vt_ahead hv)
  rw [hn] at h1 h7
  clear hn hv
  have hb0 := (Below.refl w.heap.size w).alloc (Nat.le_refl _) (.cells #[] 27)
  have ho0 : Outer (w.alloc (.cells #[] 27)) w.heap.size 0 (.slice (some ⟨w.heap.size, 0, none⟩) 0 0) (fun _ => .nilIface) := World.ownsRow_lit w #[] 0 (Nat.le_refl _) (by decide) rfl
  have ht0 : TT (w.alloc (.cells #[] 27)) w.heap.size 0 (fun _ => .nilIface) (rowN t 0) := ⟨fun j hj => by omega, fun i j g hi => by omega⟩
  have HB0 := Lib.hid hb0
  have HO0 := Lib.hid ho0
  have HT0 := Lib.hid ht0
  clear hb0 ho0 ht0
  go_enter Try.func53, Try.ntmps53
  go_wp2
  go_loopw [3, 4] (fun v i wr => TabRel w t v i wr) (fun _ i _ => n - (intOf i).toNat)
  case atStart => exact ⟨0, _, _, _, Nat.zero_le _, rfl, rfl, HO0.out, HT0.out, HB0.out⟩
  case round =>
    clear HO0 HT0 HB0
    obtain ⟨m, VR, g, cA, hm, rfl, rfl, ho, hT, hnx⟩ := hrel
    rw [Hn.out] at hm
    by_cases hlt : m < n
    · have hg0 := (own_heap ho (g := g) rfl)
      have hb1 := hnx.alloc hnx.size (.cells #[] 3)
      have hT1 := (hT.add hnx.size).congr (lsK_start (t := t))
      have ho1 := Outer.congr (VR' := upd VR m (.slice (some ⟨wr.heap.size, 0, none⟩) 0 0)) (ownN_below ho ((Below.refl _ _).alloc (Nat.le_refl _) (.cells #[] 3))) (fun j hj => by rw [upd_other _ _ (by omega)])
      have HB1 := Lib.hid hb1
      have HT1 := Lib.hid hT1
      have HO1 := Lib.hid ho1
      clear hb1 hT1 ho1 ho hT hnx hg0
      go_wp2
      go_loopw [5, 6] (fun r i wr => RowRel w t m g cA r i wr) (fun _ i _ => m - (intOf i).toNat)
      case atStart => exact ⟨0, _, Nat.zero_le _, rfl, (upd_at _ _ _).symm, HO1.out, HT1.out, HB1.out⟩
      case round =>
        clear HO1 HT1 HB1
        obtain ⟨k, VR', hk, rfl, rfl, ho, hT, hnx⟩ := hrel
        by_cases hlk : k < m
        · obtain ⟨b, off, x, y, rfl, -, Hx, hcx, hcy⟩ := (hr.below hnx).x (k := m) (by rw [Hn.out]; exact hlt)
          have hx := vt_to Hv.out (i := m) (by omega) (by rw [Hn.out]; exact hlt)
          obtain ⟨hp, hy1, hy9⟩ := ha.out m (by omega) (by rw [Hn.out]; exact hlt)
          have hy : tlg t m = y := by unfold tlg; rw [Hx.out]
          rw [Hx.out] at hx
          simp only at hx
          subst hx
          rw [hy] at hy1 hy9
          obtain ⟨p, Hp⟩ : ∃ p, Hid (tto t m = p) := ⟨_, rfl⟩
          rw [Hp.out] at hp hcx
          obtain ⟨hd1, hd2⟩ := lsK_get (t := t) hp hlk
          obtain ⟨gp, cp, hvp, hcp⟩ := hT.cells (j := p) (k := k) (by omega) hd2
          have hop := Outer.cell ho hp
          rw [hvp] at hop
          rw [hd1] at hcp
          obtain ⟨lp, Hlp⟩ : ∃ lp, Hid ((lsK t m k p).length = lp) := ⟨_, rfl⟩
          rw [Hlp.out] at hop hd2
          obtain ⟨d, Hd⟩ : ∃ d, Hid (dn t m p k = d) := ⟨_, rfl⟩
          rw [Hd.out] at hcp
          have hdb := dn_bd ha.out m p k (by rw [Hn.out]; omega) hp hlk
          rw [Hd.out] at hdb
          have hdd : dn t (m + 1) m k = d + y := by rw [dn_new hlk, Hp.out, Hd.out, hy]
          have HDD := Lib.hid hdd
          have w1 : IntKind.i64.wrap (d + y) = d + y := IntWalk.i64_in _ (by omega)
          have HO := Lib.hid ho
          have HT := Lib.hid hT
          have HB := Lib.hid hnx
          clear ho hT hnx hdd hd1 hvp
          go_wp2
          go_quiet (fail)
          clear hop hcp hcx hcy w1
          have hT0 := HT.out.drewN nq
          have ho0 := HO.out.drewN nq
          have hb0 := below_drewN HB.out nq
          generalize wr.drewN nq = wq at hT0 ho0 hb0 ⊢
          have HT := Lib.hid hT0
          have HO := Lib.hid ho0
          have HB := Lib.hid hb0
          clear hT0 ho0 hb0
          have hlm : (lsK t m k m).length = k := by unfold lsK; rw [if_pos rfl]; simp
          have hom := HT.out.own m (by omega)
          rw [hlm] at hom
          have Hom := Lib.hid hom
          have Hlm := Lib.hid hlm
          have hk1 : k + 1 ≤ maxLen := by unfold maxLen; omega
          have hk2 : (k + 1) * 8 ≤ 140737488355328 := by omega
          have hsz : ∀ o, w.heap.size ≤ (wq.alloc o).heap.size := fun o => by rw [size_alloc1]; have := HB.out.size; omega
          clear hom hlm
          have hm1 : m + 1 ≤ maxLen := by unfold maxLen; omega
          have hm2 : (m + 1) * 8 ≤ 140737488355328 := by omega
          have hs8 : ∀ (w' : World) o, Below w.heap.size w w' → w.heap.size ≤ (w'.alloc o).heap.size := fun w' o h => by rw [size_alloc1]; have := h.size; omega
          have Hs8 := Lib.hid hs8
          have h1c : ∀ u ∈ [Value.int .i64 (d + y)], u.oneCell' = true := by intro u hu; simp at hu; subst hu; rfl
          have H1c := Lib.hid h1c
          clear hs8 hsz h1c
          go_wp2_with (
            first
            | (
              at_builtin
              refine wpList_append_lies _ rfl _ _ 27 rfl w.heap.size 3 ii _ 1 8 Try.underlying27 hii hzi0 hzi1 hzi2 rfl (by decide) _ _ _ rfl (Hom.out.alloc _) ⟨wq.heap.size, 0, none⟩ 1 1 [.int .i64 (d + y)] rfl rfl (cell_one_new _ _ _) H1c.out (by decide) hk1 hk2 (Hs8.out _ _ HB.out) _ rfl ?_
              intro g2 c2 w2 hown2 hgrow2 hat2 hlt2
              obtain ⟨gk, ck, hT2, ho2, hb2, hvk, hok, cok⟩ := tab_first HT.out HO.out HB.out hlk hown2 hgrow2 hat2
              have HT2 := Lib.hid hT2
              have HO2 := Lib.hid ho2
              have HB2 := Lib.hid hb2
              have Hok := Lib.hid hok
              have Hvk := Lib.hid hvk
              clear hown2 hgrow2 hat2 hlt2 hT2 ho2 hb2 hok hvk)
            | (
              at_builtin
              refine wpList_append_lies _ rfl _ _ 27 rfl w.heap.size 3 ii _ 1 8 Try.underlying27 hii hzi0 hzi1 hzi2 rfl (by decide) _ _ _ rfl (Hok.out.alloc _) ⟨w2.heap.size, 0, none⟩ 1 1 [.int .i64 (d + y)] rfl rfl (cell_one_new _ _ _) H1c.out (by decide) hm1 hm2 (Hs8.out _ _ HB2.out) _ rfl ?_
              intro g3 c3 w3 hown3 hgrow3 hat3 hlt3
              obtain ⟨v3, VR3, hv3, hf3, hm3, hst, hT4, hb4⟩ := tab_second HT2.out HO2.out HB2.out hlk Hvk.out HDD.out hown3 hgrow3 hat3
              have HST := Lib.hid hst
              have HT4 := Lib.hid hT4
              have HB4 := Lib.hid hb4
              have Hm3 := Lib.hid hm3
              clear hown3 hgrow3 hat3 hlt3 hst hT4 hb4 hm3))
          go_roundw
          case rel => exact ⟨k + 1, VR3, by omega, by go_num, Hm3.out.symm, HST.out, HT4.out, HB4.out⟩
          case measure => simp [intOf]; omega
        · have hkm : k = m := by omega
          subst hkm
          have hlm : (lsK t k k k).length = k := by unfold lsK; rw [if_pos rfl]; simp
          have hom := hT.own k (by omega)
          rw [hlm] at hom
          have Hom := Lib.hid hom
          have HT := Lib.hid hT
          have HO := Lib.hid ho
          have HB := Lib.hid hnx
          have hm1 : k + 1 ≤ maxLen := by unfold maxLen; omega
          have hm2 : (k + 1) * 8 ≤ 140737488355328 := by omega
          have hm3 : (k + 1) * 24 ≤ 140737488355328 := by omega
          have hs8 : ∀ (w' : World) o, Below w.heap.size w w' → w.heap.size ≤ (w'.alloc o).heap.size := fun w' o h => by rw [size_alloc1]; have := h.size; omega
          have Hs8 := Lib.hid hs8
          have h1c : ∀ u ∈ [Value.int .i64 0], u.oneCell' = true := by intro u hu; simp at hu; subst hu; rfl
          have H1c := Lib.hid h1c
          have h1s : ∀ a b c, ∀ u ∈ [Value.slice a b c], u.oneCell' = true := by intro a b c u hu; simp at hu; subst hu; rfl
          have H1s := Lib.hid h1s
          clear hs8 h1c h1s hom hlm hT ho hnx
          rename_i wz _
          go_wp2_with (
            first
            | (
              at_builtin
              refine wpList_append_lies _ rfl _ _ 27 rfl w.heap.size 3 ii _ 1 8 Try.underlying27 hii hzi0 hzi1 hzi2 rfl (by decide) _ _ _ rfl (Hom.out.alloc _) ⟨_, 0, none⟩ 1 1 [.int .i64 0] rfl rfl (cell_one_new _ _ _) H1c.out (by decide) hm1 hm2 (Hs8.out _ _ HB.out) _ rfl ?_
              intro g2 c2 w2 hown2 hgrow2 hat2 hlt2
              obtain ⟨hT2, ho2, hb2⟩ := tab_end1 HT.out HO.out HB.out hown2 hgrow2 hat2
              have HT2 := Lib.hid hT2
              have HO2 := Lib.hid ho2
              have HB2 := Lib.hid hb2
              clear hown2 hgrow2 hat2 hlt2 hT2 ho2 hb2)
            | (
              at_builtin
              refine wpList_append_lies _ rfl _ _ 31 rfl w.heap.size 27 is _ 1 24 Try.underlying31 his hzs0 hzs1 hzs2 rfl (by decide) _ _ _ rfl (World.ownsRow.alloc HO2.out _) ⟨w2.heap.size, 0, none⟩ 1 1 [.slice (some ⟨g2, 0, none⟩) (k + 1) c2] rfl rfl (cell_one_new _ _ _) (H1s.out _ _ _) (by decide) hm1 hm3 (Hs8.out _ _ HB2.out) _ rfl ?_
              intro g3 c3 w3 hown3 hgrow3 hat3 hlt3
              obtain ⟨ho3, hT3, hb3⟩ := tab_end2 HT2.out HO2.out HB2.out hown3 hgrow3
              have HT3 := Lib.hid hT3
              have HO3 := Lib.hid ho3
              have HB3 := Lib.hid hb3
              clear hown3 hgrow3 hat3 hlt3 hT3 ho3 hb3))
          go_roundw
          case rel => exact ⟨k + 1, _, _, _, by rw [Hn.out]; omega, by go_num, rfl, HO3.out, HT3.out, HB3.out⟩
          case measure => simp [intOf]; omega
    · have hmn : m = n := by omega
      subst hmn
      have HO := Lib.hid ho
      have HT := Lib.hid hT
      clear ho hT
      go_wp2
      go_ret
      exact ⟨_, VR, rfl, by rw [Hn.out]; exact HO.out, by rw [Hn.out]; exact HT.out, hnx⟩
end Go.Proofs.Ytoappopbjnlbdab
