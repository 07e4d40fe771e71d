/-
  TwoGap of the model, walked.
  Conditions: fewer than 2^20 times.
-/
import Derived.Test.YtdkonaaoanggiaaYM
namespace Go.Proofs.Ytdkonaaoanggiaa
open Go.ChangeShapes Go.WideShapes Go.ChangeAt Go.RowKit
set_option linter.unusedVariables false
set_option maxRecDepth 4000

theorem tmod_emod (a m : Int) : (a.tmod m) % m = a % m := by
  have h := Int.mul_tdiv_add_tmod a m
  have e : a.tmod m = a + m * (-(a.tdiv m)) := by rw [Int.mul_neg]; omega
  rw [e, Int.add_mul_emod_self_left]

set_option maxHeartbeats 3200000 in
theorem sTwoGap_ok : YNum2 39 tgY := by
  intro n A c m zs l w h
  obtain ⟨i0, hi0, hz0, hz1, hz2⟩ := info_parts intInfo
  obtain ⟨j0, hj0, hy0, hy1, hy2⟩ := info_parts rowInfo
  have HV := Lib.hid (sValidRound_in n A c m zs w h)
  by_cases hv : vrY n zs = true
  · have hR := vrY_iff.1 hv
    rw [hv] at HV
    by_cases hl : 0 ≤ l ∧ l ≤ 20
    · have H4 := Lib.hid (fun W => inRange_yes l 0 20 W hl.1 hl.2)
      have hs : tgY n zs l = wrY (gpY n.toNat zs l.toNat) := by unfold tgY; rw [if_pos ⟨hv, hl.1, hl.2⟩]
      rw [hs]
      obtain ⟨n, rfl⟩ := Int.eq_ofNat_of_zero_le (show 0 ≤ n by have := hR.n1; omega)
      obtain ⟨l, rfl⟩ := Int.eq_ofNat_of_zero_le hl.1
      rw [Int.toNat_natCast, Int.toNat_natCast]
      have hl20 := hl.2
      have hn8 := hR.n8
      have hm20 := hR.l20
      have hm1 := hR.l1
      have hnums := gpY_nums (n := n) (zs := zs) (l := l) (by have := hR.l1; omega)
      have Hn := Lib.hid h.len
      have HRd := Lib.hid h.rd
      rw [Hn.out] at hm20 hm1
      have H3 : Hid (∀ (A : Option Addr) (c : Nat) (W : World) (B : Nat), RdI W B A (gpY n zs l) → Calls Try.prog 53 #[.slice A n c] W fun e w' => e = .returned (.int .i64 (wrY (gpY n zs l))) ∧ W = w') :=
        fun A c W B hr => worst_any A c n _ W B hr (gpY_len _ _ _) (by omega) hnums
      clear hv hs hR h hnums hl
      go_enter Try.func39, Try.ntmps39
      go_wp2_with fail
      refine HV.out.mono ?_
      rintro e w1 ⟨rfl, hb1⟩
      have HBr := Lib.hid hb1
      clear hb1
      go_wp2_with fail
      refine (H4.out w1).mono ?_
      rintro e w' ⟨rfl, rfl⟩
      have HK0 : Hid (KeptY w1 (w1.alloc (.cells #[] 23)) (.slice (some ⟨w1.heap.size, 0, none⟩) 0 0) (tsY 0 zs l) []) := keptY_nil w1
      go_wp2
      go_loopw [8, 9] (fun o i wr => OutRelY n l zs w1 o i wr) (fun _ i _ => n - (intOf i).toNat)
      case atStart => exact ⟨0, _, _, [], by omega, rfl, rfl, HK0⟩
      case round =>
        clear HK0
        obtain ⟨s, g, c2, vs, hs, rfl, rfl, HK⟩ := hrel
        by_cases hsn : s < n
        · obtain ⟨W, hW⟩ : ∃ W, W = wr := ⟨_, rfl⟩
          subst hW
          have hsz0 := HK.out.bel.size
          have HI0 : Hid (OwnY (W.alloc (.cells #[] 3)) W.heap.size W.heap.size 0 0 (tmI zs l (s : Int) 0)) := ⟨rfl, World.ownsRow_lit W #[] 0 (Nat.le_refl _) (by decide) rfl⟩
          have HJ0 : Hid (Below W.heap.size W (W.alloc (.cells #[] 3))) := (Below.refl _ _).alloc (Nat.le_refl _) _
          go_wp2
          go_loopw [10, 11] (fun o i wr => InRelY l m s zs W o i wr) (fun _ i _ => m - (intOf i).toNat)
          case atStart => exact ⟨0, 0, _, _, by omega, by omega, rfl, rfl, HI0, HJ0⟩
          case round =>
            clear HI0 HJ0
            obtain ⟨j, L, g2, c3, hj, hL, rfl, rfl, HO, HB⟩ := hrel
            have hszr := HB.out.size
            by_cases hjm : j < m
            · obtain ⟨b, off, x, rfl, hbw, Hx, hcx⟩ := ((HRd.out.below HBr.out).more HBr.out.size).below (HK.out.bel.trans (HB.out.mono hsz0)) |>.x (k := j) (by rw [Hn.out]; exact hjm)
              have hlj := bhI_lt (m := m) (l := l) (i := j) (by omega)
              obtain ⟨jj, Hj⟩ : ∃ jj, Hid (bhI m l j = jj) := ⟨_, rfl⟩
              rw [Hj.out] at hlj
              obtain ⟨b', off', y, he, -, Hy', hcy⟩ := ((HRd.out.below HBr.out).more HBr.out.size).below (HK.out.bel.trans (HB.out.mono hsz0)) |>.x (k := jj) (by rw [Hn.out]; exact hlj)
              injection he with he
              injection he with he1 he2
              subst he1 he2
              obtain ⟨t, Ht⟩ : ∃ t, Hid (((j : Int) - (l : Int)).tmod (m : Int) = t) := ⟨_, rfl⟩
              have t1 := Ht.out
              have ht0 : -(m : Int) < t ∧ t < m := by
                rw [← Ht.out]
                have h1 := Int.tmod_lt_of_pos ((j : Int) - (l : Int)) (show (0 : Int) < m by omega)
                have h2 : -(m : Int) < ((j : Int) - (l : Int)).tmod (m : Int) := Int.lt_tmod_of_pos _ (by omega)
                exact ⟨h2, h1⟩
              have t2 : (t + (m : Int)).tmod (m : Int) = (jj : Int) := by
                rw [← Hj.out, bhI_is (by omega), Int.tmod_eq_emod_of_nonneg (by omega), Int.add_emod_right, ← Ht.out]
                exact tmod_emod _ _
              have hw1 : IntKind.i64.wrap (t + (m : Int)) = t + (m : Int) := IntWalk.i64_in _ (by omega)
              have hatx : atY zs l (s : Int) j = ((x == (s : Int)) || (y == (s : Int))) := by unfold atY; rw [Hx.out, Hn.out, Hj.out, Hy'.out]
              by_cases hxs : x = (s : Int)
              · have hb1 : (x == (s : Int)) = true := beq_iff_eq.2 hxs
                have hat : atY zs l (s : Int) j = true := by rw [hatx, hb1]; rfl
                clear hxs hatx
                have Hlen := Lib.hid HO.out.1
                have Hown := Lib.hid HO.out.2
                have hsz : L + 1 ≤ maxLen := by unfold maxLen; omega
                have hsz2 : (L + 1) * 8 ≤ 140737488355328 := by omega
                have hsz3 : W.heap.size ≤ (wr.alloc (.cells #[.int .i64 j] 3)).heap.size := by rw [size_alloc1]; omega
                have Hy := Lib.hid (tmI_yes hat)
                clear hat
                go_wp2_with (at_builtin; refine wpList_append_lies _ rfl _ _ 23 rfl W.heap.size 3 i0 _ 1 8 Try.underlying23 hi0 hz0 hz1 hz2 rfl (by decide) _ _ _ rfl (Hown.out.alloc _) ⟨wr.heap.size, 0, none⟩ 1 1 [.int .i64 j] rfl rfl (cell_one_new _ _ _) (by intro u hu; simp at hu; subst hu; rfl) (by decide) hsz hsz2 hsz3 _ rfl ?_; intro g3 c4 w3 hown3 hgrow3 hat3 hlt3)
                have HO3 : Hid (OwnY w3 W.heap.size g3 c4 (L + 1) (tmI zs l (s : Int) (j + 1))) := by show OwnY _ _ _ _ _ _; rw [Hy.out]; exact ownY_push Hlen.out hown3
                have HB3 : Hid (Below W.heap.size W w3) := (HB.out.alloc hszr _).grown hgrow3 hsz3 (fun q hq => (Hown.out.lt q hq).1)
                clear hown3 hgrow3 hat3 hlt3 Hown HO HB hsz hsz2 hsz3
                go_wp2
                go_roundw
                case rel => exact ⟨j + 1, L + 1, g3, c4, by omega, by omega, rfl, by go_num, HO3, HB3⟩
                case measure => simp [intOf]; omega
              · have hb1 : (x == (s : Int)) = false := by rw [beq_eq_false_iff_ne]; exact hxs
                by_cases hys : y = (s : Int)
                · have hb2 : (y == (s : Int)) = true := beq_iff_eq.2 hys
                  have hat : atY zs l (s : Int) j = true := by rw [hatx, hb1, hb2]; rfl
                  clear hxs hys hatx
                  have Hlen := Lib.hid HO.out.1
                  have Hown := Lib.hid HO.out.2
                  have hsz : L + 1 ≤ maxLen := by unfold maxLen; omega
                  have hsz2 : (L + 1) * 8 ≤ 140737488355328 := by omega
                  have hsz3 : W.heap.size ≤ (wr.alloc (.cells #[.int .i64 j] 3)).heap.size := by rw [size_alloc1]; omega
                  have Hy := Lib.hid (tmI_yes hat)
                  clear hat
                  go_wp2_with (at_builtin; refine wpList_append_lies _ rfl _ _ 23 rfl W.heap.size 3 i0 _ 1 8 Try.underlying23 hi0 hz0 hz1 hz2 rfl (by decide) _ _ _ rfl (Hown.out.alloc _) ⟨wr.heap.size, 0, none⟩ 1 1 [.int .i64 j] rfl rfl (cell_one_new _ _ _) (by intro u hu; simp at hu; subst hu; rfl) (by decide) hsz hsz2 hsz3 _ rfl ?_; intro g3 c4 w3 hown3 hgrow3 hat3 hlt3)
                  have HO3 : Hid (OwnY w3 W.heap.size g3 c4 (L + 1) (tmI zs l (s : Int) (j + 1))) := by show OwnY _ _ _ _ _ _; rw [Hy.out]; exact ownY_push Hlen.out hown3
                  have HB3 : Hid (Below W.heap.size W w3) := (HB.out.alloc hszr _).grown hgrow3 hsz3 (fun q hq => (Hown.out.lt q hq).1)
                  clear hown3 hgrow3 hat3 hlt3 Hown HO HB hsz hsz2 hsz3
                  go_wp2
                  go_roundw
                  case rel => exact ⟨j + 1, L + 1, g3, c4, by omega, by omega, rfl, by go_num, HO3, HB3⟩
                  case measure => simp [intOf]; omega
                · have hb2 : (y == (s : Int)) = false := by rw [beq_eq_false_iff_ne]; exact hys
                  have hat : ¬ atY zs l (s : Int) j = true := by rw [hatx, hb1, hb2]; decide
                  clear hxs hys hatx
                  have HO3 : Hid (OwnY wr W.heap.size g2 c3 L (tmI zs l (s : Int) (j + 1))) := by show OwnY _ _ _ _ _ _; rw [tmI_no hat]; exact HO.out
                  clear hat HO
                  go_wp2
                  go_roundw
                  case rel => exact ⟨j + 1, L, g2, c3, by omega, by omega, rfl, by go_num, HO3, HB⟩
                  case measure => simp [intOf]; omega
            · obtain rfl : j = m := by omega
              have Hl := Lib.hid HO.out.1
              obtain ⟨hLc, hrd⟩ := rdL_own HO.out.2 HO.out.1
              have Hrd := Lib.hid hrd
              have hglo : w1.heap.size ≤ g2 := Nat.le_trans hsz0 (HO.out.2.lt g2 rfl).1
              have HK2 := Lib.hid (HK.out.later HB.out)
              have Hown := Lib.hid HK2.out.own
              have hsz : s + 1 ≤ maxLen := by unfold maxLen; omega
              have hsz2 : (s + 1) * 24 ≤ 140737488355328 := by omega
              have hsz3 : w1.heap.size ≤ (wr.alloc (.cells #[.slice (some ⟨g2, 0, none⟩) L c3] 23)).heap.size := by rw [size_alloc1]; omega
              rw [tsY_len] at Hown
              clear hrd HO HK
              go_wp2_with (at_builtin; refine wpList_append_lies _ rfl _ _ 46 rfl w1.heap.size 23 j0 _ 1 24 Try.underlying46 hj0 hy0 hy1 hy2 rfl (by decide) _ _ _ rfl (Hown.out.alloc _) ⟨wr.heap.size, 0, none⟩ 1 1 [.slice (some ⟨g2, 0, none⟩) L c3] rfl rfl (cell_one_new _ _ _) (by intro u hu; simp at hu; subst hu; rfl) (by decide) hsz hsz2 hsz3 _ rfl ?_; intro g3 c4 w3 hown3 hgrow3 hat3 hlt3)
              have HK3 : Hid (KeptY w1 w3 (.slice (some ⟨g3, 0, none⟩) (s + 1) c4) (tsY (s + 1) zs l) (vs ++ [.slice (some ⟨g2, 0, none⟩) L c3])) := by
                show KeptY _ _ _ _ _
                rw [tsY_succ, Hn.out]
                exact KeptY.push HK2.out Hl.out hLc Hrd.out hglo (by rw [tsY_len]; exact hown3) hgrow3
              clear hown3 hgrow3 hat3 hlt3 Hown HK2 Hrd Hl hsz hsz2 hsz3
              go_wp2
              go_roundw
              case rel => exact ⟨s + 1, g3, c4, _, by omega, rfl, by go_num, HK3⟩
              case measure => simp [intOf]; omega
        · obtain rfl : s = n := by omega
          have HT := Lib.hid (timesIn_of HK.out)
          have HB2 : Hid (Below w.heap.size w wr) := HBr.out.trans (HK.out.bel.mono HBr.out.size)
          clear HK
          go_wp2_with fail
          refine (gapsIn_any _ c2 m s l zs wr _ HT.out Hn.out hm20 (by omega)).mono ?_
          rintro e w3 ⟨A2, c2, rfl, hO, hB⟩
          obtain ⟨A3, c3, he, -, -, hrd⟩ := own_slice hO.out rfl
          injection he with he1 he2 he3
          subst he1 he3
          rw [gpY_len]
          have Hrd := Lib.hid hrd
          have HB3 : Hid (Below w.heap.size w w3) := HB2.out.trans (hB.out.mono HB2.out.size)
          clear hO hB hrd he2
          go_wp2_with fail
          refine (H3.out _ _ w3 _ Hrd.out).mono ?_
          rintro e w4 ⟨rfl, rfl⟩
          go_wp2
          go_ret
          exact ⟨rfl, HB3.out⟩
    · have H4 := Lib.hid (fun W => inRange_no l 0 20 W (by omega))
      have hs : tgY n zs l = -1 := by unfold tgY; rw [if_neg (fun h => hl h.2)]
      rw [hs]
      clear hv hs hR h hl
      go_enter Try.func39, Try.ntmps39
      go_wp2_with fail
      refine HV.out.mono ?_
      rintro e w1 ⟨rfl, hb1⟩
      go_wp2_with fail
      refine (H4.out w1).mono ?_
      rintro e w' ⟨rfl, rfl⟩
      go_wp2
      go_ret
      exact ⟨rfl, hb1⟩
  · have hv' : vrY n zs = false := by simpa using hv
    have hs : tgY n zs l = -1 := by unfold tgY; rw [if_neg (fun h => hv h.1)]
    rw [hv'] at HV
    rw [hs]
    clear hv hv' hs h
    go_enter Try.func39, Try.ntmps39
    go_wp2_with fail
    refine HV.out.mono ?_
    rintro e w1 ⟨rfl, hb1⟩
    go_wp2
    go_ret
    exact ⟨rfl, hb1⟩
end Go.Proofs.Ytdkonaaoanggiaa
