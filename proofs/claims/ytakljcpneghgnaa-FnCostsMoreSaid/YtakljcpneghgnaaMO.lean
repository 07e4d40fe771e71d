/-
  The law FnCostsMore.
  Conditions: none.
-/
import Derived.Test.YtakljcpneghgnaaLC
namespace Go.Proofs.Ytakljcpneghgnaa
open Go.ChangeShapes Go.WideShapes Go.ChangeAt Go.RowKit
set_option linter.unusedVariables false
set_option maxRecDepth 4000

set_option maxHeartbeats 1600000 in
theorem lawCostsMore_walk (A : Option Addr) (c : Nat) (bs : List Int) (w : World) (hr : RdB w w.heap.size A bs) (hcap : bs.length ≤ c) (hm : c ≤ maxLen) :
    Calls Try.prog 10 #[.slice A bs.length c] w fun e w' => e = .returned (.bool true) ∧ Below w.heap.size w w' := by
  unfold maxLen at hm
  by_cases hb : 1048576 < bs.length
  · go_enter Try.func10, Try.ntmps10
    go_wp2
    go_ret
    exact ⟨rfl, Below.refl _ _⟩
  · have H := Lib.hid (drawLeastCost_any A c bs.length bs w hr rfl hcap hm)
    have HVI := Lib.hid iValidCosts_ok
    have HVS := Lib.hid sValidCosts_ok
    have HLI := Lib.hid iLeastCost_ok
    have HLS := Lib.hid sLeastCost_ok
    have HTI := Lib.hid iCostTried_ok
    have HTS := Lib.hid sCostTried_ok
    go_enter Try.func10, Try.ntmps10
    go_wp2_with fail
    refine H.out.mono ?_
    rintro e w1 ⟨A', c', n, cost, rfl, hn6, N1, HB1⟩
    clear H hr
    have hlen := N1.out.len
    have hbn : ∀ x : Int, (x != x) = false := fun x => by simp
    have hbe : ∀ x : Int, (x == x) = true := fun x => by simp
    obtain ⟨a, Ha⟩ : ∃ a, Hid (lcv cost = a) := ⟨_, rfl⟩
    have hf := lcv_valid (cost := cost)
    rw [Ha.out] at hf
    have Hf := Lib.hid hf
    clear hf
    go_wp2_with fail
    refine (HLI.out _ _ _ cost w1 N1.out).mono ?_
    rintro e w2 ⟨rfl, hq⟩
    rw [Ha.out]
    have N2 := Lib.hid (N1.out.later hq)
    have HB2 := Lib.hid (HB1.out.trans (hq.mono HB1.out.size))
    clear hq
    go_wp2_with fail
    refine (HLS.out _ _ _ cost w2 N2.out).mono ?_
    rintro e w3 ⟨rfl, hq⟩
    rw [Ha.out]
    have N3 := Lib.hid (N2.out.later hq)
    have HB3 := Lib.hid (HB2.out.trans (hq.mono HB2.out.size))
    clear hq
    go_wp2_with fail
    refine (HLI.out _ _ _ cost w3 N3.out).mono ?_
    rintro e w4 ⟨rfl, hq⟩
    rw [Ha.out]
    have N4 := Lib.hid (N3.out.later hq)
    have HB4 := Lib.hid (HB3.out.trans (hq.mono HB3.out.size))
    clear hq
    by_cases ha : a < 0
    · clear Hf
      go_wp2
      go_ret
      exact ⟨rfl, HB4.out⟩
    · by_cases hn0 : n = 0
      · subst hn0
        clear Hf
        go_wp2
        go_ret
        exact ⟨rfl, HB4.out⟩
      · have Hv := Lib.hid (Hf.out (by omega))
        clear Hf
        have hn1 : 1 ≤ n := by omega
        have hnb : ((n : Int) == 0) = false := by rw [beq_eq_false_iff_ne]; omega
        have hab0 : decide (a < 0) = false := decide_eq_false ha
        obtain ⟨ii, hii, hzi0, hzi1, hzi2⟩ := info_parts intInfo
        obtain ⟨is, his, hzs0, hzs1, hzs2⟩ := info_parts slInfo2
        have hrow := fun i hi => vcost_len Hv.out (i := i) hi
        rw [hlen] at hrow
        have Hrow := Lib.hid hrow
        have hbdc := vcost_bd Hv.out
        rw [hlen] at hbdc
        have Hbd := Lib.hid hbdc
        clear hbdc
        have Hm := Lib.hid hlen
        have hab := lcv_bd (cost := cost)
        rw [Ha.out] at hab
        have hwa : IntKind.i64.wrap (a + 1) = a + 1 := IntWalk.i64_in _ (by omega)
        have Hmore := Lib.hid (lcv_more hlen hn1 Hv.out)
        rw [Ha.out] at Hmore
        have HC4 := Lib.hid N4.out.rd
        clear hrow hlen N1 N2 N3 hab hn0
        obtain ⟨X, HX⟩ : ∃ X : Nat → Nat → Int, Hid ((fun i k => clC cost i k + (if 0 = i then 1 else 0)) = X) := ⟨_, rfl⟩
        rw [HX.out] at Hmore
        have hb0 := (Below.refl w4.heap.size w4).alloc (Nat.le_refl _) (.cells #[] 23)
        have ho0 : Outer (w4.alloc (.cells #[] 23)) w4.heap.size 0 (.slice (some ⟨w4.heap.size, 0, none⟩) 0 0) (fun _ => .nilIface) := World.ownsRow_lit w4 #[] 0 (Nat.le_refl _) (by decide) rfl
        have ht0 : TT (w4.alloc (.cells #[] 23)) w4.heap.size 0 (fun _ => .nilIface) (rowX X n) := ⟨fun j hj => by omega, fun i j g hi => by omega⟩
        have HB0 := Lib.hid hb0
        have HO0 := Lib.hid ho0
        have HT0 := Lib.hid ht0
        clear hb0 ho0 ht0
        go_wp2
        go_loopw [5, 6] (fun v i wr => RowsT X w4 n v i wr) (fun _ i _ => n - (intOf i).toNat)
        case atStart => exact ⟨0, _, _, _, Nat.zero_le _, rfl, rfl, HO0.out, HT0.out, HB0.out⟩
        case round =>
          clear HO0 HT0 HB0
          obtain ⟨a', VR, g, cA, ha', rfl, rfl, ho, hT, hnx⟩ := hrel
          have HO := Lib.hid ho
          have HT := Lib.hid hT
          have HB := Lib.hid hnx
          clear ho hT hnx
          by_cases hlt : a' < n
          · have HR0 := Lib.hid (show (wr.alloc (.cells #[] 3)).ownsRow wr.heap.size 3 1 (.slice (some ⟨wr.heap.size, 0, none⟩) 0 0) 0 [] from World.ownsRow_lit wr #[] 0 (Nat.le_refl _) (by decide) rfl)
            have HBr := Lib.hid ((Below.refl wr.heap.size wr).alloc (Nat.le_refl _) (.cells #[] 3))
            obtain ⟨W, HW⟩ : ∃ W, Hid (wr = W) := ⟨_, rfl⟩
            go_wp2
            go_loopw [7, 8] (fun r k wi => RowT X W a' n r k wi) (fun _ k _ => n - (intOf k).toNat)
            case atStart =>
              have := HW.out
              subst this
              exact ⟨0, Nat.zero_le _, rfl, by simpa [rowX] using HR0.out, HBr.out⟩
            case round =>
              clear HR0 HBr
              obtain ⟨j, hj, rfl, hown, hnx⟩ := hrel
              by_cases hjn : j < n
              · have hs1 : j + 1 ≤ maxLen := by unfold maxLen; omega
                have hs2 : (j + 1) * 8 ≤ 140737488355328 := by omega
                have hs3 : ∀ o, W.heap.size ≤ (wr.alloc o).heap.size := fun o => by rw [size_alloc1]; have := hnx.size; omega
                have Hs3 := Lib.hid hs3
                have Hown := Lib.hid hown
                have Hnx := Lib.hid hnx
                have hbW : Below w4.heap.size w4 wr := by
                  have h1 := HB.out
                  have e := HW.out
                  rw [e] at h1
                  exact h1.trans (hnx.mono h1.size)
                obtain ⟨bw, ow, ar, ca, ls, rfl, hbw, Hl, hcl, hca, hcm, hrl⟩ := (HC4.out.below hbW).x (k := a') (by rw [Hm.out]; exact hlt)
                have hlen : ls.length = n := by rw [← Hl.out]; exact Hrow.out a' hlt
                rw [hlen] at hcl hca
                obtain ⟨b, off, x, rfl, hbb, Hx, hcx⟩ := hrl.x (k := j) (by rw [hlen]; exact hjn)
                have hxc : clC cost a' j = x := by unfold clC; rw [Hl.out]; exact Hx.out
                have hxb := Hbd.out a' j hlt hjn
                rw [hxc] at hxb
                clear hown hnx hs3 hbW hrl hlen
                by_cases h0 : a' = 0
                · have hx : Hid (X a' j = x + 1) := by show _ = _; rw [← HX.out]; simp only; rw [hxc, if_pos h0.symm]
                  have hwx : IntKind.i64.wrap (x + 1) = x + 1 := IntWalk.i64_in _ (by omega)
                  have hb1 : ((a' : Int) == 0) = true := by rw [beq_iff_eq]; omega
                  clear h0 hxc
                  go_wp2_with (at_builtin; refine wpList_append_own _ rfl _ _ 23 rfl W.heap.size 3 ii _ 1 8 Try.underlying23 hii hzi0 hzi1 hzi2 rfl (by decide) _ _ _ rfl (Hown.out.alloc _) ⟨_, 0, none⟩ 1 1 [.int .i64 (x + 1)] rfl rfl (cell_one_new _ _ _) (by intro u hu; simp at hu; subst hu; rfl) hs1 hs2 (Hs3.out _) ?_; intro v' w3 hown' hgrow _)
                  have hb3 : Below W.heap.size W w3 := (Hnx.out.alloc Hnx.out.size _).grown hgrow (Hs3.out _) (fun g h => (Hown.out.lt g h).1)
                  have Hown' := Lib.hid hown'
                  have Hb3 := Lib.hid hb3
                  clear hown' hgrow hb3
                  go_wp2
                  go_roundw
                  case rel => exact ⟨j + 1, by omega, by go_num, by rw [rowX_step, hx.out]; simpa using Hown'.out, Hb3.out⟩
                  case measure => simp [intOf]; omega
                · have hx : Hid (X a' j = x) := by show _ = _; rw [← HX.out]; simp only; rw [hxc, if_neg (fun e => h0 e.symm)]; omega
                  have hb1 : ((a' : Int) == 0) = false := by rw [beq_eq_false_iff_ne]; omega
                  clear hxc
                  go_wp2_with (at_builtin; refine wpList_append_own _ rfl _ _ 23 rfl W.heap.size 3 ii _ 1 8 Try.underlying23 hii hzi0 hzi1 hzi2 rfl (by decide) _ _ _ rfl (Hown.out.alloc _) ⟨_, 0, none⟩ 1 1 [.int .i64 x] rfl rfl (cell_one_new _ _ _) (by intro u hu; simp at hu; subst hu; rfl) hs1 hs2 (Hs3.out _) ?_; intro v' w3 hown' hgrow _)
                  have hb3 : Below W.heap.size W w3 := (Hnx.out.alloc Hnx.out.size _).grown hgrow (Hs3.out _) (fun g h => (Hown.out.lt g h).1)
                  have Hown' := Lib.hid hown'
                  have Hb3 := Lib.hid hb3
                  clear hown' hgrow hb3
                  go_wp2
                  go_roundw
                  case rel => exact ⟨j + 1, by omega, by go_num, by rw [rowX_step, hx.out]; simpa using Hown'.out, Hb3.out⟩
                  case measure => simp [intOf]; omega
              · obtain rfl : j = n := by omega
                have e := HW.out
                subst e
                obtain ⟨Ar, cr, rfl, -, -, hA⟩ := own_sliceN hown
                obtain ⟨gr, rfl, -, -⟩ := hA (by omega)
                have hT2 := (HT.out.addRow HB.out.size hnx (rowX_len _ _ _) hown).congr (ls' := rowX X j) (fun i hi => by
                  by_cases e : i = a'
                  · subst e; rw [upd_at]
                  · rw [upd_other _ _ e])
                have ho2 := ownN_below HO.out hnx
                have hb2 := HB.out.trans (hnx.mono HB.out.size)
                have HT2 := Lib.hid hT2
                have HO2 := Lib.hid ho2
                have HB2 := Lib.hid hb2
                clear hT2 ho2 hb2 hown hnx hA HW
                have hs1 : a' + 1 ≤ maxLen := by unfold maxLen; omega
                have hs2 : (a' + 1) * 24 ≤ 140737488355328 := by omega
                have hs3 : ∀ o, w4.heap.size ≤ (wr.alloc o).heap.size := fun o => by rw [size_alloc1]; have := HB2.out.size; omega
                have Hs3 := Lib.hid hs3
                clear hs3
                go_wp2_with (at_builtin; refine wpList_append_lies _ rfl _ _ 24 rfl w4.heap.size 23 is _ 1 24 Try.underlying24 his hzs0 hzs1 hzs2 rfl (by decide) _ _ _ rfl (World.ownsRow.alloc HO2.out _) ⟨_, 0, none⟩ 1 1 [.slice (some ⟨gr, 0, none⟩) j cr] rfl rfl (cell_one_new _ _ _) (by intro u hu; simp at hu; subst hu; rfl) (by decide) hs1 hs2 (Hs3.out _) _ rfl ?_; intro g3 c3 w3 hown3 hgrow3 hat3 hlt3)
                obtain ⟨ho3, hT3, hb3⟩ := tabX_end HT2.out HO2.out HB2.out hown3 hgrow3 (by show (wr.heap.push _).size = _; simp)
                have HT3 := Lib.hid hT3
                have HO3 := Lib.hid ho3
                have HB3 := Lib.hid hb3
                clear hown3 hgrow3 hat3 hlt3 hT3 ho3 hb3
                go_wp2
                go_roundw
                case rel => exact ⟨a' + 1, _, _, _, by omega, by go_num, rfl, HO3.out, HT3.out, HB3.out⟩
                case measure => simp [intOf]; omega
          · obtain rfl : a' = n := by omega
            obtain ⟨A1, c1, e1, hc1, hc2, -⟩ := own_sliceN HO.out
            injection e1 with e2 e3 e4
            subst e4
            have M1 : Hid (CostIn wr (some ⟨g, 0, none⟩) cA a' (tabC X a')) := ⟨rdV_tab HO.out HT.out, tabC_len _ _, ⟨hc1, hc2⟩, tabC_small _ hn6⟩
            have HBf := Lib.hid (HB4.out.trans (HB.out.mono HB4.out.size))
            clear e2 e3 HO HT
            obtain ⟨v, Hvv⟩ : ∃ v, Hid (vcost (tabC X a') = v) := ⟨_, rfl⟩
            go_wp2_with fail
            refine (HVI.out _ _ _ _ wr M1.out).mono ?_
            rintro e w5 ⟨rfl, hq⟩
            rw [Hvv.out]
            have M5 := Lib.hid (M1.out.later hq)
            have HB5 := Lib.hid (HBf.out.trans (hq.mono HBf.out.size))
            clear hq
            cases v with
            | false =>
              go_wp2
              go_ret
              exact ⟨rfl, HB5.out⟩
            | true =>
              have Hmo := Lib.hid (Hmore.out Hvv.out)
              go_wp2_with fail
              refine (HLI.out _ _ _ _ w5 M5.out).mono ?_
              rintro e w6 ⟨rfl, hq⟩
              rw [Hmo.out]
              have HB6 := Lib.hid (HB5.out.trans (hq.mono HB5.out.size))
              clear hq
              go_wp2
              go_ret
              exact ⟨rfl, HB6.out⟩
end Go.Proofs.Ytakljcpneghgnaa
