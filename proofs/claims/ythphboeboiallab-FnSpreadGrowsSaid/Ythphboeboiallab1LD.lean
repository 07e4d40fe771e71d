/-
  FnSpreadGrows, walked.
  Conditions: none.
-/
import Derived.Test.Ythphboeboiallab1LM
import Derived.Test.Ythphboeboiallab1MF
import Derived.Deep.CutRange
import Derived.Deep.RegionHeld3
namespace Go.Proofs.Ythphboeboiallab
open Go.ChangeShapes Go.WideShapes Go.ChangeAt Go.RowKit
set_option linter.unusedVariables false
set_option maxRecDepth 4000

set_option maxHeartbeats 3200000 in
theorem lawSpreadGrows_walk (A : Option Addr) (c : Nat) (bs : List Int) (w : World) (hr : RdB w w.heap.size A bs) (hcap : bs.length ≤ c) (hm : c ≤ maxLen) :
    Calls Try.prog 8 #[.slice A bs.length c] w fun e w' => e = .returned (.bool true) ∧ Below w.heap.size w w' := by
  unfold maxLen at hm
  obtain ⟨n0, Hn0⟩ : ∃ n, Hid (bs.length = n) := ⟨_, rfl⟩
  rw [Hn0.out] at hcap ⊢
  have HD := Lib.hid (drawGreedySpread_any A c n0 bs w hr Hn0.out hcap (by omega))
  clear hr
  by_cases hb : 1048576 < n0
  · go_enter Try.func8, Try.ntmps8
    go_wp2
    go_ret
    exact ⟨rfl, Below.refl _ _⟩
  · go_enter Try.func8, Try.ntmps8
    go_wp2_with fail
    refine HD.out.mono ?_
    rintro e w1 ⟨A1, c1, n, zs, k, far, u, d, rfl, hn10, hk, hf, hud, hin, hb1⟩
    obtain ⟨W1, pb, HW1, Hr1, Hc1, HB1, Hs1⟩ := boxU u d w1
    have E1 : Hid (LAt w pb u d A1 c1 n zs W1) := ⟨hin.out.later HB1.out, Hc1.out, hb1.out.trans (HB1.out.mono hb1.out.size)⟩
    obtain ⟨q0, q1⟩ := E1.out.cells
    rw [← HW1.out, ← Hr1.out] at q0 q1
    clear hin hb1 HD hb hcap hm Hc1 HB1 Hs1
    have hL10 := gdQ_len10 zs k far u d
    have Hf0 := Lib.hid (gdQ_some (zs := zs) (k := k) (far := far) (u := u) (d := d))
    obtain ⟨xs, Hx⟩ : ∃ xs, Hid (gdQ zs k far u d = xs) := ⟨_, rfl⟩
    obtain ⟨L, HL⟩ : ∃ L, Hid (xs.length = L) := ⟨_, rfl⟩
    rw [Hx.out, HL.out] at hL10
    have Hf : Hid (L ≠ 0 → vsB zs k far u d = true) := fun h => by
      have := Hf0.out; rw [Hx.out, HL.out] at this; exact this h
    have HI := Lib.hid (SpC.row iGreedySpread_ok Hx.out HL.out hL10)
    have HS := Lib.hid (SpC.row sGreedySpread_ok Hx.out HL.out hL10)
    clear Hf0
    obtain ⟨Kk, HKk⟩ : ∃ Kk, Hid (IntKind.i64.wrap (k + 1) = Kk) := ⟨_, rfl⟩
    have hKk : Kk = k + 1 := by rw [← HKk.out]; exact IntWalk.i64_in _ (by omega)
    obtain ⟨xb, Hxb⟩ : ∃ xb, Hid (bsQ zs k far u d = xb) := ⟨_, rfl⟩
    obtain ⟨Lb, HLb⟩ : ∃ Lb, Hid (xb.length = Lb) := ⟨_, rfl⟩
    obtain ⟨xc, Hxc⟩ : ∃ xc, Hid (bsQ zs Kk far u d = xc) := ⟨_, rfl⟩
    obtain ⟨Lc, HLc⟩ : ∃ Lc, Hid (xc.length = Lc) := ⟨_, rfl⟩
    have hLb10 : Lb ≤ 10 := by rw [← HLb.out, ← Hxb.out]; exact bsQ_len10 _ _ _ _ _
    have hLc10 : Lc ≤ 10 := by rw [← HLc.out, ← Hxc.out]; exact bsQ_len10 _ _ _ _ _
    have HB1 := Lib.hid (SpC.row iBestSpread_ok Hxb.out HLb.out hLb10)
    have HB2 := Lib.hid (SpC.row iBestSpread_ok Hxc.out HLc.out hLc10)
    obtain ⟨x1, y1, Hm1⟩ : ∃ x1 y1, Hid (mrQ zs xb far u d = (x1, y1)) := ⟨_, _, rfl⟩
    obtain ⟨o1, Ho1⟩ : ∃ o1, Hid (okM zs xb far u d = o1) := ⟨_, rfl⟩
    obtain ⟨x2, y2, Hm2⟩ : ∃ x2 y2, Hid (mrQ zs xc far u d = (x2, y2)) := ⟨_, _, rfl⟩
    obtain ⟨o2, Ho2⟩ : ∃ o2, Hid (okM zs xc far u d = o2) := ⟨_, rfl⟩
    have HM1 : Hid (∀ A A' c c' W, PIn W A c n zs → PIn W A' c' Lb xb → PartQ W A' Lb c' xb → Calls Try.prog 18 #[.slice A n c, .slice A' Lb c', .int .i64 far, .agg #[.int .i64 u, .int .i64 d]] W (FrM x1 y1 o1 W)) := fun A A' c c' W hp hq hr => by
      have := iMeanReached_ok A A' c c' n Lb zs xb far u d W hp hq hr
      rw [Hm1.out, Ho1.out] at this
      exact this
    have HM2 : Hid (∀ A A' c c' W, PIn W A c n zs → PIn W A' c' Lc xc → PartQ W A' Lc c' xc → Calls Try.prog 18 #[.slice A n c, .slice A' Lc c', .int .i64 far, .agg #[.int .i64 u, .int .i64 d]] W (FrM x2 y2 o2 W)) := fun A A' c c' W hp hq hr => by
      have := iMeanReached_ok A A' c c' n Lc zs xc far u d W hp hq hr
      rw [Hm2.out, Ho2.out] at this
      exact this
    have Hfin : Hid (L ≠ 0 → k < 4 → o1 = true ∧ o2 = true ∧ ∃ P Q : Nat, (x1 : Int) * (y2 : Int) = (P : Int) ∧ (x2 : Int) * (y1 : Int) = (Q : Int) ∧ P ≤ Q ∧ Q ≤ 1000000000) := fun h0 hk4 => by
      have hv := Hf.out h0
      have hv2 := vsB_k (k' := Kk) hv (by omega) (by omega)
      have hl1 := HLb.out; have hl2 := HLc.out; have h3 := Hxb.out; have h4 := Hxc.out; have h5 := Hm1.out; have h6 := Hm2.out; have h7 := Ho1.out; have h8 := Ho2.out
      obtain ⟨v1, v2, v3, v4, v5, K, U, D, rfl, v6, rfl, rfl, v7, v8, v9⟩ := vsB_get hv
      obtain rfl : Kk = ((K + 1 : Nat) : Int) := by omega
      rw [bsQ_yes hv] at h3
      rw [bsQ_yes hv2] at h4
      have m1 := bstL_mem (f := rcB (nrF far) U D zs) (vh_asc v1) v2 K
      have m2 := bstL_mem (f := rcB (nrF far) U D zs) (vh_asc v1) v2 (K + 1)
      have bg := best_grows (nr := nrF far) (U := U) (D := D) v7 (vh_asc v1) v2 K
      rw [h3] at m1 bg
      rw [h4] at m2 bg
      obtain ⟨a2, a3⟩ := spL_len m1
      obtain ⟨b2, b3⟩ := spL_len m2
      have a1 := spL_asc (vh_asc v1) m1
      have b1 := spL_asc (vh_asc v1) m2
      have k1 := okM_of (far := far) (U := U) (D := D) v1 (vh_spread v1 a1 (by omega) fun t ht => inB_mem (a3 t ht)) (by omega) v4 v5 v7 v8 v9
      have k2 := okM_of (far := far) (U := U) (D := D) v1 (vh_spread v1 b1 (by omega) fun t ht => inB_mem (b3 t ht)) (by omega) v4 v5 v7 v8 v9
      rw [mrQ_yes k1] at h5
      rw [mrQ_yes k2] at h6
      have cr := mnB_more (nr := nrF far) (U := U) (D := D) v8 (zs := zs) (a := xb) (b := xc) (by omega) bg
      rw [h5, h6] at cr
      have d1 := mn_bd h5 (by omega) (by omega) v8 v9
      have d2 := mn_bd h6 (by omega) (by omega) v8 v9
      refine ⟨by rw [← h7]; exact k1, by rw [← h8]; exact k2, x1 * y2, x2 * y1, by push_cast; rfl, by push_cast; rfl, cr, ?_⟩
      exact Nat.mul_le_mul d2.1 d1.2.1
    have hKb := HKk.out
    clear Hf hKk
    go_wp2_with fail
    rw [HW1.out, Hr1.out]
    clear q0 q1
    have KC0 : Hid (∀ W, Below W1.heap.size W1 W → W.cell? ⟨pb, 0, none⟩ = some (.int .i64 u) ∧ W.cell? ⟨pb, 1, none⟩ = some (.int .i64 d)) := fun W hW => (E1.out.later hW).cells
    obtain ⟨q0, q1⟩ := KC0.out W1 (Below.refl _ _)
    go_region_held3 (fun W' => W'.cell? ⟨pb, 0, none⟩ = some (.int .i64 u) ∧ W'.cell? ⟨pb, 1, none⟩ = some (.int .i64 d))
      (first
        | go_keep
        | exact KC0.out _ hx1
        | exact KC0.out _ hx2
        | exact KC0.out _ hx3)
      (first
        | (go_at_call 24
           refine (HI.out _ _ _ _ (E1.out.later (by first | exact Below.refl _ _ | exact (Below.refl _ _).drew)).pin).mono ?_
           rintro e f1 ⟨P1, s1, rfl, Y1, -, hq1⟩
           have hx1 : Below W1.heap.size W1 f1 := (by first | exact hq1.out | exact (Below.refl W1.heap.size W1).drew.trans hq1.out))
        | (go_at_call 26
           refine (HS.out _ _ _ _ (E1.out.later hx1).pin).mono ?_
           rintro e f2 ⟨P2, s2, rfl, Y2, -, hq2⟩
           have hx2 : Below W1.heap.size W1 f2 := hx1.trans (hq2.out.mono hx1.size)
           have Y1b := Y1.out.later hq2.out)
        | (go_at_call 15
           refine (calls_drawn (eqLi_same P1 P2 s1 s2 L L xs f2 _ _ Y1b.rd Y1b.len Y2.out.rd Y2.out.len (by omega))).mono ?_
           rintro e w2 ⟨rfl, hq3⟩
           have hx3 : Below W1.heap.size W1 w2 := hx2.trans (hq3.mono hx2.size)))
    have E2 := Lib.hid (E1.out.later hx3)
    clear q0 q1 hx1 hx2 hx3 hq1 hq2 hq3 Y1 Y2 Y1b E1 KC0
    obtain ⟨q0, q1⟩ := E2.out.cells
    go_wp2_with fail
    refine (HI.out _ _ _ w2 E2.out.pin).mono ?_
    rintro e w3 ⟨A3, c3, rfl, -, -, hq⟩
    have E3 := Lib.hid (E2.out.later hq.out)
    clear hq E2 q0 q1 HI HS
    have KS : Hid (∀ (W : World) (N : Nat) (u0 u1 : Value), N ≠ pb → (W.cell? ⟨pb, 0, none⟩ = some (.int .i64 u) ∧ W.cell? ⟨pb, 1, none⟩ = some (.int .i64 d)) →
        ((W.setCell ⟨N, 0, none⟩ u0).setCell ⟨N, 1, none⟩ u1).cell? ⟨pb, 0, none⟩ = some (.int .i64 u) ∧ ((W.setCell ⟨N, 0, none⟩ u0).setCell ⟨N, 1, none⟩ u1).cell? ⟨pb, 1, none⟩ = some (.int .i64 d)) := fun W N u0 u1 hne hh => by
      have hq : ∀ j, ((W.setCell ⟨N, 0, none⟩ u0).setCell ⟨N, 1, none⟩ u1).cell? ⟨pb, j, none⟩ = W.cell? ⟨pb, j, none⟩ := fun j => by
        rw [World.cell?_setCell_other _ ⟨N, 1, none⟩ _ _ (by intro e; injection e with e1 e2; exact hne e1), World.cell?_setCell_other _ ⟨N, 0, none⟩ _ _ (by intro e; injection e with e1 e2; exact hne e1)]
      rw [hq, hq]
      exact hh
    obtain ⟨q0, q1⟩ := E3.out.cells
    go_upto_region 7 with fail
    clear q0 q1
    have KC3 : Hid (∀ W, Below w3.heap.size w3 W → W.cell? ⟨pb, 0, none⟩ = some (.int .i64 u) ∧ W.cell? ⟨pb, 1, none⟩ = some (.int .i64 d)) := fun W hW => (E3.out.later hW).cells
    have HK3 := Lib.hid (KC3.out w3 (Below.refl _ _))
    have hpbw3 : pb < w3.heap.size := box_lt E3.out.box
    obtain ⟨k0, k1⟩ := HK3.out
    go_cut [8, 9] from 39 to 50 (fun pv tv wx => ∃ N : Nat, pv = .pointer (some ⟨N, 0, none⟩) ∧ tv = .bool o1 ∧ Hid (Below w3.heap.size w3 wx) ∧ Hid (wx.heap[N]? = some (.cells #[.int .i64 (x1 : Int), .int .i64 (y1 : Int)] 30 (0, 0))))
    case first =>
      go_region_held3 (fun W' => W'.cell? ⟨pb, 0, none⟩ = some (.int .i64 u) ∧ W'.cell? ⟨pb, 1, none⟩ = some (.int .i64 d))
        (first
        | go_keep
        | exact HK3.out
        | exact KC3.out _ (by first | exact Below.refl _ _ | exact belowA1 (Below.refl _ _) _ | exact Below.drew (Below.refl _ _) | exact belowA1 (Below.drew (Below.refl _ _)) _ | exact Below.drew (belowA1 (Below.refl _ _) _))
        | exact KC3.out _ (by first | exact hxa | exact belowA1 (hxa) _ | exact Below.drew (hxa) | exact belowA1 (Below.drew (hxa)) _ | exact Below.drew (belowA1 (hxa) _))
        | exact KC3.out _ (by first | exact hxb | exact belowA1 (hxb) _ | exact Below.drew (hxb) | exact belowA1 (Below.drew (hxb)) _ | exact Below.drew (belowA1 (hxb) _))
        | exact KS.out _ _ _ _ (by first | exact Nat.ne_of_gt hpbw3 | (have := hxa.size; omega) | (have := hxb.size; omega)) (KC3.out _ hxb)
        | fail)
        (first
        | (go_at_call 22
           refine (HB1.out _ _ _ _ (E3.out.later (by first | exact Below.refl _ _ | exact belowA1 (Below.refl _ _) _ | exact Below.drew (Below.refl _ _) | exact belowA1 (Below.drew (Below.refl _ _)) _ | exact Below.drew (belowA1 (Below.refl _ _) _))).pin).mono ?_
           rintro e va ⟨Pa, sa, rfl, Ya, Qa, hqa⟩
           have hxa : Below w3.heap.size w3 va := chain_up (by first | exact Below.refl _ _ | exact belowA1 (Below.refl _ _) _ | exact Below.drew (Below.refl _ _) | exact belowA1 (Below.drew (Below.refl _ _)) _ | exact Below.drew (belowA1 (Below.refl _ _) _)) hqa.out
           first | (have na := newcell hqa.out) | (have na := newcellD hqa.out) | skip)
        | (go_at_call 18
           have z4 : ∀ W, Below va.heap.size va W → Calls Try.prog 18 #[.slice A1 n c1, .slice Pa Lb sa, .int .i64 far, .agg #[.int .i64 u, .int .i64 d]] W (FrM x1 y1 o1 W) := fun W hW => HM1.out _ _ _ _ _ (E3.out.later (chain_up hxa hW)).pin (Ya.out.later hW) (Qa.out.later hW)
           refine (z4 _ (by first | exact Below.refl _ _ | exact belowA1 (Below.refl _ _) _ | exact Below.drew (Below.refl _ _) | exact belowA1 (Below.drew (Below.refl _ _)) _ | exact Below.drew (belowA1 (Below.refl _ _) _))).mono ?_
           rintro e vb ⟨rfl, hqb⟩
           have hxb : Below w3.heap.size w3 vb := chain_up (by first | exact hxa | exact belowA1 (hxa) _ | exact Below.drew (hxa) | exact belowA1 (Below.drew (hxa)) _ | exact Below.drew (belowA1 (hxa) _)) hqb
           clear z4
           first | (have nb := newcell hqb) | (have nb := newcellD hqb) | (have nb := keepcell na hqb) | skip
           try (obtain ⟨q0, q1⟩ := frac_cells nb; have f0 := frozen_of_row _ _ 0 _ _ nb; have f1 := frozen_of_row _ _ 1 _ _ nb)))
      all_goals
        go_wp2_with fail
        go_meet
        refine ⟨_, rfl, rfl, ?_, ?_⟩
        · first | exact belowA1 hxb _ | exact (hxb.setCell (by first | exact hxa.size | exact hxb.size | exact Nat.le_refl _) _).setCell (by first | exact hxa.size | exact hxb.size | exact Nat.le_refl _) _
        · first | exact heap_alloc_new _ _ | exact two_set nb
    case rest =>
      obtain ⟨N1, rfl, rfl, B_wc, C_wc⟩ := hcut
      have E4 := Lib.hid (E3.out.later B_wc.out)
      clear k0 k1 HK3 KC3 E3
      obtain ⟨q0, q1⟩ := E4.out.cells
      go_upto_region 8 with fail
      clear q0 q1
      have KC4 : Hid (∀ W, Below wc.heap.size wc W → W.cell? ⟨pb, 0, none⟩ = some (.int .i64 u) ∧ W.cell? ⟨pb, 1, none⟩ = some (.int .i64 d)) := fun W hW => (E4.out.later hW).cells
      have HK4 := Lib.hid (KC4.out wc (Below.refl _ _))
      have hpbw4 : pb < wc.heap.size := box_lt E4.out.box
      obtain ⟨k0, k1⟩ := HK4.out
      go_cut [10, 11] from 51 to 63 (fun pv tv wx => ∃ N : Nat, pv = .pointer (some ⟨N, 0, none⟩) ∧ tv = .bool o2 ∧ Hid (Below wc.heap.size wc wx) ∧ Hid (wx.heap[N]? = some (.cells #[.int .i64 (x2 : Int), .int .i64 (y2 : Int)] 30 (0, 0))))
      case first =>
        go_region_held3 (fun W' => W'.cell? ⟨pb, 0, none⟩ = some (.int .i64 u) ∧ W'.cell? ⟨pb, 1, none⟩ = some (.int .i64 d))
          (first
          | go_keep
          | exact HK4.out
          | exact KC4.out _ (by first | exact Below.refl _ _ | exact belowA1 (Below.refl _ _) _ | exact Below.drew (Below.refl _ _) | exact belowA1 (Below.drew (Below.refl _ _)) _ | exact Below.drew (belowA1 (Below.refl _ _) _))
          | exact KC4.out _ (by first | exact hxa | exact belowA1 (hxa) _ | exact Below.drew (hxa) | exact belowA1 (Below.drew (hxa)) _ | exact Below.drew (belowA1 (hxa) _))
          | exact KC4.out _ (by first | exact hxb | exact belowA1 (hxb) _ | exact Below.drew (hxb) | exact belowA1 (Below.drew (hxb)) _ | exact Below.drew (belowA1 (hxb) _))
          | exact KS.out _ _ _ _ (by first | exact Nat.ne_of_gt hpbw4 | (have := hxa.size; omega) | (have := hxb.size; omega)) (KC4.out _ hxb)
          | fail)
          (first
          | (go_at_call 22
             refine (HB2.out _ _ _ _ (E4.out.later (by first | exact Below.refl _ _ | exact belowA1 (Below.refl _ _) _ | exact Below.drew (Below.refl _ _) | exact belowA1 (Below.drew (Below.refl _ _)) _ | exact Below.drew (belowA1 (Below.refl _ _) _))).pin).mono ?_
             rintro e va ⟨Pa, sa, rfl, Ya, Qa, hqa⟩
             have hxa : Below wc.heap.size wc va := chain_up (by first | exact Below.refl _ _ | exact belowA1 (Below.refl _ _) _ | exact Below.drew (Below.refl _ _) | exact belowA1 (Below.drew (Below.refl _ _)) _ | exact Below.drew (belowA1 (Below.refl _ _) _)) hqa.out
             first | (have na := newcell hqa.out) | (have na := newcellD hqa.out) | skip)
          | (go_at_call 18
             have z4 : ∀ W, Below va.heap.size va W → Calls Try.prog 18 #[.slice A1 n c1, .slice Pa Lc sa, .int .i64 far, .agg #[.int .i64 u, .int .i64 d]] W (FrM x2 y2 o2 W) := fun W hW => HM2.out _ _ _ _ _ (E4.out.later (chain_up hxa hW)).pin (Ya.out.later hW) (Qa.out.later hW)
             refine (z4 _ (by first | exact Below.refl _ _ | exact belowA1 (Below.refl _ _) _ | exact Below.drew (Below.refl _ _) | exact belowA1 (Below.drew (Below.refl _ _)) _ | exact Below.drew (belowA1 (Below.refl _ _) _))).mono ?_
             rintro e vb ⟨rfl, hqb⟩
             have hxb : Below wc.heap.size wc vb := chain_up (by first | exact hxa | exact belowA1 (hxa) _ | exact Below.drew (hxa) | exact belowA1 (Below.drew (hxa)) _ | exact Below.drew (belowA1 (hxa) _)) hqb
             clear z4
             first | (have nb := newcell hqb) | (have nb := newcellD hqb) | (have nb := keepcell na hqb) | skip
             try (obtain ⟨q0, q1⟩ := frac_cells nb; have f0 := frozen_of_row _ _ 0 _ _ nb; have f1 := frozen_of_row _ _ 1 _ _ nb)))
        all_goals
          go_wp2_with fail
          go_meet
          refine ⟨_, rfl, rfl, ?_, ?_⟩
          · first | exact belowA1 hxb _ | exact (hxb.setCell (by first | exact hxa.size | exact hxb.size | exact Nat.le_refl _) _).setCell (by first | exact hxa.size | exact hxb.size | exact Nat.le_refl _) _
          · first | exact heap_alloc_new _ _ | exact two_set nb

      case rest =>
        obtain ⟨N2, rfl, rfl, B_wd, C_wd⟩ := hcut
        have E5 := Lib.hid (E4.out.later B_wd.out)
        obtain ⟨a0, a1⟩ := frac_cells (keepcell C_wc.out B_wd.out)
        obtain ⟨b0, b1⟩ := frac_cells C_wd.out
        clear k0 k1 HK4 KC4 E4
        by_cases h0 : L = 0
        · subst h0
          clear Hfin
          go_wp2
          go_ret
          exact ⟨rfl, E5.out.bel⟩
        · have hl0 : ((L : Int) == 0) = false := by rw [beq_eq_false_iff_ne]; omega
          by_cases hk4 : 4 ≤ k
          · clear Hfin
            go_wp2
            go_ret
            exact ⟨rfl, E5.out.bel⟩
          · obtain ⟨rfl, rfl, P, Q, p1, p2, hPQ, hQ⟩ := Hfin.out h0 (by omega)
            have r1 : IntKind.i64.wrap (P : Int) = (P : Int) := IntWalk.i64_in _ (by omega)
            have r2 : IntKind.i64.wrap (Q : Int) = (Q : Int) := IntWalk.i64_in _ (by omega)
            have s1 : (P : Int) ≤ (Q : Int) := by omega
            clear Hfin h0
            go_wp2
            go_ret
            exact ⟨rfl, E5.out.bel⟩
end Go.Proofs.Ythphboeboiallab
