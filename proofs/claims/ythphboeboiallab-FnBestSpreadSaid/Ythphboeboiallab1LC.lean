/-
  FnBestSpread, walked.
  Conditions: none.
-/
import Derived.Test.Ythphboeboiallab1LM
import Derived.Test.Ythphboeboiallab1MF
import Derived.Deep.CutRange
import Derived.Deep.RegionHeld3
namespace Go.Proofs.Ythphboeboiallab
open Go.ChangeShapes Go.WideShapes Go.ChangeAt Go.RowKit
set_option linter.unusedVariables false
set_option maxRecDepth 4000

set_option maxHeartbeats 3200000 in
theorem lawBestSpread_walk (A : Option Addr) (c : Nat) (bs : List Int) (w : World) (hr : RdB w w.heap.size A bs) (hcap : bs.length ≤ c) (hm : c ≤ maxLen) :
    Calls Try.prog 5 #[.slice A bs.length c] w fun e w' => e = .returned (.bool true) ∧ Below w.heap.size w w' := by
  unfold maxLen at hm
  obtain ⟨n0, Hn0⟩ : ∃ n, Hid (bs.length = n) := ⟨_, rfl⟩
  rw [Hn0.out] at hcap ⊢
  have HD := Lib.hid (drawBestSpread_any A c n0 bs w hr Hn0.out hcap (by omega))
  clear hr
  by_cases hb : 1048576 < n0
  · go_enter Try.func5, Try.ntmps5
    go_wp2
    go_ret
    exact ⟨rfl, Below.refl _ _⟩
  · go_enter Try.func5, Try.ntmps5
    go_wp2_with fail
    refine HD.out.mono ?_
    rintro e w1 ⟨A1, c1, n, zs, k, far, u, d, rfl, hn10, hk, hf, hud, hin, hb1⟩
    obtain ⟨W1, pb, HW1, Hr1, Hc1, HB1, Hs1⟩ := boxU u d w1
    have E1 : Hid (LAt w pb u d A1 c1 n zs W1) := ⟨hin.out.later HB1.out, Hc1.out, hb1.out.trans (HB1.out.mono hb1.out.size)⟩
    obtain ⟨q0, q1⟩ := E1.out.cells
    rw [← HW1.out, ← Hr1.out] at q0 q1
    clear hin hb1 HD hb hcap hm Hc1 HB1 Hs1
    have hL10 := bsQ_len10 zs k far u d
    have Hf0 := Lib.hid (bsQ_some (zs := zs) (k := k) (far := far) (u := u) (d := d))
    obtain ⟨xs, Hx⟩ : ∃ xs, Hid (bsQ zs k far u d = xs) := ⟨_, rfl⟩
    obtain ⟨L, HL⟩ : ∃ L, Hid (xs.length = L) := ⟨_, rfl⟩
    rw [Hx.out, HL.out] at hL10
    have Hf : Hid (L ≠ 0 → vsB zs k far u d = true) := fun h => by
      have := Hf0.out; rw [Hx.out, HL.out] at this; exact this h
    have HI := Lib.hid (SpC.row iBestSpread_ok Hx.out HL.out hL10)
    have HS := Lib.hid (SpC.row sBestSpread_ok Hx.out HL.out hL10)
    clear Hf0
    go_wp2_with fail
    rw [HW1.out]
    refine (HI.out _ _ _ W1 E1.out.pin).mono ?_
    rintro e w2 ⟨A3, c3, rfl, G2, P2, hq⟩
    have E2 := Lib.hid (E1.out.later hq.out)
    clear hq E1 q0 q1
    obtain ⟨q0, q1⟩ := E2.out.cells
    rw [Hr1.out]
    go_wp2_with fail
    refine (HS.out _ _ _ w2 E2.out.pin).mono ?_
    rintro e w3 ⟨A4, c4, rfl, R3, -, hq⟩
    have E3 := Lib.hid (E2.out.later hq.out)
    have G3 := Lib.hid (G2.out.later hq.out)
    have P3 := Lib.hid (P2.out.later hq.out)
    clear hq E2 G2 P2 q0 q1
    go_wp2_with fail
    refine (calls_drawn (eqLi_same A3 A4 c3 c4 L L xs w3 _ _ G3.out.rd G3.out.len R3.out.rd R3.out.len (by omega))).mono ?_
    rintro e w4 ⟨rfl, hq⟩
    have E4 := Lib.hid (E3.out.later hq)
    have G4 := Lib.hid (G3.out.later hq)
    have P4 := Lib.hid (P3.out.later hq)
    clear hq E3 G3 P3 R3
    obtain ⟨q0, q1⟩ := E4.out.cells
    by_cases h0 : L = 0
    · subst h0
      clear Hf
      go_wp2_with fail
      refine (HS.out _ _ _ w4 E4.out.pin).mono ?_
      rintro e w5 ⟨A5, c5, rfl, R5, -, hq⟩
      have E5 := Lib.hid (E4.out.later hq.out)
      have G5 := Lib.hid (G4.out.later hq.out)
      clear hq q0 q1
      go_wp2_with fail
      refine (calls_drawn (eqLi_same A3 A5 c3 c5 0 0 xs w5 _ _ G5.out.rd G5.out.len R5.out.rd R5.out.len (by omega))).mono ?_
      rintro e w6 ⟨rfl, hq⟩
      have E6 := Lib.hid (E5.out.later hq)
      clear hq
      go_wp2
      go_ret
      exact ⟨rfl, E6.out.bel⟩
    · have hv := Hf.out h0
      obtain ⟨v1, v2, v3, v4, v5, K, U, D, rfl, v6, rfl, rfl, v7, v8, v9⟩ := vsB_get hv
      have hl0 : ((L : Int) == 0) = false := by rw [beq_eq_false_iff_ne]; omega
      have hbs : xs = bstL (rcB (nrF far) U D zs) zs K := by rw [← Hx.out, bsQ_yes hv]
      have hmem := bstL_mem (f := rcB (nrF far) U D zs) (vh_asc v1) v2 K
      rw [← hbs] at hmem
      obtain ⟨a2, a3⟩ := spL_len hmem
      have a1 := spL_asc (vh_asc v1) hmem
      obtain rfl : K = L := by rw [← a2]; exact HL.out
      obtain ⟨ys, Hy⟩ : ∃ ys, Hid (gdL (rcB (nrF far) U D zs) zs K = ys) := ⟨_, rfl⟩
      obtain ⟨g1, g2, g3⟩ := gdL_asc (rcB (nrF far) U D zs) v2 K
      obtain ⟨bg1, bg2⟩ := best_greedy (nr := nrF far) v7 v8 (vh_asc v1) v2 K
      rw [Hy.out] at g1 g2 g3
      rw [Hy.out, ← hbs] at bg1 bg2
      obtain ⟨x1, y1, Hm1⟩ : ∃ x1 y1, Hid (mnB (nrF far) U D zs xs = (x1, y1)) := ⟨_, _, rfl⟩
      obtain ⟨x2, y2, Hm2⟩ : ∃ x2 y2, Hid (mnB (nrF far) U D zs ys = (x2, y2)) := ⟨_, _, rfl⟩
      have c1' := mnB_as (nr := nrF far) (U := U) (k := 1) v8 (zs := zs) (a := ys) (b := xs) (by rw [g2, a2]) (by omega)
      have c2' := mnB_as (nr := nrF far) (U := U) (k := 2) v8 (zs := zs) (a := xs) (b := ys) (by rw [g2, a2]) bg2
      rw [Hm1.out, Hm2.out] at c1' c2'
      have d1 := mn_bd Hm1.out (by omega) (by omega) v8 v9
      have d2 := mn_bd Hm2.out (by omega) (by omega) v8 v9
      have HM1 := Lib.hid (MnC.yes iMeanReached_ok (okM_of v1 (vh_spread v1 a1 (by omega) fun t ht => inB_mem (a3 t ht)) (by omega) v4 v5 v7 v8 v9) Hm1.out)
      have HM2 := Lib.hid (MnC.yes iMeanReached_ok (okM_of v1 (vh_spread v1 g1 (by omega) g3) (by omega) v4 v5 v7 v8 v9) Hm2.out)
      have HG := Lib.hid (SpC.row iGreedySpread_ok ((gdQ_yes hv).trans Hy.out) g2 (by omega))
      obtain ⟨P, HP⟩ : ∃ P, Hid (x1 * y2 = P) := ⟨_, rfl⟩
      obtain ⟨Q, HQ⟩ : ∃ Q, Hid (x2 * y1 = Q) := ⟨_, rfl⟩
      obtain ⟨T, HT⟩ : ∃ T, Hid (2 * x2 = T) := ⟨_, rfl⟩
      obtain ⟨R, HR⟩ : ∃ R, Hid (T * y1 = R) := ⟨_, rfl⟩
      have e1 : P ≤ 1000000000 := by rw [← HP.out]; exact Nat.mul_le_mul d1.1 d2.2.1
      have e2 : Q ≤ 1000000000 := by rw [← HQ.out]; exact Nat.mul_le_mul d2.1 d1.2.1
      have e3 : R = 2 * Q := by rw [← HR.out, ← HT.out, ← HQ.out, Nat.mul_assoc]
      simp only at c1' c2'
      rw [HP.out, HQ.out] at c1' c2'
      have p1 : (x1 : Int) * (y2 : Int) = (P : Int) := by rw [← HP.out]; push_cast; rfl
      have p2 : (x2 : Int) * (y1 : Int) = (Q : Int) := by rw [← HQ.out]; push_cast; rfl
      have p3 : 2 * (x2 : Int) = (T : Int) := by rw [← HT.out]; push_cast; rfl
      have p4 : (T : Int) * (y1 : Int) = (R : Int) := by rw [← HR.out]; push_cast; rfl
      have r1 : IntKind.i64.wrap (P : Int) = (P : Int) := IntWalk.i64_in _ (by omega)
      have r2 : IntKind.i64.wrap (Q : Int) = (Q : Int) := IntWalk.i64_in _ (by omega)
      have r3 : IntKind.i64.wrap (T : Int) = (T : Int) := IntWalk.i64_in _ (by have := HT.out; omega)
      have r4 : IntKind.i64.wrap (R : Int) = (R : Int) := IntWalk.i64_in _ (by omega)
      have s1 : (Q : Int) ≤ (P : Int) := by omega
      have s2 : (P : Int) ≤ (R : Int) := by omega
      have hn1 : n ≤ 1048576 := by omega
      clear HI HS Hf hv hbs a1 a2 a3 g1 g2 g3 bg1 bg2 c1' c2' v1 v2 v3 v4 v5 v6 v7 v8 v9 hmem d1 d2 e1 e2 e3
      have hAR := And.intro (And.intro (And.intro p1 p2) (And.intro p3 p4)) (And.intro (And.intro r1 r2) (And.intro (And.intro r3 r4) (And.intro s1 s2)))
      have HAR := Lib.hid hAR
      clear hAR p1 p2 p3 p4 r1 r2 r3 r4 s1 s2
      go_wp2_with fail
      refine (HM1.out _ _ _ _ _ _ w4 E4.out.pin G4.out P4.out).mono ?_
      rintro e w5 ⟨rfl, hq⟩
      have E5 := Lib.hid (E4.out.later hq)
      clear hq q0 q1
      obtain ⟨W5, r8, HW5, Hr8, Hc8, HB5, Hs5⟩ := boxU (x1 : Int) (y1 : Int) w5
      have E6 := Lib.hid (E5.out.later HB5.out)
      have KC : Hid (∀ W, Below W5.heap.size W5 W → W.cell? ⟨pb, 0, none⟩ = some (.int .i64 (U : Int)) ∧ W.cell? ⟨pb, 1, none⟩ = some (.int .i64 (D : Int))) := fun W hW => (E6.out.later hW).cells
      have HK := Lib.hid (KC.out W5 (Below.refl _ _))
      have hpbw : pb < W5.heap.size := box_lt E6.out.box
      have KS : Hid (∀ (W : World) (N : Nat) (u0 u1 : Value), N ≠ pb → (W.cell? ⟨pb, 0, none⟩ = some (.int .i64 (U : Int)) ∧ W.cell? ⟨pb, 1, none⟩ = some (.int .i64 (D : Int))) →
          ((W.setCell ⟨N, 0, none⟩ u0).setCell ⟨N, 1, none⟩ u1).cell? ⟨pb, 0, none⟩ = some (.int .i64 (U : Int)) ∧ ((W.setCell ⟨N, 0, none⟩ u0).setCell ⟨N, 1, none⟩ u1).cell? ⟨pb, 1, none⟩ = some (.int .i64 (D : Int))) := fun W N u0 u1 hne hh => by
        have hq : ∀ j, ((W.setCell ⟨N, 0, none⟩ u0).setCell ⟨N, 1, none⟩ u1).cell? ⟨pb, j, none⟩ = W.cell? ⟨pb, j, none⟩ := fun j => by
          rw [World.cell?_setCell_other _ ⟨N, 1, none⟩ _ _ (by intro e; injection e with e1 e2; exact hne e1), World.cell?_setCell_other _ ⟨N, 0, none⟩ _ _ (by intro e; injection e with e1 e2; exact hne e1)]
        rw [hq, hq]
        exact hh
      clear E4 E5 G4 P4
      go_upto_region 8 with fail
      rw [HW5.out, Hr8.out]
      obtain ⟨k0, k1⟩ := HK.out
      go_cut [10, 11] from 55 to 66 (fun pv tv wx => ∃ N : Nat, pv = .pointer (some ⟨N, 0, none⟩) ∧ tv = .bool true ∧ Hid (Below W5.heap.size W5 wx) ∧ Hid (wx.heap[N]? = some (.cells #[.int .i64 (x2 : Int), .int .i64 (y2 : Int)] 30 (0, 0))))
      case first =>
        go_region_held3 (fun W' => W'.cell? ⟨pb, 0, none⟩ = some (.int .i64 (U : Int)) ∧ W'.cell? ⟨pb, 1, none⟩ = some (.int .i64 (D : Int)))
          (first
          | go_keep
          | exact HK.out
          | exact KC.out _ (by first | exact Below.refl _ _ | exact belowA1 (Below.refl _ _) _ | exact Below.drew (Below.refl _ _) | exact belowA1 (Below.drew (Below.refl _ _)) _ | exact Below.drew (belowA1 (Below.refl _ _) _))
          | exact KC.out _ (by first | exact hxa | exact belowA1 (hxa) _ | exact Below.drew (hxa) | exact belowA1 (Below.drew (hxa)) _ | exact Below.drew (belowA1 (hxa) _))
          | exact KC.out _ (by first | exact hxb | exact belowA1 (hxb) _ | exact Below.drew (hxb) | exact belowA1 (Below.drew (hxb)) _ | exact Below.drew (belowA1 (hxb) _))
          | exact KS.out _ _ _ _ (by first | exact Nat.ne_of_gt hpbw | (have := hxa.size; omega) | (have := hxb.size; omega)) (KC.out _ hxb)
          | fail)
          (first
          | (go_at_call 24
             refine (HG.out _ _ _ _ (E6.out.later (by first | exact Below.refl _ _ | exact belowA1 (Below.refl _ _) _ | exact Below.drew (Below.refl _ _) | exact belowA1 (Below.drew (Below.refl _ _)) _ | exact Below.drew (belowA1 (Below.refl _ _) _))).pin).mono ?_
             rintro e va ⟨Pa, sa, rfl, Ya, Qa, hqa⟩
             have hxa : Below W5.heap.size W5 va := chain_up (by first | exact Below.refl _ _ | exact belowA1 (Below.refl _ _) _ | exact Below.drew (Below.refl _ _) | exact belowA1 (Below.drew (Below.refl _ _)) _ | exact Below.drew (belowA1 (Below.refl _ _) _)) hqa.out
             first | (have na := newcell hqa.out) | (have na := newcellD hqa.out) | skip)
          | (go_at_call 18
             have z4 : ∀ W, Below va.heap.size va W → Calls Try.prog 18 #[.slice A1 n c1, .slice Pa K sa, .int .i64 far, .agg #[.int .i64 (U : Int), .int .i64 (D : Int)]] W (FrM x2 y2 true W) := fun W hW => HM2.out _ _ _ _ _ _ _ (E6.out.later (chain_up hxa hW)).pin (Ya.out.later hW) (Qa.out.later hW)
             refine (z4 _ (by first | exact Below.refl _ _ | exact belowA1 (Below.refl _ _) _ | exact Below.drew (Below.refl _ _) | exact belowA1 (Below.drew (Below.refl _ _)) _ | exact Below.drew (belowA1 (Below.refl _ _) _))).mono ?_
             rintro e vb ⟨rfl, hqb⟩
             have hxb : Below W5.heap.size W5 vb := chain_up (by first | exact hxa | exact belowA1 (hxa) _ | exact Below.drew (hxa) | exact belowA1 (Below.drew (hxa)) _ | exact Below.drew (belowA1 (hxa) _)) hqb
             clear z4
             first | (have nb := newcell hqb) | (have nb := newcellD hqb) | (have nb := keepcell na hqb) | skip
             try (obtain ⟨q0, q1⟩ := frac_cells nb; have f0 := frozen_of_row _ _ 0 _ _ nb; have f1 := frozen_of_row _ _ 1 _ _ nb)))
        all_goals
          go_wp2_with fail
          go_meet
          refine ⟨_, rfl, rfl, ?_, ?_⟩
          · first | exact belowA1 hxb _ | exact (hxb.setCell (by first | exact hxa.size | exact hxb.size | exact Nat.le_refl _) _).setCell (by first | exact hxa.size | exact hxb.size | exact Nat.le_refl _) _
          · first | exact heap_alloc_new _ _ | exact two_set nb
      case rest =>
        obtain ⟨N, rfl, rfl, B_wc, C_wc⟩ := hcut
        obtain ⟨a0, a1⟩ := frac_cells (keepcell Hc8.out B_wc.out)
        obtain ⟨b0, b1⟩ := frac_cells C_wc.out
        have E7 := Lib.hid (E6.out.later B_wc.out)
        obtain ⟨⟨⟨p1, p2⟩, p3, p4⟩, ⟨r1, r2⟩, ⟨r3, r4⟩, s1, s2⟩ := HAR.out
        clear k0 k1 HK
        go_wp2
        go_ret
        exact ⟨rfl, E7.out.bel⟩
end Go.Proofs.Ythphboeboiallab
