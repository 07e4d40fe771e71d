/-
  FnBusyAlways, walked.
  Conditions: none.
-/
import Derived.Test.Ythphboeboiallab1LN
import Derived.Deep.CutRange
import Derived.Deep.RegionHeld3
namespace Go.Proofs.Ythphboeboiallab
open Go.ChangeShapes Go.WideShapes Go.ChangeAt Go.RowKit
set_option linter.unusedVariables false
set_option maxRecDepth 4000

set_option maxHeartbeats 6400000 in
theorem lawBusyAlways_walk (A : Option Addr) (c : Nat) (bs : List Int) (w : World) (hr : RdB w w.heap.size A bs) (hcap : bs.length ≤ c) (hm : c ≤ maxLen) :
    Calls Try.prog 7 #[.slice A bs.length c] w fun e w' => e = .returned (.bool true) ∧ Below w.heap.size w w' := by
  unfold maxLen at hm
  obtain ⟨n0, Hn0⟩ : ∃ n, Hid (bs.length = n) := ⟨_, rfl⟩
  rw [Hn0.out] at hcap ⊢
  have HD := Lib.hid (drawMeanReached_any A c n0 bs w hr Hn0.out hcap (by omega))
  clear hr
  by_cases hb : 1048576 < n0
  · go_enter Try.func7, Try.ntmps7
    go_wp2
    go_ret
    exact ⟨rfl, Below.refl _ _⟩
  · go_enter Try.func7, Try.ntmps7
    go_wp2_with fail
    refine HD.out.mono ?_
    rintro e w1 ⟨A1, c1, n, zs, g, c2, m, ss, far, u, d, rfl, hn10, hm4, hf, hud, hin, hos, hb1⟩
    obtain ⟨W1, pb, HW1, Hr1, Hc1, HB1, Hs1⟩ := boxU u d w1
    have E1 : Hid (MAt w pb u d A1 c1 n zs (some ⟨g, 0, none⟩) c2 m ss W1) := ⟨⟨hin.out.later HB1.out, Hc1.out, hb1.out.trans (HB1.out.mono hb1.out.size)⟩, (hos.out.pinU (by omega)).later HB1.out, (hos.out.partU).later HB1.out⟩
    obtain ⟨q0, q1⟩ := E1.out.lat.cells
    rw [← HW1.out, ← Hr1.out] at q0 q1
    clear hin hos hb1 HD hb hcap hm Hc1 HB1 Hs1
    by_cases hv : okM zs ss far u d = true
    · obtain ⟨U, D, rfl, rfl, v1, v2, v3, v4, v5, v7, v8, v9⟩ := okM_some hv
      have hzn := E1.out.lat.pin.len
      obtain ⟨x, y, Hm1⟩ : ∃ x y, Hid (mnB (nrF far) U D zs ss = (x, y)) := ⟨_, _, rfl⟩
      have d1 := mn_bd Hm1.out (by omega) v3 v8 v9
      have HI := Lib.hid (MnC.yes iMeanReached_ok hv Hm1.out)
      have HS := Lib.hid (MnC.yes sMeanReached_ok hv Hm1.out)
      have HI1 := Lib.hid (MnC.yes (U := 1) (D := 1) iMeanReached_ok (okM_of v1 v2 v3 v4 v5 (by omega) (by omega) (by omega)) (mnB_busy zs ss))
      have e1 := neqU_same (x : Int) (y : Int)
      go_wp2_with fail
      rw [HW1.out, Hr1.out]
      refine (HI.out _ _ _ _ _ _ W1 E1.out.lat.pin E1.out.sp E1.out.pt).mono ?_
      rintro e w2 ⟨rfl, hq⟩
      obtain ⟨W2, r7, HW2, Hr2, Hc2, HB2, Hs2⟩ := boxU (x : Int) (y : Int) w2
      have E2 := Lib.hid ((E1.out.later hq).later HB2.out)
      clear hq E1 q0 q1
      obtain ⟨q0, q1⟩ := E2.out.lat.cells
      rw [← HW2.out] at q0 q1
      go_wp2_with fail
      rw [HW2.out, Hr2.out]
      refine (HS.out _ _ _ _ _ _ W2 E2.out.lat.pin E2.out.sp E2.out.pt).mono ?_
      rintro e w3 ⟨rfl, hq⟩
      obtain ⟨W3, r9, HW3, Hr3, Hc3, HB3, Hs3⟩ := boxU (x : Int) (y : Int) w3
      have E3 := Lib.hid ((E2.out.later hq).later HB3.out)
      have C73 := Lib.hid (box_later (box_later Hc2.out hq) HB3.out)
      clear hq E2 q0 q1 Hc2
      obtain ⟨q0, q1⟩ := E3.out.lat.cells
      obtain ⟨a0, a1⟩ := frac_cells C73.out
      obtain ⟨b0, b1⟩ := frac_cells Hc3.out
      rw [← HW3.out] at q0 q1 a0 a1 b0 b1
      rw [← Hr3.out] at b0 b1
      go_wp2_with fail
      rw [HW3.out, Hr3.out]
      clear a0 a1 b0 b1 C73 Hc3 e1
      refine (HI.out _ _ _ _ _ _ W3 E3.out.lat.pin E3.out.sp E3.out.pt).mono ?_
      rintro e w4 ⟨rfl, hq⟩
      obtain ⟨W4, r11, HW4, Hr4, Hc4, HB4, Hs4⟩ := boxU (x : Int) (y : Int) w4
      have E4 := Lib.hid ((E3.out.later hq).later HB4.out)
      clear hq E3 q0 q1
      go_wp2_with fail
      rw [HW4.out, Hr4.out]
      refine (HI1.out _ _ _ _ _ _ W4 E4.out.lat.pin E4.out.sp E4.out.pt).mono ?_
      rintro e w5 ⟨rfl, hq⟩
      obtain ⟨W5, r13, HW5, Hr5, Hc5, HB5, Hs5⟩ := boxU 0 1 w5
      have E5 := Lib.hid ((E4.out.later hq).later HB5.out)
      have C11 := Lib.hid (box_later (box_later Hc4.out hq) HB5.out)
      clear hq E4 Hc4 HI HS HI1
      have HF := Lib.hid (fun W => lFrac_any 0 1 0 1 W (by omega) (by omega) (by omega) frz_zero)
      have KA : Hid (∀ W, Below W5.heap.size W5 W → W.cell? ⟨r11, 0, none⟩ = some (.int .i64 (x : Int)) ∧ W.cell? ⟨r11, 1, none⟩ = some (.int .i64 (y : Int)) ∧ W.cell? ⟨r13, 0, none⟩ = some (.int .i64 0) ∧ W.cell? ⟨r13, 1, none⟩ = some (.int .i64 1)) := fun W hW =>
        ⟨(frac_cells (box_later C11.out hW)).1, (frac_cells (box_later C11.out hW)).2, (frac_cells (box_later Hc5.out hW)).1, (frac_cells (box_later Hc5.out hW)).2⟩
      have f1 := eqlU_same 0 1
      by_cases hn : n = 0
      · subst hn
        obtain rfl : zs = [] := List.length_eq_zero_iff.1 hzn
        have hxy := Hm1.out
        rw [mnB_none v8] at hxy
        injection hxy with hx hy
        subst hx hy
        obtain ⟨k0, k1, k2, k3⟩ := KA.out W5 (Below.refl _ _)
        clear hv v1 v2 v3 v4 v5 v7 v8 v9 d1
        go_upto_region 14 with fail
        rw [HW5.out, Hr5.out]
        go_region_held3 (fun W' => W'.cell? ⟨r11, 0, none⟩ = some (.int .i64 0) ∧ W'.cell? ⟨r11, 1, none⟩ = some (.int .i64 1) ∧ W'.cell? ⟨r13, 0, none⟩ = some (.int .i64 0) ∧ W'.cell? ⟨r13, 1, none⟩ = some (.int .i64 1))
          (first
            | go_keep
            | exact KA.out _ hbf)
          (first
            | (go_at_call 20
               refine (HF.out _).mono ?_
               rintro e wf ⟨rfl, hqf⟩
               have hbf : Below W5.heap.size W5 wf := belowd hqf))
        go_wp2
        go_ret
        exact ⟨rfl, (E5.out.later hbf).lat.bel⟩
      · obtain ⟨K, HK0⟩ : ∃ K, Hid (n - 1 = K) := ⟨_, rfl⟩
        have hKn : K ≤ n := by have := HK0.out; omega
        obtain ⟨x2, y2, Hm2⟩ : ∃ x2 y2, Hid (mnB (nrF far) U D (zs.take K) ss = (x2, y2)) := ⟨_, _, rfl⟩
        have d2 := mn_bd Hm2.out (by rw [List.length_take]; omega) v3 v8 v9
        have cr := mnB_fewer (nr := nrF far) (U := U) v8 (zs.take K) (zs.drop K) ss
        rw [List.take_append_drop, Hm1.out, Hm2.out] at cr
        have HM2 := Lib.hid (MnC.yes iMeanReached_ok (okM_of (vh_take v1 K) v2 v3 v4 v5 v7 v8 v9) Hm2.out)
        obtain ⟨P, HP⟩ : ∃ P, Hid (x2 * y = P) := ⟨_, rfl⟩
        obtain ⟨Q, HQ⟩ : ∃ Q, Hid (x * y2 = Q) := ⟨_, rfl⟩
        have b1 : P ≤ 1000000000 := by rw [← HP.out]; exact Nat.mul_le_mul d2.1 d1.2.1
        have b2 : Q ≤ 1000000000 := by rw [← HQ.out]; exact Nat.mul_le_mul d1.1 d2.2.1
        have cr2 : P ≤ Q := by rw [← HP.out, ← HQ.out]; exact cr
        have p1 : (x2 : Int) * (y : Int) = (P : Int) := by rw [← HP.out]; push_cast; rfl
        have p2 : (x : Int) * (y2 : Int) = (Q : Int) := by rw [← HQ.out]; push_cast; rfl
        have r1 : IntKind.i64.wrap (P : Int) = (P : Int) := IntWalk.i64_in _ (by omega)
        have r2 : IntKind.i64.wrap (Q : Int) = (Q : Int) := IntWalk.i64_in _ (by omega)
        have s1 : (P : Int) ≤ (Q : Int) := by omega
        have s2 : decide ((P : Int) ≤ (Q : Int)) = true := decide_eq_true s1
        have s3 : decide (P ≤ Q) = true := decide_eq_true cr2
        have HAR := Lib.hid (And.intro (And.intro p1 p2) (And.intro (And.intro r1 r2) (And.intro s1 (And.intro s2 s3))))
        have hnz : ((n : Int) == 0) = false := by rw [beq_eq_false_iff_ne]; omega
        have hwK : IntKind.i64.wrap ((n : Int) - 1) = (K : Int) := by rw [show (n : Int) - 1 = (K : Int) by have := HK0.out; omega]; exact IntWalk.i64_in _ (by omega)
        have hcap := E5.out.lat.pin.cap
        have hKc : K ≤ c1 := by omega
        obtain ⟨bA, oA, rfl, -, -⟩ := E5.out.lat.pin.rd (by omega)
        have HIN : Hid (∀ W, Below W5.heap.size W5 W → PIn W (some ⟨bA, oA, none⟩) c1 K (zs.take K)) := fun W hW => (E5.out.later hW).lat.pin.headU hKn
        have KC : Hid (∀ W, Below W5.heap.size W5 W → W.cell? ⟨pb, 0, none⟩ = some (.int .i64 (U : Int)) ∧ W.cell? ⟨pb, 1, none⟩ = some (.int .i64 (D : Int))) := fun W hW => (E5.out.later hW).lat.cells
        have HK := Lib.hid (KC.out W5 (Below.refl _ _))
        have hpbw : pb < W5.heap.size := box_lt E5.out.lat.box
        have KS : Hid (∀ (W : World) (N : Nat) (u0 u1 : Value), N ≠ pb → (W.cell? ⟨pb, 0, none⟩ = some (.int .i64 (U : Int)) ∧ W.cell? ⟨pb, 1, none⟩ = some (.int .i64 (D : Int))) →
            ((W.setCell ⟨N, 0, none⟩ u0).setCell ⟨N, 1, none⟩ u1).cell? ⟨pb, 0, none⟩ = some (.int .i64 (U : Int)) ∧ ((W.setCell ⟨N, 0, none⟩ u0).setCell ⟨N, 1, none⟩ u1).cell? ⟨pb, 1, none⟩ = some (.int .i64 (D : Int))) := fun W N u0 u1 hne hh => by
          have hq : ∀ j, ((W.setCell ⟨N, 0, none⟩ u0).setCell ⟨N, 1, none⟩ u1).cell? ⟨pb, j, none⟩ = W.cell? ⟨pb, j, none⟩ := fun j => by
            rw [World.cell?_setCell_other _ ⟨N, 1, none⟩ _ _ (by intro e; injection e with e1 e2; exact hne e1), World.cell?_setCell_other _ ⟨N, 0, none⟩ _ _ (by intro e; injection e with e1 e2; exact hne e1)]
          rw [hq, hq]
          exact hh
        clear p1 p2 r1 r2 s1 s2 s3 b1 b2 cr2 cr hv v1 v2 v3 v4 v5 v7 v8 v9 d1 d2 hn hzn hcap
        go_upto_region 15 with fail
        rw [HW5.out, Hr5.out]
        obtain ⟨k0, k1⟩ := HK.out
        go_cut [16, 17] from 88 to 98 (fun pv tv wx => ∃ N : Nat, pv = .pointer (some ⟨N, 0, none⟩) ∧ tv = .bool true ∧ Hid (Below W5.heap.size W5 wx) ∧ Hid (wx.heap[N]? = some (.cells #[.int .i64 (x2 : Int), .int .i64 (y2 : Int)] 30 (0, 0))))
        case first =>
          go_region_held3 (fun W' => W'.cell? ⟨pb, 0, none⟩ = some (.int .i64 (U : Int)) ∧ W'.cell? ⟨pb, 1, none⟩ = some (.int .i64 (D : Int)))
            (first
            | go_keep
            | exact HK.out
            | exact KC.out _ (by first | exact Below.refl _ _ | exact belowA1 (Below.refl _ _) _ | exact Below.drew (Below.refl _ _) | exact belowA1 (Below.drew (Below.refl _ _)) _ | exact Below.drew (belowA1 (Below.refl _ _) _))
            | exact KC.out _ (by first | exact hxa | exact belowA1 (hxa) _ | exact Below.drew (hxa) | exact belowA1 (Below.drew (hxa)) _ | exact Below.drew (belowA1 (hxa) _))
            | exact KS.out _ _ _ _ (by first | exact Nat.ne_of_gt hpbw | (have := hxa.size; omega)) (KC.out _ hxa)
            | fail)
            (first
            | (go_at_call 18
               have z4 : ∀ W, Below W5.heap.size W5 W → Calls Try.prog 18 #[.slice (some ⟨bA, oA, none⟩) K c1, .slice (some ⟨g, 0, none⟩) m c2, .int .i64 far, .agg #[.int .i64 (U : Int), .int .i64 (D : Int)]] W (FrM x2 y2 true W) := fun W hW => HM2.out _ _ _ _ _ _ _ (HIN.out W hW) (E5.out.later hW).sp (E5.out.later hW).pt
               refine (z4 _ (by first | exact Below.refl _ _ | exact belowA1 (Below.refl _ _) _ | exact Below.drew (Below.refl _ _) | exact belowA1 (Below.drew (Below.refl _ _)) _ | exact Below.drew (belowA1 (Below.refl _ _) _))).mono ?_
               rintro e va ⟨rfl, hqa⟩
               have hxa : Below W5.heap.size W5 va := chain_up (by first | exact Below.refl _ _ | exact belowA1 (Below.refl _ _) _ | exact Below.drew (Below.refl _ _) | exact belowA1 (Below.drew (Below.refl _ _)) _ | exact Below.drew (belowA1 (Below.refl _ _) _)) hqa
               clear z4
               first | (have na := newcell hqa) | (have na := newcellD hqa) | skip
               try (obtain ⟨q0, q1⟩ := frac_cells na; have f0 := frozen_of_row _ _ 0 _ _ na; have f1 := frozen_of_row _ _ 1 _ _ na)))
          all_goals
            go_wp2_with fail
            go_meet
            refine ⟨_, rfl, rfl, ?_, ?_⟩
            · first | exact belowA1 hxa _ | exact (hxa.setCell (by first | exact hxa.size | exact Nat.le_refl _) _).setCell (by first | exact hxa.size | exact Nat.le_refl _) _
            · first | exact heap_alloc_new _ _ | exact two_set na
        case rest =>
          obtain ⟨N, rfl, rfl, B_wc, C_wc⟩ := hcut
          have E6 := Lib.hid (E5.out.later B_wc.out)
          have KA2 : Hid (∀ W, Below wc.heap.size wc W → (W.cell? ⟨r11, 0, none⟩ = some (.int .i64 (x : Int)) ∧ W.cell? ⟨r11, 1, none⟩ = some (.int .i64 (y : Int)) ∧ W.cell? ⟨r13, 0, none⟩ = some (.int .i64 0) ∧ W.cell? ⟨r13, 1, none⟩ = some (.int .i64 1)) ∧ W.cell? ⟨N, 0, none⟩ = some (.int .i64 (x2 : Int)) ∧ W.cell? ⟨N, 1, none⟩ = some (.int .i64 (y2 : Int))) := fun W hW =>
            ⟨KA.out W (B_wc.out.trans (hW.mono B_wc.out.size)), (frac_cells (box_later C_wc.out hW)).1, (frac_cells (box_later C_wc.out hW)).2⟩
          clear k0 k1 HK KC KS KA
          obtain ⟨⟨k0, k1, k2, k3⟩, k4, k5⟩ := KA2.out wc (Below.refl _ _)
          obtain ⟨⟨p1, p2⟩, ⟨r1, r2⟩, s1, s2, s3⟩ := HAR.out
          go_upto_region 16 with fail
          go_region_held3 (fun W' => (W'.cell? ⟨r11, 0, none⟩ = some (.int .i64 (x : Int)) ∧ W'.cell? ⟨r11, 1, none⟩ = some (.int .i64 (y : Int)) ∧ W'.cell? ⟨r13, 0, none⟩ = some (.int .i64 0) ∧ W'.cell? ⟨r13, 1, none⟩ = some (.int .i64 1)) ∧ W'.cell? ⟨N, 0, none⟩ = some (.int .i64 (x2 : Int)) ∧ W'.cell? ⟨N, 1, none⟩ = some (.int .i64 (y2 : Int)))
            (first
              | go_keep
              | exact KA2.out _ hbf)
            (first
              | (go_at_call 20
                 refine (HF.out _).mono ?_
                 rintro e wf ⟨rfl, hqf⟩
                 have hbf : Below wc.heap.size wc wf := belowd hqf))
          go_wp2
          go_ret
          exact ⟨rfl, (E6.out.later hbf).lat.bel⟩
    · have hv' : okM zs ss far u d = false := by simpa using hv
      have HI : Hid (∀ A A' c c' n m W, PIn W A c n zs → PIn W A' c' m ss → PartQ W A' m c' ss → Calls Try.prog 18 #[.slice A n c, .slice A' m c', .int .i64 far, .agg #[.int .i64 u, .int .i64 d]] W (FrM 0 0 false W)) := fun A A' c c' n m W hp hq hr => by
        have := iMeanReached_ok A A' c c' n m zs ss far u d W hp hq hr
        rw [mrQ_no hv', hv'] at this
        exact this
      have HS : Hid (∀ A A' c c' n m W, PIn W A c n zs → PIn W A' c' m ss → PartQ W A' m c' ss → Calls Try.prog 19 #[.slice A n c, .slice A' m c', .int .i64 far, .agg #[.int .i64 u, .int .i64 d]] W (FrM 0 0 false W)) := fun A A' c c' n m W hp hq hr => by
        have := sMeanReached_ok A A' c c' n m zs ss far u d W hp hq hr
        rw [mrQ_no hv', hv'] at this
        exact this
      have e1 := neqU_same 0 0
      clear hv hv'
      go_wp2_with fail
      rw [HW1.out, Hr1.out]
      refine (HI.out _ _ _ _ _ _ W1 E1.out.lat.pin E1.out.sp E1.out.pt).mono ?_
      rintro e w2 ⟨rfl, hq⟩
      obtain ⟨W2, r7, HW2, Hr2, Hc2, HB2, Hs2⟩ := boxU 0 0 w2
      have E2 := Lib.hid ((E1.out.later hq).later HB2.out)
      clear hq E1 q0 q1
      obtain ⟨q0, q1⟩ := E2.out.lat.cells
      rw [← HW2.out] at q0 q1
      go_wp2_with fail
      rw [HW2.out, Hr2.out]
      refine (HS.out _ _ _ _ _ _ W2 E2.out.lat.pin E2.out.sp E2.out.pt).mono ?_
      rintro e w3 ⟨rfl, hq⟩
      obtain ⟨W3, r9, HW3, Hr3, Hc3, HB3, Hs3⟩ := boxU 0 0 w3
      have E3 := Lib.hid ((E2.out.later hq).later HB3.out)
      have C73 := Lib.hid (box_later (box_later Hc2.out hq) HB3.out)
      clear hq E2 q0 q1 Hc2
      obtain ⟨q0, q1⟩ := E3.out.lat.cells
      obtain ⟨a0, a1⟩ := frac_cells C73.out
      obtain ⟨b0, b1⟩ := frac_cells Hc3.out
      rw [← HW3.out] at q0 q1 a0 a1 b0 b1
      rw [← Hr3.out] at b0 b1
      go_wp2_with fail
      rw [HW3.out, Hr3.out]
      clear a0 a1 b0 b1 C73 Hc3 e1
      refine (HI.out _ _ _ _ _ _ W3 E3.out.lat.pin E3.out.sp E3.out.pt).mono ?_
      rintro e w4 ⟨rfl, hq⟩
      obtain ⟨W4, r11, HW4, Hr4, Hc4, HB4, Hs4⟩ := boxU 0 0 w4
      have E4 := Lib.hid ((E3.out.later hq).later HB4.out)
      obtain ⟨a0, a1⟩ := frac_cells Hc4.out
      rw [← HW4.out, ← Hr4.out] at a0 a1
      clear hq E3 q0 q1
      go_wp2
      rw [HW4.out]
      go_ret
      exact ⟨rfl, E4.out.lat.bel⟩
end Go.Proofs.Ythphboeboiallab
