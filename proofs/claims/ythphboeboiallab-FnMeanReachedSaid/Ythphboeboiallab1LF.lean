/-
  FnMeanReached, walked.
  Conditions: none.
-/
import Derived.Test.Ythphboeboiallab1LN
import Derived.Deep.CutRange
import Derived.Deep.RegionHeld3
namespace Go.Proofs.Ythphboeboiallab
open Go.ChangeShapes Go.WideShapes Go.ChangeAt Go.RowKit
set_option linter.unusedVariables false
set_option maxRecDepth 4000

set_option maxHeartbeats 6400000 in
theorem lawMeanReached_walk (A : Option Addr) (c : Nat) (bs : List Int) (w : World) (hr : RdB w w.heap.size A bs) (hcap : bs.length ≤ c) (hm : c ≤ maxLen) :
    Calls Try.prog 4 #[.slice A bs.length c] w fun e w' => e = .returned (.bool true) ∧ Below w.heap.size w w' := by
  unfold maxLen at hm
  obtain ⟨n0, Hn0⟩ : ∃ n, Hid (bs.length = n) := ⟨_, rfl⟩
  rw [Hn0.out] at hcap ⊢
  have HD := Lib.hid (drawMeanReached_any A c n0 bs w hr Hn0.out hcap (by omega))
  clear hr
  by_cases hb : 1048576 < n0
  · go_enter Try.func4, Try.ntmps4
    go_wp2
    go_ret
    exact ⟨rfl, Below.refl _ _⟩
  · go_enter Try.func4, Try.ntmps4
    go_wp2_with fail
    refine HD.out.mono ?_
    rintro e w1 ⟨A1, c1, n, zs, g, c2, m, ss, far, u, d, rfl, hn10, hm4, hf, hud, hin, hos, hb1⟩
    obtain ⟨W1, pb, HW1, Hr1, Hc1, HB1, Hs1⟩ := boxU u d w1
    have E1 : Hid (MAt w pb u d A1 c1 n zs (some ⟨g, 0, none⟩) c2 m ss W1) := ⟨⟨hin.out.later HB1.out, Hc1.out, hb1.out.trans (HB1.out.mono hb1.out.size)⟩, (hos.out.pinU (by omega)).later HB1.out, (hos.out.partU).later HB1.out⟩
    obtain ⟨q0, q1⟩ := E1.out.lat.cells
    rw [← HW1.out, ← Hr1.out] at q0 q1
    clear hin hos hb1 HD hb hcap hm Hc1 HB1 Hs1
    by_cases hv : okM zs ss far u d = true
    · obtain ⟨U, D, rfl, rfl, v1, v2, v3, v4, v5, v7, v8, v9⟩ := okM_some hv
      have hzn := E1.out.lat.pin.len
      obtain ⟨x, y, Hm1⟩ : ∃ x y, Hid (mnB (nrF far) U D zs ss = (x, y)) := ⟨_, _, rfl⟩
      have d1 := mn_bd Hm1.out (by omega) v3 v8 v9
      have HI := Lib.hid (MnC.yes iMeanReached_ok hv Hm1.out)
      have HS := Lib.hid (MnC.yes sMeanReached_ok hv Hm1.out)
      obtain ⟨q, Hq⟩ : ∃ q, Hid ((zs.countP fun x => decide (0 < nbB (nrF far) ss x)) = q) := ⟨_, rfl⟩
      have hfree := mnB_free (nr := nrF far) zs ss
      rw [Hq.out] at hfree
      have hqn : q ≤ n := by rw [← Hq.out, ← hzn]; exact List.countP_le_length
      have HI1 := Lib.hid (MnC.yes (U := 0) (D := 1) iMeanReached_ok (okM_of v1 v2 v3 v4 v5 (by omega) (by omega) (by omega)) hfree)
      have HBK : Hid (∀ A A' c c' W, PIn W A c n zs → PIn W A' c' m ss → Calls Try.prog 14 #[.slice A n c, .slice A' m c', .int .i64 far] W (RowP (bkL far zs ss) n W)) := fun A A' c c' W h h' => by
        have := iBacksOf_ok A A' c c' n m zs ss far W h h'
        rw [bkQ_yes (okM_get hv).1] at this
        exact this.mono fun e w' hr => hr.pinU (by rw [bkL_length]; exact h.len) (by omega)
      have e1 := neqU_same (x : Int) (y : Int)
      go_wp2_with fail
      rw [HW1.out, Hr1.out]
      refine (HI.out _ _ _ _ _ _ W1 E1.out.lat.pin E1.out.sp E1.out.pt).mono ?_
      rintro e w2 ⟨rfl, hq⟩
      obtain ⟨W2, r7, HW2, Hr2, Hc2, HB2, Hs2⟩ := boxU (x : Int) (y : Int) w2
      have E2 := Lib.hid ((E1.out.later hq).later HB2.out)
      clear hq E1 q0 q1
      obtain ⟨q0, q1⟩ := E2.out.lat.cells
      rw [← HW2.out] at q0 q1
      go_wp2_with fail
      rw [HW2.out, Hr2.out]
      refine (HS.out _ _ _ _ _ _ W2 E2.out.lat.pin E2.out.sp E2.out.pt).mono ?_
      rintro e w3 ⟨rfl, hq⟩
      obtain ⟨W3, r9, HW3, Hr3, Hc3, HB3, Hs3⟩ := boxU (x : Int) (y : Int) w3
      have E3 := Lib.hid ((E2.out.later hq).later HB3.out)
      have C73 := Lib.hid (box_later (box_later Hc2.out hq) HB3.out)
      clear hq E2 q0 q1 Hc2
      obtain ⟨q0, q1⟩ := E3.out.lat.cells
      obtain ⟨a0, a1⟩ := frac_cells C73.out
      obtain ⟨b0, b1⟩ := frac_cells Hc3.out
      rw [← HW3.out] at q0 q1 a0 a1 b0 b1
      rw [← Hr3.out] at b0 b1
      go_wp2_with fail
      rw [HW3.out]
      clear a0 a1 b0 b1 Hc3 e1 q0 q1 HI HS
      refine (HBK.out _ _ _ _ W3 E3.out.lat.pin E3.out.sp).mono ?_
      rintro e w4 ⟨A4, c4, rfl, G4, -, hq⟩
      have E4 := Lib.hid (E3.out.later hq.out)
      have C74 := Lib.hid (box_later C73.out hq.out)
      clear hq E3 C73 HBK
      have Hval : Hid (∀ j, j < n → ∃ t : Nat, (bkL far zs ss).getD j 0 = (t : Int) ∧ ((zs.take (j + 1)).countP fun x => decide (0 < nbB (nrF far) ss x)) = ((zs.take j).countP fun x => decide (0 < nbB (nrF far) ss x)) + (if 0 < t then 1 else 0)) := fun j hj => by
        refine ⟨nbB (nrF far) ss (zs.getD j 0), bkL_at (by omega), ?_⟩
        rw [List.take_succ_eq_append_getElem (show j < zs.length by omega), List.countP_append]
        simp [List.countP_cons, List.getD, List.getElem?_eq_getElem (show j < zs.length by omega)]
      go_wp2_with fail
      go_loopw [12, 13] (fun t i wr => ∃ j : Nat, j ≤ n ∧ i = .int .i64 ((j : Nat) : Int) ∧ t = .int .i64 ((((zs.take j).countP fun x => decide (0 < nbB (nrF far) ss x)) : Nat) : Int) ∧ wr = w4) (fun _ i _ => n - (intOf i).toNat)
      case atStart => exact ⟨0, by omega, rfl, by simp, rfl⟩
      case round =>
        obtain ⟨j, hj, rfl, rfl, rfl⟩ := hrel
        by_cases hjn : j < n
        · obtain ⟨t, ht, hc⟩ := Hval.out j hjn
          obtain ⟨b3, o3, rfl, hb3, hc3⟩ := G4.out.rd (by rw [G4.out.len]; omega)
          have hcj := hc3 j (by rw [G4.out.len]; omega)
          rw [ht] at hcj
          have hcl : ((zs.take j).countP fun x => decide (0 < nbB (nrF far) ss x)) ≤ n := by
            refine Nat.le_trans List.countP_le_length ?_
            rw [List.length_take]; omega
          obtain ⟨v, Hv⟩ : ∃ v, Hid (((zs.take j).countP fun x => decide (0 < nbB (nrF far) ss x)) = v) := ⟨_, rfl⟩
          rw [Hv.out] at hc hcl ⊢
          have Hc := Lib.hid hc
          clear hc hc3 ht
          by_cases ht0 : 0 < t
          · have htz : (0 : Int) < (t : Int) := by omega
            go_wp2
            go_roundw
            case rel => exact ⟨j + 1, by omega, by go_num, by rw [Hc.out, if_pos ht0]; go_num, by first | trivial | rfl⟩
            case measure => simp [intOf]; omega
          · have htz : ¬ (0 : Int) < (t : Int) := by omega
            go_wp2
            go_roundw
            case rel => exact ⟨j + 1, by omega, by go_num, by rw [Hc.out, if_neg ht0]; go_num, by first | trivial | rfl⟩
            case measure => simp [intOf]; omega
        · obtain rfl : j = n := by omega
          have hcnt : ((zs.take j).countP fun x => decide (0 < nbB (nrF far) ss x)) = q := by rw [List.take_of_length_le (by omega)]; exact Hq.out
          rw [hcnt]
          clear hcnt Hval G4
          go_wp2_with fail
          refine (HI1.out _ _ _ _ _ _ wr E4.out.lat.pin E4.out.sp E4.out.pt).mono ?_
          rintro e w5 ⟨rfl, hq⟩
          obtain ⟨W5, r15, HW5, Hr5, Hc5, HB5, Hs5⟩ := boxU (q : Int) 1 w5
          have E5 := Lib.hid ((E4.out.later hq).later HB5.out)
          have C75 := Lib.hid (box_later (box_later C74.out hq) HB5.out)
          clear hq E4 C74 HI1
          have KA : Hid (∀ W, Below W5.heap.size W5 W → W.cell? ⟨r7, 0, none⟩ = some (.int .i64 (x : Int)) ∧ W.cell? ⟨r7, 1, none⟩ = some (.int .i64 (y : Int)) ∧ W.cell? ⟨r15, 0, none⟩ = some (.int .i64 (q : Int)) ∧ W.cell? ⟨r15, 1, none⟩ = some (.int .i64 1)) := fun W hW =>
            ⟨(frac_cells (box_later C75.out hW)).1, (frac_cells (box_later C75.out hW)).2, (frac_cells (box_later Hc5.out hW)).1, (frac_cells (box_later Hc5.out hW)).2⟩
          by_cases hm0 : m = 0
          · subst hm0
            obtain rfl : ss = [] := List.length_eq_zero_iff.1 E5.out.sp.len
            have hxy := Hm1.out
            rw [mnB_nil] at hxy hfree
            injection hxy with hx hy
            injection hfree with hq0 _
            subst hx hy hq0
            have HF := Lib.hid (fun W => lFrac_any 0 1 0 1 W (by omega) (by omega) (by omega) frz_zero)
            have f1 := eqlU_same 0 1
            obtain ⟨k0, k1, k2, k3⟩ := KA.out W5 (Below.refl _ _)
            clear hv v1 v2 v3 v4 v5 v7 v8 v9 d1
            go_upto_region 18 with fail
            rw [show w5.alloc (.cells #[.int .i64 0, .int .i64 1] 30) = W5 from HW5.out, Hr5.out]
            go_region_held3 (fun W' => W'.cell? ⟨r7, 0, none⟩ = some (.int .i64 0) ∧ W'.cell? ⟨r7, 1, none⟩ = some (.int .i64 1) ∧ W'.cell? ⟨r15, 0, none⟩ = some (.int .i64 0) ∧ W'.cell? ⟨r15, 1, none⟩ = some (.int .i64 1))
              (first
                | go_keep
                | exact KA.out _ hbf)
              (first
                | (go_at_call 20
                   refine (HF.out _).mono ?_
                   rintro e wf ⟨rfl, hqf⟩
                   have hbf : Below W5.heap.size W5 wf := belowd hqf))
            go_wp2
            go_ret
            exact ⟨rfl, (E5.out.later hbf).lat.bel⟩
          · obtain ⟨K, HK0⟩ : ∃ K, Hid (m - 1 = K) := ⟨_, rfl⟩
            have hKm : K ≤ m := by have := HK0.out; omega
            have hsm := E5.out.sp.len
            obtain ⟨x2, y2, Hm2⟩ : ∃ x2 y2, Hid (mnB (nrF far) U D zs (ss.take K) = (x2, y2)) := ⟨_, _, rfl⟩
            have hsp : ss.take K ++ [ss.getD K 0] = ss := by
              have hK1 : K < ss.length := by have := HK0.out; omega
              rw [show ss.getD K 0 = ss[K] by simp [List.getD, List.getElem?_eq_getElem hK1], ← List.take_succ_eq_append_getElem hK1]
              exact List.take_of_length_le (by have := HK0.out; omega)
            have d2 := mn_bd Hm2.out (by omega) (by rw [List.length_take]; omega) v8 v9
            have cr := mnB_less (nr := nrF far) (U := U) v7 v8 zs (ss.take K) (ss.getD K 0)
            rw [hsp, Hm1.out, Hm2.out] at cr
            have ch := mnB_homes (nr := nrF far) (U := U) v8 zs ss
            rw [Hm1.out, hzn] at ch
            have HM2 := Lib.hid (MnC.yes iMeanReached_ok (okM_of v1 (vh_take v2 K) (by rw [List.length_take]; omega) v4 v5 v7 v8 v9) Hm2.out)
            obtain ⟨P, HP⟩ : ∃ P, Hid (x2 * y = P) := ⟨_, rfl⟩
            obtain ⟨Q, HQ⟩ : ∃ Q, Hid (x * y2 = Q) := ⟨_, rfl⟩
            obtain ⟨Z, HZ⟩ : ∃ Z, Hid (j * y = Z) := ⟨_, rfl⟩
            have b1 : P ≤ 1000000000 := by rw [← HP.out]; exact Nat.mul_le_mul d2.1 d1.2.1
            have b2 : Q ≤ 1000000000 := by rw [← HQ.out]; exact Nat.mul_le_mul d1.1 d2.2.1
            have b3 : Z ≤ 100000 := by rw [← HZ.out]; exact Nat.mul_le_mul (by omega : j ≤ 10) d1.2.1
            have cr2 : P ≤ Q := by rw [← HP.out, ← HQ.out]; exact cr
            have ch2 : x ≤ Z := by rw [← HZ.out]; exact ch
            have p1 : (x2 : Int) * (y : Int) = (P : Int) := by rw [← HP.out]; push_cast; rfl
            have p2 : (x : Int) * (y2 : Int) = (Q : Int) := by rw [← HQ.out]; push_cast; rfl
            have p3 : (j : Int) * (y : Int) = (Z : Int) := by rw [← HZ.out]; push_cast; rfl
            have r1 : IntKind.i64.wrap (P : Int) = (P : Int) := IntWalk.i64_in _ (by omega)
            have r2 : IntKind.i64.wrap (Q : Int) = (Q : Int) := IntWalk.i64_in _ (by omega)
            have r3 : IntKind.i64.wrap (Z : Int) = (Z : Int) := IntWalk.i64_in _ (by omega)
            have s1 : decide ((P : Int) ≤ (Q : Int)) = true := decide_eq_true (by omega)
            have s2 : decide (P ≤ Q) = true := decide_eq_true cr2
            have s3 : decide ((x : Int) ≤ (Z : Int)) = true := decide_eq_true (by omega)
            have s4 : decide (x ≤ Z) = true := decide_eq_true ch2
            have HAR := Lib.hid (And.intro (And.intro p1 (And.intro p2 p3)) (And.intro (And.intro r1 (And.intro r2 r3)) (And.intro (And.intro s1 s2) (And.intro s3 s4))))
            have HS1 := Lib.hid (And.intro (show (P : Int) ≤ (Q : Int) by omega) (show (x : Int) ≤ (Z : Int) by omega))
            have hmz : ((m : Int) == 0) = false := by rw [beq_eq_false_iff_ne]; omega
            have hwK : IntKind.i64.wrap ((m : Int) - 1) = (K : Int) := by rw [show (m : Int) - 1 = (K : Int) by have := HK0.out; omega]; exact IntWalk.i64_in _ (by omega)
            have hcap := E5.out.sp.cap
            have hKc : K ≤ c2 := by omega
            have HF := Lib.hid (fun W => lFrac_any q 1 q 1 W (by omega) (by omega) (by omega) (frz_int q))
            have f1 := eqlU_same (q : Int) 1
            have HIN : Hid (∀ W, Below W5.heap.size W5 W → PIn W (some ⟨g, 0, none⟩) c2 K (ss.take K) ∧ PartQ W (some ⟨g, 0, none⟩) K c2 (ss.take K)) := fun W hW => ⟨(E5.out.later hW).sp.headU hKm, (E5.out.later hW).pt.headU hKm⟩
            have KC : Hid (∀ W, Below W5.heap.size W5 W → W.cell? ⟨pb, 0, none⟩ = some (.int .i64 (U : Int)) ∧ W.cell? ⟨pb, 1, none⟩ = some (.int .i64 (D : Int))) := fun W hW => (E5.out.later hW).lat.cells
            have HK := Lib.hid (KC.out W5 (Below.refl _ _))
            have hpbw : pb < W5.heap.size := box_lt E5.out.lat.box
            have KS : Hid (∀ (W : World) (N : Nat) (u0 u1 : Value), N ≠ pb → (W.cell? ⟨pb, 0, none⟩ = some (.int .i64 (U : Int)) ∧ W.cell? ⟨pb, 1, none⟩ = some (.int .i64 (D : Int))) →
                ((W.setCell ⟨N, 0, none⟩ u0).setCell ⟨N, 1, none⟩ u1).cell? ⟨pb, 0, none⟩ = some (.int .i64 (U : Int)) ∧ ((W.setCell ⟨N, 0, none⟩ u0).setCell ⟨N, 1, none⟩ u1).cell? ⟨pb, 1, none⟩ = some (.int .i64 (D : Int))) := fun W N u0 u1 hne hh => by
              have hq : ∀ j, ((W.setCell ⟨N, 0, none⟩ u0).setCell ⟨N, 1, none⟩ u1).cell? ⟨pb, j, none⟩ = W.cell? ⟨pb, j, none⟩ := fun j => by
                rw [World.cell?_setCell_other _ ⟨N, 1, none⟩ _ _ (by intro e; injection e with e1 e2; exact hne e1), World.cell?_setCell_other _ ⟨N, 0, none⟩ _ _ (by intro e; injection e with e1 e2; exact hne e1)]
              rw [hq, hq]
              exact hh
            clear p1 p2 p3 r1 r2 r3 s1 s2 s3 s4 b1 b2 b3 cr2 cr ch ch2 hv v1 v2 v3 v4 v5 v7 v8 v9 d1 d2 hm0 hzn hcap hsm hsp hfree
            go_upto_region 19 with fail
            rw [HW5.out, Hr5.out]
            obtain ⟨k0, k1⟩ := HK.out
            go_cut [17, 18] from 105 to 115 (fun pv tv wx => ∃ N : Nat, pv = .pointer (some ⟨N, 0, none⟩) ∧ tv = .bool true ∧ Hid (Below W5.heap.size W5 wx) ∧ Hid (wx.heap[N]? = some (.cells #[.int .i64 (x2 : Int), .int .i64 (y2 : Int)] 30 (0, 0))))
            case first =>
              go_region_held3 (fun W' => W'.cell? ⟨pb, 0, none⟩ = some (.int .i64 (U : Int)) ∧ W'.cell? ⟨pb, 1, none⟩ = some (.int .i64 (D : Int)))
                (first
                | go_keep
                | exact HK.out
                | exact KC.out _ (by first | exact Below.refl _ _ | exact belowA1 (Below.refl _ _) _ | exact Below.drew (Below.refl _ _) | exact belowA1 (Below.drew (Below.refl _ _)) _ | exact Below.drew (belowA1 (Below.refl _ _) _))
                | exact KC.out _ (by first | exact hxa | exact belowA1 (hxa) _ | exact Below.drew (hxa) | exact belowA1 (Below.drew (hxa)) _ | exact Below.drew (belowA1 (hxa) _))
                | exact KS.out _ _ _ _ (by first | exact Nat.ne_of_gt hpbw | (have := hxa.size; omega)) (KC.out _ hxa)
                | fail)
                (first
                | (go_at_call 18
                   have z4 : ∀ W, Below W5.heap.size W5 W → Calls Try.prog 18 #[.slice A1 j c1, .slice (some ⟨g, 0, none⟩) K c2, .int .i64 far, .agg #[.int .i64 (U : Int), .int .i64 (D : Int)]] W (FrM x2 y2 true W) := fun W hW => HM2.out _ _ _ _ _ _ _ (E5.out.later hW).lat.pin (HIN.out W hW).1 (HIN.out W hW).2
                   refine (z4 _ (by first | exact Below.refl _ _ | exact belowA1 (Below.refl _ _) _ | exact Below.drew (Below.refl _ _) | exact belowA1 (Below.drew (Below.refl _ _)) _ | exact Below.drew (belowA1 (Below.refl _ _) _))).mono ?_
                   rintro e va ⟨rfl, hqa⟩
                   have hxa : Below W5.heap.size W5 va := chain_up (by first | exact Below.refl _ _ | exact belowA1 (Below.refl _ _) _ | exact Below.drew (Below.refl _ _) | exact belowA1 (Below.drew (Below.refl _ _)) _ | exact Below.drew (belowA1 (Below.refl _ _) _)) hqa
                   clear z4
                   first | (have na := newcell hqa) | (have na := newcellD hqa) | skip
                   try (obtain ⟨q0, q1⟩ := frac_cells na; have f2 := frozen_of_row _ _ 0 _ _ na; have f3 := frozen_of_row _ _ 1 _ _ na)))
              all_goals
                go_wp2_with fail
                go_meet
                refine ⟨_, rfl, rfl, ?_, ?_⟩
                · first | exact belowA1 hxa _ | exact (hxa.setCell (by first | exact hxa.size | exact Nat.le_refl _) _).setCell (by first | exact hxa.size | exact Nat.le_refl _) _
                · first | exact heap_alloc_new _ _ | exact two_set na
            case rest =>
              obtain ⟨N, rfl, rfl, B_wc, C_wc⟩ := hcut
              have E6 := Lib.hid (E5.out.later B_wc.out)
              have KA2 : Hid (∀ W, Below wc.heap.size wc W → (W.cell? ⟨r7, 0, none⟩ = some (.int .i64 (x : Int)) ∧ W.cell? ⟨r7, 1, none⟩ = some (.int .i64 (y : Int)) ∧ W.cell? ⟨r15, 0, none⟩ = some (.int .i64 (q : Int)) ∧ W.cell? ⟨r15, 1, none⟩ = some (.int .i64 1)) ∧ W.cell? ⟨N, 0, none⟩ = some (.int .i64 (x2 : Int)) ∧ W.cell? ⟨N, 1, none⟩ = some (.int .i64 (y2 : Int))) := fun W hW =>
                ⟨KA.out W (B_wc.out.trans (hW.mono B_wc.out.size)), (frac_cells (box_later C_wc.out hW)).1, (frac_cells (box_later C_wc.out hW)).2⟩
              clear k0 k1 HK KC KS KA
              obtain ⟨⟨k0, k1, k2, k3⟩, k4, k5⟩ := KA2.out wc (Below.refl _ _)
              obtain ⟨⟨p1, p2, p3⟩, ⟨r1, r2, r3⟩, ⟨s1, s2⟩, s3, s4⟩ := HAR.out
              obtain ⟨t1, t2⟩ := HS1.out
              go_upto_region 20 with fail
              go_region_held3 (fun W' => (W'.cell? ⟨r7, 0, none⟩ = some (.int .i64 (x : Int)) ∧ W'.cell? ⟨r7, 1, none⟩ = some (.int .i64 (y : Int)) ∧ W'.cell? ⟨r15, 0, none⟩ = some (.int .i64 (q : Int)) ∧ W'.cell? ⟨r15, 1, none⟩ = some (.int .i64 1)) ∧ W'.cell? ⟨N, 0, none⟩ = some (.int .i64 (x2 : Int)) ∧ W'.cell? ⟨N, 1, none⟩ = some (.int .i64 (y2 : Int)))
                (first
                  | go_keep
                  | exact KA2.out _ hbf)
                (first
                  | (go_at_call 20
                     refine (HF.out _).mono ?_
                     rintro e wf ⟨rfl, hqf⟩
                     have hbf : Below wc.heap.size wc wf := belowd hqf))
              go_wp2
              go_ret
              exact ⟨rfl, (E6.out.later hbf).lat.bel⟩
    · have hv' : okM zs ss far u d = false := by simpa using hv
      have HI : Hid (∀ A A' c c' n m W, PIn W A c n zs → PIn W A' c' m ss → PartQ W A' m c' ss → Calls Try.prog 18 #[.slice A n c, .slice A' m c', .int .i64 far, .agg #[.int .i64 u, .int .i64 d]] W (FrM 0 0 false W)) := fun A A' c c' n m W hp hq hr => by
        have := iMeanReached_ok A A' c c' n m zs ss far u d W hp hq hr
        rw [mrQ_no hv', hv'] at this
        exact this
      have HS : Hid (∀ A A' c c' n m W, PIn W A c n zs → PIn W A' c' m ss → PartQ W A' m c' ss → Calls Try.prog 19 #[.slice A n c, .slice A' m c', .int .i64 far, .agg #[.int .i64 u, .int .i64 d]] W (FrM 0 0 false W)) := fun A A' c c' n m W hp hq hr => by
        have := sMeanReached_ok A A' c c' n m zs ss far u d W hp hq hr
        rw [mrQ_no hv', hv'] at this
        exact this
      have e1 := neqU_same 0 0
      clear hv hv'
      go_wp2_with fail
      rw [HW1.out, Hr1.out]
      refine (HI.out _ _ _ _ _ _ W1 E1.out.lat.pin E1.out.sp E1.out.pt).mono ?_
      rintro e w2 ⟨rfl, hq⟩
      obtain ⟨W2, r7, HW2, Hr2, Hc2, HB2, Hs2⟩ := boxU 0 0 w2
      have E2 := Lib.hid ((E1.out.later hq).later HB2.out)
      clear hq E1 q0 q1
      obtain ⟨q0, q1⟩ := E2.out.lat.cells
      rw [← HW2.out] at q0 q1
      go_wp2_with fail
      rw [HW2.out, Hr2.out]
      refine (HS.out _ _ _ _ _ _ W2 E2.out.lat.pin E2.out.sp E2.out.pt).mono ?_
      rintro e w3 ⟨rfl, hq⟩
      obtain ⟨W3, r9, HW3, Hr3, Hc3, HB3, Hs3⟩ := boxU 0 0 w3
      have E3 := Lib.hid ((E2.out.later hq).later HB3.out)
      have C73 := Lib.hid (box_later (box_later Hc2.out hq) HB3.out)
      clear hq E2 q0 q1 Hc2
      obtain ⟨q0, q1⟩ := E3.out.lat.cells
      obtain ⟨a0, a1⟩ := frac_cells C73.out
      obtain ⟨b0, b1⟩ := frac_cells Hc3.out
      rw [← HW3.out] at q0 q1 a0 a1 b0 b1
      rw [← Hr3.out] at b0 b1
      have e2 := eqlU_same 0 0
      go_wp2
      rw [HW3.out]
      go_ret
      exact ⟨rfl, E3.out.lat.bel⟩
end Go.Proofs.Ythphboeboiallab
