/-
  FnGreedySpread, walked.
  Conditions: none.
-/
import Derived.Test.Ythphboeboiallab1LT
import Derived.Test.Ythphboeboiallab1MF
import Derived.Test.YthphboeboiallabNI
namespace Go.Proofs.Ythphboeboiallab
open Go.ChangeShapes Go.WideShapes Go.ChangeAt Go.RowKit
set_option linter.unusedVariables false
set_option maxRecDepth 4000

def JRel (L : Nat) (w4 : World) (i : Value) (wr : World) : Prop := ∃ j : Nat, j ≤ L ∧ i = .int .i64 ((j : Nat) : Int) ∧ Hid (Below w4.heap.size w4 wr)
theorem mem_hasB {zs : List Int} {y : Int} (h : y ∈ zs) : hasB zs y = true := by unfold hasB; simpa using h
set_option maxHeartbeats 3200000 in
theorem lawGreedySpread_walk (A : Option Addr) (c : Nat) (bs : List Int) (w : World) (hr : RdB w w.heap.size A bs) (hcap : bs.length ≤ c) (hm : c ≤ maxLen) :
    Calls Try.prog 6 #[.slice A bs.length c] w fun e w' => e = .returned (.bool true) ∧ Below w.heap.size w w' := by
  unfold maxLen at hm
  obtain ⟨n0, Hn0⟩ : ∃ n, Hid (bs.length = n) := ⟨_, rfl⟩
  rw [Hn0.out] at hcap ⊢
  have HD := Lib.hid (drawGreedySpread_any A c n0 bs w hr Hn0.out hcap (by omega))
  clear hr
  by_cases hb : 1048576 < n0
  · go_enter Try.func6, Try.ntmps6
    go_wp2
    go_ret
    exact ⟨rfl, Below.refl _ _⟩
  · go_enter Try.func6, Try.ntmps6
    go_wp2_with fail
    refine HD.out.mono ?_
    rintro e w1 ⟨A1, c1, n, zs, k, far, u, d, rfl, hn10, hk, hf, hud, hin, hb1⟩
    obtain ⟨W1, pb, HW1, Hr1, Hc1, HB1, Hs1⟩ := boxU u d w1
    have E1 : Hid (LAt w pb u d A1 c1 n zs W1) := ⟨hin.out.later HB1.out, Hc1.out, hb1.out.trans (HB1.out.mono hb1.out.size)⟩
    obtain ⟨q0, q1⟩ := E1.out.cells
    rw [← HW1.out, ← Hr1.out] at q0 q1
    clear hin hb1 HD hb hcap hm Hc1 HB1 Hs1
    have hL10 := gdQ_len10 zs k far u d
    have Hf0 := Lib.hid (gdQ_some (zs := zs) (k := k) (far := far) (u := u) (d := d))
    obtain ⟨xs, Hx⟩ : ∃ xs, Hid (gdQ zs k far u d = xs) := ⟨_, rfl⟩
    obtain ⟨L, HL⟩ : ∃ L, Hid (xs.length = L) := ⟨_, rfl⟩
    rw [Hx.out, HL.out] at hL10
    have Hf : Hid (L ≠ 0 → vsB zs k far u d = true) := fun h => by
      have := Hf0.out; rw [Hx.out, HL.out] at this; exact this h
    have HI := Lib.hid (SpC.row iGreedySpread_ok Hx.out HL.out hL10)
    have HS := Lib.hid (SpC.row sGreedySpread_ok Hx.out HL.out hL10)
    clear Hf0
    go_wp2_with fail
    rw [HW1.out]
    refine (HI.out _ _ _ W1 E1.out.pin).mono ?_
    rintro e w2 ⟨A3, c3, rfl, G2, -, hq⟩
    have E2 := Lib.hid (E1.out.later hq.out)
    clear hq E1 q0 q1
    obtain ⟨q0, q1⟩ := E2.out.cells
    rw [Hr1.out]
    go_wp2_with fail
    refine (HS.out _ _ _ w2 E2.out.pin).mono ?_
    rintro e w3 ⟨A4, c4, rfl, R3, -, hq⟩
    have E3 := Lib.hid (E2.out.later hq.out)
    have G3 := Lib.hid (G2.out.later hq.out)
    clear hq E2 G2 q0 q1
    go_wp2_with fail
    refine (calls_drawn (eqLi_same A3 A4 c3 c4 L L xs w3 _ _ G3.out.rd G3.out.len R3.out.rd R3.out.len (by omega))).mono ?_
    rintro e w4 ⟨rfl, hq⟩
    have E4 := Lib.hid (E3.out.later hq)
    have G4 := Lib.hid (G3.out.later hq)
    clear hq E3 G3 R3
    obtain ⟨q0, q1⟩ := E4.out.cells
    by_cases h0 : L = 0
    · subst h0
      clear Hf
      go_wp2_with fail
      refine (HS.out _ _ _ w4 E4.out.pin).mono ?_
      rintro e w5 ⟨A5, c5, rfl, R5, -, hq⟩
      have E5 := Lib.hid (E4.out.later hq.out)
      have G5 := Lib.hid (G4.out.later hq.out)
      clear hq q0 q1
      go_wp2_with fail
      refine (calls_drawn (eqLi_same A3 A5 c3 c5 0 0 xs w5 _ _ G5.out.rd G5.out.len R5.out.rd R5.out.len (by omega))).mono ?_
      rintro e w6 ⟨rfl, hq⟩
      have E6 := Lib.hid (E5.out.later hq)
      clear hq
      go_wp2
      go_ret
      exact ⟨rfl, E6.out.bel⟩
    · have hv := Hf.out h0
      obtain ⟨v1, v2, v3, v4, v5, K, U, D, rfl, v6, rfl, rfl, v7, v8, v9⟩ := vsB_get hv
      have hl0 : ((L : Int) == 0) = false := by rw [beq_eq_false_iff_ne]; omega
      have hgd : xs = gdL (rcB (nrF far) U D zs) zs K := by rw [← Hx.out, gdQ_yes hv]
      obtain ⟨a1, a2, a3⟩ := gdL_asc (rcB (nrF far) U D zs) v2 K
      rw [← hgd] at a1 a2 a3
      obtain rfl : K = L := by rw [← a2]; exact HL.out
      have Hm : Hid (∀ j, j < K → xs.getD j 0 ∈ zs) := fun j hj => a3 _ (by simp [List.getD, List.getElem?_eq_getElem (show j < xs.length by omega)])
      have Ha : Hid (∀ j, 0 < j → j < K → xs.getD (j - 1) 0 ≤ xs.getD j 0) := fun j h1 h2 => ascB_at a1 (by omega) (by omega)
      have hv1 := vsB_k (k' := ((1 : Nat) : Int)) hv (by omega) (by omega)
      have HI1 := Lib.hid (SpC.row iGreedySpread_ok (gdQ_yes hv1) (gdL_asc _ v2 1).2.1 (by omega))
      have HI2 := Lib.hid (SpC.row iBestSpread_ok (bsQ_yes hv1) (spL_len (bstL_mem (f := rcB (nrF far) U D zs) (vh_asc v1) v2 1)).1 (by omega))
      rw [← one_same _ v2] at HI2
      obtain ⟨ys, Hy⟩ : ∃ ys, Hid (gdL (rcB (nrF far) U D zs) zs 1 = ys) := ⟨_, rfl⟩
      rw [Hy.out] at HI1 HI2
      have HIN : Hid (∀ W y q, Below w4.heap.size w4 W → y ∈ zs → Calls Try.prog 27 #[.slice A1 n c1, .int .i64 y] (W.drewN q) fun e w' => e = .returned (.bool true) ∧ w' = W.drewN q) := fun W y q hW hy => by
        have := isIn_any A1 c1 n zs y (W.drewN q) _ (E4.out.pin.later (below_drewN hW q)).rd E4.out.pin.len (by omega)
        rw [mem_hasB hy] at this
        exact this.mono fun _ _ h => ⟨h.1, h.2.symm⟩
      clear HI HS Hf h0 hv hgd a1 a2 a3 v1 v2 v3 v4 v5 v6 v7 v8 v9 hv1
      go_wp2
      go_loopw [8] (fun i wr => JRel K w4 i wr) (fun i _ => K - (intOf i).toNat)
      case atStart => exact ⟨0, by omega, rfl, Below.refl _ _⟩
      case round =>
        obtain ⟨j, hj, rfl, HB⟩ := hrel
        by_cases hjL : j < K
        · obtain ⟨b3, o3, rfl, hb3, hc3⟩ := G4.out.rd (by rw [G4.out.len]; omega)
          have hcj := hc3 j (by rw [G4.out.len]; omega)
          have hcp := hc3 (j - 1) (by rw [G4.out.len]; omega)
          have hmj := Hm.out j hjL
          have haj := Ha.out j
          obtain ⟨x, Hxx⟩ : ∃ x, Hid (xs.getD j 0 = x) := ⟨_, rfl⟩
          obtain ⟨y, Hyy⟩ : ∃ y, Hid (xs.getD (j - 1) 0 = y) := ⟨_, rfl⟩
          rw [Hxx.out] at hcj hmj haj
          rw [Hyy.out] at hcp haj
          have KS : Hid (∀ W, Below w4.heap.size w4 W → W.cell? ⟨b3, o3 + j, none⟩ = some (.int .i64 x) ∧ W.cell? ⟨b3, o3 + (j - 1), none⟩ = some (.int .i64 y)) := fun W hW => ⟨(hW.cell (p := ⟨b3, o3 + j, none⟩) hb3).trans hcj, (hW.cell (p := ⟨b3, o3 + (j - 1), none⟩) hb3).trans hcp⟩
          obtain ⟨k0, k1⟩ := KS.out wr HB.out
          have Hmj := Lib.hid hmj
          clear hc3 hcj hcp hmj q0 q1
          by_cases hj0 : 0 < j
          · have hxy := haj hj0 hjL
            obtain ⟨i, Hi⟩ : ∃ i, Hid (j - 1 = i) := ⟨_, rfl⟩
            rw [Hi.out] at k1
            simp only [Hi.out] at KS
            have hj1 : (0 : Int) < ((j : Nat) : Int) := by omega
            have hj2 : (j : Int) < (K : Int) := by omega
            have hj3 : (0 : Int) ≤ ((j : Nat) : Int) := by omega
            have hi1 : (0 : Int) ≤ (i : Int) := by omega
            have hiK : i < K := by have := Hi.out; omega
            have hi2 : (i : Int) < (K : Int) := by omega
            have hw1 : IntKind.i64.wrap ((j : Int) - 1) = (i : Int) := by rw [show (j : Int) - 1 = (i : Int) by have := Hi.out; omega]; exact IntWalk.i64_in _ (by omega)
            have hxy' : ¬ x < y := by omega
            have g1 : decide ((0 : Int) < (j : Int)) = true := decide_eq_true hj1
            have g2 : decide (0 < j) = true := decide_eq_true hj0
            have g3 : decide (x < y) = false := decide_eq_false hxy'
            clear haj
            go_wp2
            go_quiet (exact Calls.quiet_of_same (HIN.out wr x _ HB.out Hmj.out))
            go_wp2
            go_roundw
            case rel => exact ⟨j + 1, by omega, by go_num, below_drewN HB.out _⟩
            case measure => simp [intOf]; omega
          · have KS0 : Hid (∀ W, Below w4.heap.size w4 W → W.cell? ⟨b3, o3 + j, none⟩ = some (.int .i64 x)) := fun W hW => (KS.out W hW).1
            have hj2 : (j : Int) < (K : Int) := by omega
            have hj3 : (0 : Int) ≤ ((j : Nat) : Int) := by omega
            have hj4 : ¬ (0 : Int) < ((j : Nat) : Int) := by omega
            have g1 : decide ((0 : Int) < (j : Int)) = false := decide_eq_false hj4
            have g2 : decide (0 < j) = false := decide_eq_false hj0
            clear KS k1 haj
            go_wp2
            go_quiet (exact Calls.quiet_of_same (HIN.out wr x _ HB.out Hmj.out))
            go_wp2
            go_roundw
            case rel => exact ⟨j + 1, by omega, by go_num, below_drewN HB.out _⟩
            case measure => simp [intOf]; omega
        · obtain rfl : j = K := by omega
          have E5 := Lib.hid (E4.out.later HB.out)
          have KC : Hid (∀ W, Below wr.heap.size wr W → W.cell? ⟨pb, 0, none⟩ = some (.int .i64 (U : Int)) ∧ W.cell? ⟨pb, 1, none⟩ = some (.int .i64 (D : Int))) := fun W hW => (E5.out.later hW).cells
          clear q0 q1 HIN Hm Ha
          obtain ⟨q0, q1⟩ := KC.out wr (Below.refl _ _)
          have hjj : ((j : Int) == (j : Int)) = true := by simp
          go_wp2
          go_region_held3 (fun W' => W'.cell? ⟨pb, 0, none⟩ = some (.int .i64 (U : Int)) ∧ W'.cell? ⟨pb, 1, none⟩ = some (.int .i64 (D : Int)))
            (first
              | go_keep
              | exact KC.out _ hx1
              | exact KC.out _ hx2
              | exact KC.out _ hx3)
            (first
              | (go_at_call 24
                 refine (HI1.out _ _ _ _ (E5.out.later (by first | exact Below.refl _ _ | exact (Below.refl _ _).drew)).pin).mono ?_
                 rintro e f1 ⟨P1, s1, rfl, Y1, -, hq1⟩
                 have hx1 : Below wr.heap.size wr f1 := (by first | exact hq1.out | exact (Below.refl wr.heap.size wr).drew.trans hq1.out))
              | (go_at_call 22
                 refine (HI2.out _ _ _ _ (E5.out.later hx1).pin).mono ?_
                 rintro e f2 ⟨P2, s2, rfl, Y2, -, hq2⟩
                 have hx2 : Below wr.heap.size wr f2 := hx1.trans (hq2.out.mono hx1.size)
                 have Y1b := Y1.out.later hq2.out)
              | (go_at_call 15
                 refine (calls_drawn (eqLi_same P1 P2 s1 s2 1 1 ys f2 _ _ Y1b.rd Y1b.len Y2.out.rd Y2.out.len (by omega))).mono ?_
                 rintro e f3 ⟨rfl, hq3⟩
                 have hx3 : Below wr.heap.size wr f3 := hx2.trans (hq3.mono hx2.size)))
          go_wp2
          go_ret
          exact ⟨rfl, (E5.out.later hx3).bel⟩
end Go.Proofs.Ythphboeboiallab
