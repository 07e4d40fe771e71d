/-
  The law FnGapsOf, walked: gaps fill the round.
  Conditions: none.
-/
import Derived.Test.YtdkonaaoanggiaaYR
import Derived.BigQuiet
namespace Go.Proofs.Ytdkonaaoanggiaa
open Go.ChangeShapes Go.WideShapes Go.ChangeAt Go.RowKit
set_option linter.unusedVariables false
set_option maxRecDepth 4000

set_option maxHeartbeats 1600000 in
theorem lawGapsOf_walk (A : Option Addr) (c : Nat) (bs : List Int) (w : World) (hr : RdB w w.heap.size A bs) (hcap : bs.length ≤ c) (hm : c ≤ maxLen) :
    Calls Try.prog 5 #[.slice A bs.length c] w fun e w' => e = .returned (.bool true) ∧ Below w.heap.size w w' := by
  unfold maxLen at hm
  by_cases hb : 1048576 < bs.length
  · go_enter Try.func5, Try.ntmps5
    go_wp2
    go_ret
    exact ⟨rfl, Below.refl _ _⟩
  · have HD := Lib.hid (drawGapsOf_any A c bs.length bs w hr rfl hcap hm)
    have HI0 := Lib.hid iGapsOf_ok
    have HS0 := Lib.hid sGapsOf_ok
    have HV0 := Lib.hid iVisitsOf_ok
    go_enter Try.func5, Try.ntmps5
    go_wp2_with fail
    refine HD.out.mono ?_
    rintro e w1 ⟨n, A1, c1, m, zs, rfl, ⟨hm1, hm20⟩, N1, B1⟩
    clear HD hr hb hcap hm
    have hbe : ∀ x : Int, (x == x) = true := fun x => by simp
    have hbn : ∀ x : Int, (x != x) = false := fun x => by simp
    have hbb : ∀ x : Bool, (x == x) = true := fun x => by simp
    have hbx : ∀ x : Bool, (x != x) = false := fun x => by simp
    have hL8 := gwY_len n zs
    obtain ⟨L, HL⟩ : ∃ L, Hid ((gwY n zs).length = L) := ⟨_, rfl⟩
    rw [HL.out] at hL8
    have Hf : Hid (L ≠ 0 → n = L ∧ (vwY n zs).length = L ∧ gwY n zs.reverse = gwY n zs ∧ ∀ s, s < L → ((gwY n zs).getD s 0 = -1 ∧ (vwY n zs).getD s 0 = 0) ∨ (∃ g v : Nat, (gwY n zs).getD s 0 = g ∧ (vwY n zs).getD s 0 = v ∧ 0 < v ∧ v ≤ m ∧ 1 ≤ g ∧ g ≤ m ∧ m ≤ g * v)) := fun h => by
      obtain ⟨hv, hn, hs⟩ := gw_facts HL.out h
      have hR := vrY_iff.1 hv
      have hl := N1.out.len
      have hvw : vwY n zs = vsY L zs zs.length := by unfold vwY; rw [if_pos hv, hn, Int.toNat_natCast]
      have hgr : gwY n zs.reverse = gpY L zs.reverse 0 := by unfold gwY; rw [if_pos (vrY_yes (rnd_rev hR)), hn, Int.toNat_natCast]
      refine ⟨hn, by rw [hvw, vsY_len], by rw [hgr, hs, gpY_rev _ _ (by omega)], fun s hs2 => ?_⟩
      rw [hvw, hs, ← hl]
      exact spot_facts (by omega) hs2
    obtain ⟨xs, Hx⟩ : ∃ xs, Hid (gwY n zs = xs) := ⟨_, rfl⟩
    obtain ⟨ys, Hy⟩ : ∃ ys, Hid (vwY n zs = ys) := ⟨_, rfl⟩
    rw [Hx.out] at Hf HL
    rw [Hy.out] at Hf
    have HI : Hid (∀ A c W, RoundIn W A c m zs → Calls Try.prog 27 #[.int .i64 n, .slice A m c] W (RowAt xs L W)) := fun A c W h => (HI0.out n A c m zs W h).mono (fun e w' hr => by rw [Hx.out] at hr; exact hr.at_ HL.out (by omega))
    have HS : Hid (∀ A c W, RoundIn W A c m zs → Calls Try.prog 28 #[.int .i64 n, .slice A m c] W (RowAt xs L W)) := fun A c W h => (HS0.out n A c m zs W h).mono (fun e w' hr => by rw [Hx.out] at hr; exact hr.at_ HL.out (by omega))
    clear HS0
    go_wp2_with fail
    refine (HI.out _ _ w1 N1.out).mono ?_
    rintro e w2 ⟨A2, c2, rfl, G2, hq⟩
    have N2 := Lib.hid (N1.out.later hq.out)
    have B2 := Lib.hid (B1.out.trans (hq.out.mono B1.out.size))
    clear hq
    go_wp2_with fail
    refine (HS.out _ _ w2 N2.out).mono ?_
    rintro e w3 ⟨A3, c3, rfl, S3, hq⟩
    have N3 := Lib.hid (N2.out.later hq.out)
    have G3 := Lib.hid (G2.out.later hq.out)
    have B3 := Lib.hid (B2.out.trans (hq.out.mono B2.out.size))
    clear hq
    go_wp2_with fail
    refine (calls_drawn (eqLi_same A2 A3 c2 c3 L L xs w3 _ _ G3.out.rd G3.out.len S3.out.rd S3.out.len (by omega))).mono ?_
    rintro e w4 ⟨rfl, hq⟩
    have N4 := Lib.hid (N3.out.later hq)
    have G4 := Lib.hid (G3.out.later hq)
    have S4 := Lib.hid (S3.out.later hq)
    have B4 := Lib.hid (B3.out.trans (hq.mono B3.out.size))
    clear hq
    by_cases h0 : L = 0
    · subst h0
      clear Hf
      go_wp2_with fail
      refine (HS.out _ _ w4 N4.out).mono ?_
      rintro e w5 ⟨A4, c4, rfl, S5, hq⟩
      have N5 := Lib.hid (N4.out.later hq.out)
      have G5 := Lib.hid (G4.out.later hq.out)
      have B5 := Lib.hid (B4.out.trans (hq.out.mono B4.out.size))
      clear hq
      go_wp2_with fail
      refine (calls_drawn (eqLi_same A2 A4 c2 c4 0 0 xs w5 _ _ G5.out.rd G5.out.len S5.out.rd S5.out.len (by omega))).mono ?_
      rintro e w6 ⟨rfl, hq⟩
      have N6 := Lib.hid (N5.out.later hq)
      have G6 := Lib.hid (G5.out.later hq)
      have S6 := Lib.hid (S5.out.later hq)
      have B6 := Lib.hid (B5.out.trans (hq.mono B5.out.size))
      clear hq
      go_wp2
      go_ret
      exact ⟨rfl, B6.out⟩
    · obtain ⟨rfl, hvl, hrev, hsp⟩ := Hf.out h0
      have hl0 : ((L : Int) == 0) = false := by rw [beq_eq_false_iff_ne]; omega
      have Hvl := Lib.hid hvl
      have Hrev := Lib.hid hrev
      have Hsp := Lib.hid hsp
      have HV : Hid (∀ A c W, RoundIn W A c m zs → Calls Try.prog 22 #[.int .i64 (L : Int), .slice A m c] W (RowAt ys L W)) := fun A c W h => (HV0.out (L : Int) A c m zs W h).mono (fun e w' hr => by rw [Hy.out] at hr; exact hr.at_ Hvl.out (by omega))
      have HIr : Hid (∀ A c W, RoundIn W A c m zs.reverse → Calls Try.prog 27 #[.int .i64 (L : Int), .slice A m c] W (RowAt xs L W)) := fun A c W h => (HI0.out (L : Int) A c m zs.reverse W h).mono (fun e w' hr => by rw [Hrev.out] at hr; exact hr.at_ HL.out (by omega))
      clear hvl hrev hsp Hf h0 HV0 HI0 HI HS
      go_wp2_with fail
      refine (HV.out _ _ w4 N4.out).mono ?_
      rintro e w5 ⟨A4, c4, rfl, V5, hq⟩
      have N5 := Lib.hid (N4.out.later hq.out)
      have G5 := Lib.hid (G4.out.later hq.out)
      have B5 := Lib.hid (B4.out.trans (hq.out.mono B4.out.size))
      clear hq
      go_wp2
      go_loopw [7] (fun i wr => ∃ s q : Nat, s ≤ L ∧ i = .int .i64 s ∧ wr = w5.drewN q) (fun i _ => L - (intOf i).toNat)
      case atStart => exact ⟨0, 0, by omega, rfl, rfl⟩
      case round =>
        obtain ⟨s, q, hs, rfl, rfl⟩ := hrel
        by_cases hlt : s < L
        · obtain ⟨bg, og, g, rfl, -, Hg, hcg⟩ := G5.out.rd.x (k := s) (by rw [G5.out.len]; exact hlt)
          obtain ⟨bv, ov, v, rfl, -, Hv, hcv⟩ := V5.out.rd.x (k := s) (by rw [V5.out.len]; exact hlt)
          rcases Hsp.out s hlt with ⟨e1, e2⟩ | ⟨g', v', e1, e2, h1, h2, h3, h4, h5⟩
          · rw [Hg.out] at e1
            rw [Hv.out] at e2
            subst e1 e2
            go_wp2_with fail
            go_quiet (fail)
            go_wp2
            go_roundw
            case rel => exact ⟨s + 1, _, by omega, by go_num, rfl⟩
            case measure => simp [intOf]; omega
          · rw [Hg.out] at e1
            rw [Hv.out] at e2
            subst e1 e2
            obtain ⟨t, Ht⟩ : ∃ t, Hid (g' * v' = t) := ⟨_, rfl⟩
            have ht1 : (g' : Int) * (v' : Int) = (t : Int) := by rw [← Ht.out]; exact (Int.natCast_mul g' v').symm
            have ht2 : m ≤ t := by rw [← Ht.out]; exact h5
            have ht3 : t ≤ 400 := by
              rw [← Ht.out]
              exact Nat.le_trans (Nat.mul_le_mul (show g' ≤ 20 by omega) (show v' ≤ 20 by omega)) (by omega)
            have ht4 : IntKind.i64.wrap (t : Int) = (t : Int) := IntWalk.i64_in _ (by omega)
            have hd1 : decide ((g' : Int) < 0) = false := by simp
            have hd2 : ((v' : Int) == 0) = false := by rw [beq_eq_false_iff_ne]; omega
            have hd3 : decide ((0 : Int) < (v' : Int)) = true := by simp; omega
            have hd4 : decide (0 < v') = true := by simp; omega
            have hd5 : decide ((t : Int) < (m : Int)) = false := by simp; omega
            have hd6 : decide (t < m) = false := by simp; omega
            have hd7 : decide ((m : Int) < (g' : Int)) = false := by simp; omega
            have hd8 : decide (m < g') = false := by simp; omega
            have hd9 : (v' == 0) = false := by rw [beq_eq_false_iff_ne]; omega
            clear h1 h3 h4 h5
            go_wp2_with fail
            go_quiet (fail)
            go_wp2
            go_roundw
            case rel => exact ⟨s + 1, _, by omega, by go_num, rfl⟩
            case measure => simp [intOf]; omega
        · obtain rfl : s = L := by omega
          have N6 : Hid (RoundIn (w5.drewN q) A1 c1 m zs) := N5.out.later (below_drewN (Below.refl _ _) q)
          have G6 : Hid (RoundIn (w5.drewN q) A2 c2 s xs) := G5.out.later (below_drewN (Below.refl _ _) q)
          have B6 : Hid (Below w.heap.size w (w5.drewN q)) := below_drewN B5.out q
          generalize w5.drewN q = w6 at N6 G6 B6 ⊢
          go_wp2_with fail
          refine (backwards_any A1 c1 m zs w6 N6.out (by omega)).mono ?_
          rintro e w7 ⟨A5, c5, rfl, R7, hq⟩
          have N7 := Lib.hid (N6.out.later hq.out)
          have G7 := Lib.hid (G6.out.later hq.out)
          have B7 := Lib.hid (B6.out.trans (hq.out.mono B6.out.size))
          clear hq
          go_wp2_with fail
          refine (HIr.out _ _ w7 R7.out).mono ?_
          rintro e w8 ⟨A6, c6, rfl, T8, hq⟩
          have N8 := Lib.hid (N7.out.later hq.out)
          have G8 := Lib.hid (G7.out.later hq.out)
          have R8 := Lib.hid (R7.out.later hq.out)
          have B8 := Lib.hid (B7.out.trans (hq.out.mono B7.out.size))
          clear hq
          go_wp2_with fail
          refine (calls_drawn (eqLi_same A6 A2 c6 c2 s s xs w8 _ _ T8.out.rd T8.out.len G8.out.rd G8.out.len (by omega))).mono ?_
          rintro e w9 ⟨rfl, hq⟩
          have N9 := Lib.hid (N8.out.later hq)
          have G9 := Lib.hid (G8.out.later hq)
          have R9 := Lib.hid (R8.out.later hq)
          have T9 := Lib.hid (T8.out.later hq)
          have B9 := Lib.hid (B8.out.trans (hq.mono B8.out.size))
          clear hq
          go_wp2
          go_ret
          exact ⟨rfl, B9.out⟩
end Go.Proofs.Ytdkonaaoanggiaa
