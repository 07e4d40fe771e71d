/-
  LeastCost of the model, walked: set by set of helpers.
  Conditions: as each theorem states.
-/
import Derived.Test.YtakljcpneghgnaaCL
namespace Go.Proofs.Ytakljcpneghgnaa
open Go.ChangeShapes Go.WideShapes Go.ChangeAt Go.RowKit
set_option linter.unusedVariables false
set_option maxRecDepth 4000

/-- The least so far, -1 for none. -/
def StC (m b : Int) : Prop := (b = -1 ∧ m = 351) ∨ (0 ≤ b ∧ m = b ∧ b ≤ 350)
theorem StC.first {m x : Int} (h : StC m (-1)) (hx : 0 ≤ x ∧ x ≤ 350) : StC (min m x) x := by
  rcases h with ⟨-, h⟩ | ⟨h, -⟩
  · exact .inr ⟨hx.1, by rw [h]; omega, hx.2⟩
  · omega
theorem StC.less {m b x : Int} (h : StC m b) (hb : 0 ≤ b) (hx : 0 ≤ x ∧ x ≤ 350) (hl : x < b) : StC (min m x) x := by
  rcases h with ⟨h, -⟩ | ⟨-, h, -⟩
  · omega
  · exact .inr ⟨hx.1, by rw [h]; omega, hx.2⟩
theorem StC.more {m b x : Int} (h : StC m b) (hb : 0 ≤ b) (hl : ¬ x < b) : StC (min m x) b := by
  rcases h with ⟨h, -⟩ | ⟨-, h, h2⟩
  · omega
  · exact .inr ⟨hb, by rw [h]; omega, h2⟩
theorem StC.low {m b : Int} (h : StC m b) : -1 ≤ b ∧ b ≤ 350 := by rcases h with ⟨h, -⟩ | ⟨h, -, h2⟩ <;> omega
theorem StC.end_ {m b : Int} (h : StC m b) (hm : m ≤ 300) : b = m := by rcases h with ⟨-, h⟩ | ⟨-, h, -⟩ <;> omega

set_option maxHeartbeats 3200000 in
theorem sLeastCost_ok : CNum 33 lcv := by
  intro A c n cost w h
  obtain ⟨i0, hi0, hz0, hz1, hz2⟩ := info_parts intInfo
  have H1 := Lib.hid (sValid_in A c n cost w _ h.rd h.len h.small)
  by_cases hv : vcost cost = true
  · obtain ⟨h6, -⟩ := (vcost_iff _).1 hv
    have hC := vcost_bd hv
    have hrow := fun i hi => vcost_len hv (i := i) hi
    rw [h.len] at h6 hC hrow
    have Hrow := Lib.hid hrow
    have HC := Lib.hid hC
    have Hs : Hid (lcv cost = bsC (clC cost) n n (2 ^ n - 1)) := by show _ = _; unfold lcv; rw [if_pos hv, h.len]
    rw [hv] at H1
    have HIn := Lib.hid h
    clear h hv hC hrow
    have Hpow := Lib.hid (fun W => power_any n W (show n ≤ 7 by omega))
    obtain ⟨Q, HQ⟩ : ∃ Q, Hid (2 ^ n = Q + 1) := ⟨2 ^ n - 1, by have := Nat.two_pow_pos n; show _ = _; omega⟩
    have hQ : Q < 64 := by have : 2 ^ n ≤ 64 := (Nat.pow_le_pow_right (by omega) h6 : 2 ^ n ≤ 2 ^ 6); rw [HQ.out] at this; omega
    rw [HQ.out] at Hpow
    go_enter Try.func33, Try.ntmps33
    go_wp2_with fail
    refine H1.out.mono ?_
    rintro e w0 ⟨rfl, q0, rfl⟩
    have hbel0 := below_drewN (Below.refl w.heap.size w) q0
    generalize w.drewN q0 = w0 at hbel0 ⊢
    have HIn0 := Lib.hid (HIn.out.later hbel0)
    have HB0 := Lib.hid hbel0
    clear hbel0
    go_wp2_with fail
    refine (Hpow.out _).mono ?_
    rintro e w' ⟨rfl, rfl⟩
    go_wp2_with (
      at_make
      refine wpList_make_full _ rfl _ _ 23 rfl w0.heap.size 3 i0 _ 1 Try.underlying23 hi0 hz0 hz1 _ _ _ _ (Q + 1) rfl rfl rfl rfl (by rw [hz2]; omega) (by unfold maxLen; omega) (Nat.le_refl _) ?_
      intro w1 hown1 hg1
      rw [made_zero] at hown1
      have hb1 : Below w0.heap.size w0 w1 := (Below.refl _ _).grown hg1 (Nat.le_refl _) (fun j hj => by cases hj)
      have HO1 := Lib.hid hown1
      have HB1 := Lib.hid hb1
      clear hown1 hg1 hb1)
    have HC0 : Hid (∀ j, j < 1 → (fun _ => 0 : Nat → Int) j = tbC (clC cost) n j) := fun j hj => by
      have : j = 0 := by omega
      subst this; exact (tbC_zero _ _).symm
    go_loopw [5] (fun s wr => ∃ S : Nat, ∃ M : Nat → Int, 1 ≤ S ∧ S ≤ Q + 1 ∧ s = .int .i64 S ∧ Hid (∀ j, j < S → M j = tbC (clC cost) n j) ∧ Hid (wr.ownsRow w0.heap.size 3 1 (.slice (some ⟨w0.heap.size, 0, none⟩) (Q + 1) (Q + 1)) (Q + 1) (mRow M (Q + 1))) ∧ Hid (Below w0.heap.size w0 wr)) (fun s _ => Q + 1 - (intOf s).toNat)
    case atStart => exact ⟨1, _, Nat.le_refl _, by omega, rfl, HC0, HO1, HB1⟩
    case round =>
      clear HC0 HO1 HB1
      obtain ⟨S, M, hS1, hSQ, rfl, HM, HO, HB⟩ := hrel
      by_cases hlt : S < Q + 1
      · have hSn : S < 2 ^ n := by rw [HQ.out]; omega
        obtain ⟨f1, f2, f3⟩ := setC_all ⟨n, by omega⟩ ⟨S, by omega⟩ hSn
        simp only at f1 f2 f3
        obtain ⟨k, Hk⟩ : ∃ k, Hid (bc 7 S = k + 1) := ⟨bc 7 S - 1, by have := f1 hS1; show _ = _; omega⟩
        have hkn : k < n := by have := Hk.out; omega
        have Hones := Lib.hid (fun W => bits_any S W (show S < 128 by omega))
        rw [Hk.out] at Hones
        have HSn := Lib.hid hSn
        have hwk : IntKind.i64.wrap (((k + 1 : Nat) : Int) - 1) = (k : Int) := by rw [IntWalk.i64_in _ (by omega)]; omega
        have hS128 : S < 128 := by omega
        clear f1 f2 f3 hSn
        obtain ⟨bw, ow, ar, ca, ls, rfl, hbw, Hl, hcl0, hca, hcm, hrl⟩ := HIn0.out.rd.x (k := k) (by rw [HIn0.out.len]; exact hkn)
        have hlen : ls.length = n := by rw [← Hl.out]; exact Hrow.out k hkn
        rw [hlen] at hcl0 hca
        have hfr := HO.out.frozenAt S
        have cS0 : wr.cell? ⟨w0.heap.size, S, none⟩ = some (.int .i64 (M S)) := (HO.out.cellAt S (by omega)).trans (mRow_get _ (by omega))
        obtain ⟨hst1, hst2⟩ := HO.out.stored S (.int .i64 (-1))
        rw [mRow_set M (-1) (by omega)] at hst1
        have hB2 := HB.out.setCell (p := ⟨w0.heap.size, S, none⟩) (Nat.le_refl _) (.int .i64 (-1))
        have HO2 := Lib.hid hst1
        have HB2 := Lib.hid hB2
        have Hrl := Lib.hid hrl
        have Hlen := Lib.hid hlen
        have Hcl0 := Lib.hid hcl0
        have hd1 : decide ((S : Int) < (Q : Int) + 1) = true := decide_eq_true (by omega)
        clear hst1 hst2 hB2 hcl0 hrl hlen HO HB
        go_wp2_with fail
        refine (Hpow.out _).mono ?_
        rintro e w' ⟨rfl, rfl⟩
        go_wp2
        generalize wr.setCell ⟨w0.heap.size, S, none⟩ (.int .i64 (-1)) = W1 at HO2 HB2 ⊢
        go_loopw [6] (fun i wr => ∃ i' : Nat, ∃ a, i' ≤ n ∧ i = .int .i64 i' ∧ Hid (StC (mnC (fsC (clC cost) n S) (fun h => S.testBit h) i') a) ∧ Hid (wr.ownsRow w0.heap.size 3 1 (.slice (some ⟨w0.heap.size, 0, none⟩) (Q + 1) (Q + 1)) (Q + 1) (mRow (upM M S a) (Q + 1))) ∧ Hid (Below w0.heap.size w0 wr)) (fun i _ => n - (intOf i).toNat)
        case atStart => exact ⟨0, -1, Nat.zero_le _, rfl, .inl ⟨rfl, rfl⟩, HO2, HB2⟩
        case round =>
          clear HO2 HB2
          obtain ⟨i, a, hi, rfl, Ha, HO, HB⟩ := hrel
          obtain ⟨ha0, ha1⟩ := Ha.out.low
          by_cases hli : i < n
          · obtain ⟨b, off, x, rfl, hbb, Hx, hcx0⟩ := Hrl.out.x (k := i) (by rw [Hlen.out]; exact hli)
            have hcx : wr.cell? ⟨b, off + i, none⟩ = some (.int .i64 x) := (HB.out.cell hbb).trans hcx0
            have hcl : wr.cell? ⟨bw, ow + k, none⟩ = some (.slice (some ⟨b, off, none⟩) n ca) := (HB.out.cell hbw).trans Hcl0.out
            have hxC : clC cost k i = x := by unfold clC; rw [Hl.out]; exact Hx.out
            by_cases hbit : S.testBit i = true
            · have Hbit := Lib.hid (fun W => bit_is S i W hS128 (show i < 7 by omega) (z := 1) (by rw [if_pos hbit]))
              obtain ⟨-, -, g3⟩ := subC_all ⟨S, hS128⟩ ⟨i, by omega⟩ hbit
              simp only at g3
              have hpi := Nat.two_pow_pos i
              obtain ⟨P, HP⟩ : ∃ P : Nat, Hid (2 ^ i = P) := ⟨2 ^ i, rfl⟩
              have Hpi := Lib.hid (fun W => power_any i W (show i ≤ 7 by omega))
              rw [HP.out] at Hpi g3 hpi
              obtain ⟨D, HD⟩ : ∃ D, Hid (S - P = D) := ⟨_, rfl⟩
              have hSP : IntKind.i64.wrap ((S : Int) - (P : Int)) = (D : Int) := by have := HD.out; rw [IntWalk.i64_in _ (by omega)]; omega
              have hDS : D < S := by have := HD.out; omega
              obtain ⟨y, Hy⟩ : ∃ y, Hid (tbC (clC cost) n D = y) := ⟨_, rfl⟩
              have hfs : fsC (clC cost) n S i = y + x := by unfold fsC; rw [HP.out, HD.out, Hy.out, Hk.out, Nat.add_sub_cancel, hxC]
              have hfb := fsC_bd h6 HC.out HSn.out hS1 hli
              rw [hfs] at hfb
              have hMD : M D = y := by rw [HM.out D hDS]; exact Hy.out
              have cS : wr.cell? ⟨w0.heap.size, S, none⟩ = some (.int .i64 a) := (HO.out.cellAt S (by omega)).trans (by rw [mRow_get _ (show S < Q + 1 by omega), upM_at])
              have cD : wr.cell? ⟨w0.heap.size, D, none⟩ = some (.int .i64 y) := (HO.out.cellAt D (by omega)).trans (by rw [mRow_get _ (show D < Q + 1 by omega), upM_other _ _ (by omega), hMD])
              have fS := HO.out.frozenAt S
              obtain ⟨m, Hm⟩ : ∃ m, Hid (mnC (fsC (clC cost) n S) (fun h => S.testBit h) i = m) := ⟨_, rfl⟩
              have HN := Lib.hid (mnC_yes (f := fsC (clC cost) n S) (P := fun h => S.testBit h) hbit Hm.out hfs)
              have Ha2 : Hid (StC m a) := by show StC _ _; rw [← Hm.out]; exact Ha.out
              obtain ⟨hst1, hst2⟩ := HO.out.stored S (.int .i64 (y + x))
              rw [mRow_set _ _ (show S < Q + 1 by omega), upM_upM] at hst1
              have hB2 := HB.out.setCell (p := ⟨w0.heap.size, S, none⟩) (Nat.le_refl _) (.int .i64 (y + x))
              have HO2 := Lib.hid hst1
              have HB2 := Lib.hid hB2
              have hwx : IntKind.i64.wrap (y + x) = y + x := IntWalk.i64_in _ (by omega)
              clear hst1 hst2 hB2 hbit g3 hfs hMD hxC Ha hcx0
              go_wp2_with fail
              refine (Hbit.out _).mono ?_
              rintro e w' ⟨rfl, rfl⟩
              by_cases hneg : a < 0
              · have ea : a = -1 := by omega
                have Hnew : Hid (StC (min m (y + x)) (y + x)) := (show StC m (-1) by rw [← ea]; exact Ha2.out).first hfb
                rw [← HN.out] at Hnew
                clear ea
                go_wp2
                go_quiet (first | (go_at_call 57; exact quiet_gen (Hpi.out _) ⟨_, rfl⟩) | (go_at_call 64; exact quiet_gen (Hones.out _) ⟨_, rfl⟩))
                go_wp2
                go_roundw
                case rel => exact ⟨i + 1, y + x, by omega, by go_num, Hnew, HO2, below_drewN HB2.out _⟩
                case measure => simp [intOf]; omega
              · by_cases hless : y + x < a
                · have Hnew : Hid (StC (min m (y + x)) (y + x)) := Ha2.out.less (by omega) hfb hless
                  rw [← HN.out] at Hnew
                  go_wp2
                  go_quiet (first | (go_at_call 57; exact quiet_gen (Hpi.out _) ⟨_, rfl⟩) | (go_at_call 64; exact quiet_gen (Hones.out _) ⟨_, rfl⟩))
                  go_wp2
                  go_roundw
                  case rel => exact ⟨i + 1, y + x, by omega, by go_num, Hnew, HO2, below_drewN HB2.out _⟩
                  case measure => simp [intOf]; omega
                · have Hnew : Hid (StC (min m (y + x)) a) := Ha2.out.more (by omega) hless
                  rw [← HN.out] at Hnew
                  go_wp2
                  go_quiet (first | (go_at_call 57; exact quiet_gen (Hpi.out _) ⟨_, rfl⟩) | (go_at_call 64; exact quiet_gen (Hones.out _) ⟨_, rfl⟩))
                  go_wp2
                  go_roundw
                  case rel => exact ⟨i + 1, a, by omega, by go_num, Hnew, HO, below_drewN HB.out _⟩
                  case measure => simp [intOf]; omega
            · have hbit2 : S.testBit i = false := by simpa using hbit
              have Hbit := Lib.hid (fun W => bit_is S i W hS128 (show i < 7 by omega) (z := 0) (by rw [if_neg hbit]))
              have HN : Hid (StC (mnC (fsC (clC cost) n S) (fun h => S.testBit h) (i + 1)) a) := by show StC _ _; rw [mnC_no (f := fsC (clC cost) n S) (P := fun h => S.testBit h) hbit2 rfl]; exact Ha.out
              clear hbit hbit2
              go_wp2_with fail
              refine (Hbit.out _).mono ?_
              rintro e w' ⟨rfl, rfl⟩
              go_wp2
              go_roundw
              case rel => exact ⟨i + 1, a, by omega, by go_num, HN, HO, HB⟩
              case measure => simp [intOf]; omega
          · obtain rfl : i = n := by omega
            have HM2 : Hid (∀ j, j < S + 1 → upM M S a j = tbC (clC cost) i j) := fun j hj => by
              by_cases e : j = S
              · subst e
                rw [upM_at]
                have h1 := tbC_step (C := clC cost) h6 HSn.out hS1
                have h2 := tbC_bd h6 HC.out HSn.out
                rw [h1] at h2 ⊢
                exact Ha.out.end_ h2.2
              · rw [upM_other _ _ e]; exact HM.out j (by omega)
            go_wp2
            go_roundw
            case rel => exact ⟨S + 1, _, by omega, by omega, by go_num, HM2, HO, HB⟩
            case measure => simp [intOf]; omega
      · obtain rfl : S = Q + 1 := by omega
        have cQ : wr.cell? ⟨w0.heap.size, Q, none⟩ = some (.int .i64 (M Q)) := (HO.out.cellAt Q (by omega)).trans (mRow_get _ (by omega))
        have Hfin : Hid (M Q = lcv cost) := by
          show _ = _
          rw [Hs.out, HM.out Q (by omega), ← tbC_full h6, show Q = 2 ^ n - 1 by rw [HQ.out]; rfl]
        have hwq : IntKind.i64.wrap (((Q + 1 : Nat) : Int) - 1) = (Q : Int) := by rw [IntWalk.i64_in _ (by omega)]; omega
        go_wp2_with fail
        refine (Hpow.out _).mono ?_
        rintro e w' ⟨rfl, rfl⟩
        go_wp2_with fail
        refine (Hpow.out _).mono ?_
        rintro e w' ⟨rfl, rfl⟩
        go_wp2
        go_ret
        exact ⟨ret_int Hfin.out, HB0.out.trans (HB.out.mono HB0.out.size)⟩
  · have hv' : vcost cost = false := by simpa using hv
    have Hs : Hid (lcv cost = -1) := by show _ = _; unfold lcv; rw [if_neg hv]
    rw [hv'] at H1
    clear hv hv' h
    go_enter Try.func33, Try.ntmps33
    go_wp2_with fail
    refine H1.out.mono ?_
    rintro e w1 ⟨rfl, q, rfl⟩
    go_wp2
    go_ret
    exact ⟨ret_int Hs.out.symm, below_drewN (Below.refl _ _) q⟩
end Go.Proofs.Ytakljcpneghgnaa
