/-
  LeastCost of the program, walked: set by set of helpers.
  Conditions: as each theorem states.
-/
import Derived.Test.YtakljcpneghgnaaCV
import Derived.Test.YtakljcpneghgnaaS1
import Derived.Test.YtakljcpneghgnaaV8
import Derived.Test.YtakljcpneghgnaaPW
import Derived.Deep.CutBlock
namespace Go.Proofs.Ytakljcpneghgnaa
open Go.ChangeShapes Go.WideShapes Go.ChangeAt Go.RowKit
set_option linter.unusedVariables false
set_option maxRecDepth 4000

theorem mnC_congr {f g : Nat → Int} {P : Nat → Bool} : ∀ {m : Nat}, (∀ h, h < m → P h = true → f h = g h) → mnC f P m = mnC g P m
  | 0, _ => rfl
  | m + 1, h => by
    simp only [mnC]
    rw [mnC_congr fun i hi => h i (by omega)]
    by_cases hp : P m = true
    · rw [if_pos hp, if_pos hp, h m (by omega) hp]
    · rw [if_neg hp, if_neg hp]
/-- The table's number for a set. -/
def tbC (C : Nat → Nat → Int) (n S : Nat) : Int := bsC C n (bc 7 S) S
def fsC (C : Nat → Nat → Int) (n S h : Nat) : Int := tbC C n (S - 2 ^ h) + C (bc 7 S - 1) h
theorem setC_all : ∀ n : Fin 7, ∀ S : Fin 64, S.val < 2 ^ n.val → (1 ≤ S.val → 1 ≤ bc 7 S.val) ∧ bc 7 S.val ≤ n.val ∧ (bitsOf S.val).length = bc 7 S.val := by decide +kernel
theorem pow_64 {n S : Nat} (hn : n ≤ 6) (hS : S < 2 ^ n) : S < 64 := Nat.lt_of_lt_of_le hS (Nat.pow_le_pow_right (by omega) hn : 2 ^ n ≤ 2 ^ 6)
theorem tbC_zero (C : Nat → Nat → Int) (n : Nat) : tbC C n 0 = 0 := by
  unfold tbC
  rw [show bc 7 0 = 0 by decide]; rfl
theorem tbC_bd {C : Nat → Nat → Int} {n S : Nat} (hn : n ≤ 6) (hC : BdC C n) (hS : S < 2 ^ n) : 0 ≤ tbC C n S ∧ tbC C n S ≤ 300 := by
  obtain ⟨-, h2, -⟩ := setC_all ⟨n, by omega⟩ ⟨S, pow_64 hn hS⟩ hS
  simp only at h2
  obtain ⟨g, -, -, -, h3⟩ := bsC_mem hn hC (bc 7 S) S h2 hS (Nat.le_refl _)
  have h1 := (bsC_bd hC hn (bc 7 S) S h2).1
  unfold tbC
  omega
theorem tbC_step {C : Nat → Nat → Int} {n S : Nat} (hn : n ≤ 6) (hS : S < 2 ^ n) (h1 : 1 ≤ S) : tbC C n S = mnC (fsC C n S) (fun h => S.testBit h) n := by
  obtain ⟨h2, -, -⟩ := setC_all ⟨n, by omega⟩ ⟨S, pow_64 hn hS⟩ hS
  have h3 := h2 h1
  simp only at h3
  obtain ⟨k, hk⟩ : ∃ k, bc 7 S = k + 1 := ⟨bc 7 S - 1, by omega⟩
  unfold tbC
  rw [hk]
  simp only [bsC]
  refine mnC_congr fun h hh hb => ?_
  obtain ⟨-, f2, -⟩ := subC_all ⟨S, by have := pow_64 hn hS; omega⟩ ⟨h, by omega⟩ hb
  simp only at f2
  unfold fsC tbC
  rw [hk, Nat.add_sub_cancel, show bc 7 (S - 2 ^ h) = k by omega]
theorem fsC_bd {C : Nat → Nat → Int} {n S h : Nat} (hn : n ≤ 6) (hC : BdC C n) (hS : S < 2 ^ n) (h1 : 1 ≤ S) (hh : h < n) : 0 ≤ fsC C n S h ∧ fsC C n S h ≤ 350 := by
  obtain ⟨h2, h3, -⟩ := setC_all ⟨n, by omega⟩ ⟨S, pow_64 hn hS⟩ hS
  have h4 := h2 h1
  simp only at h3 h4
  have h5 := tbC_bd (S := S - 2 ^ h) hn hC (Nat.lt_of_le_of_lt (Nat.sub_le _ _) hS)
  have h6 := hC (bc 7 S - 1) h (by omega) hh
  unfold fsC
  omega
theorem tbC_full {C : Nat → Nat → Int} {n : Nat} (hn : n ≤ 6) : tbC C n (2 ^ n - 1) = bsC C n n (2 ^ n - 1) := by
  obtain ⟨f1, -⟩ := fullC_all ⟨n, by omega⟩
  simp only at f1
  unfold tbC
  rw [f1]
/-- LeastCost. -/
def lcv (cost : List (List Int)) : Int := if vcost cost = true then bsC (clC cost) cost.length cost.length (2 ^ cost.length - 1) else -1
theorem upM_upM (M : Nat → Int) (c : Nat) (v v' : Int) : upM (upM M c v) c v' = upM M c v' := by
  funext i
  unfold upM
  split <;> rfl
theorem bitC_test : ∀ s : Fin 128, ∀ i : Fin 7, (bits BinOp.and IntKind.u64 ((s.val : Int) / 2 ^ i.val) 1 == 1) = s.val.testBit i.val := by decide +kernel
theorem notC_all : ∀ s : Fin 128, ∀ i : Fin 7, s.val.testBit i.val = true → bits BinOp.andNot IntKind.u64 (s.val : Int) (IntKind.u64.wrap ((2 : Int) ^ i.val)) = ((s.val - 2 ^ i.val : Nat) : Int) := by decide +kernel
theorem powC_wrap : ∀ i : Fin 8, IntKind.u64.wrap ((2 : Int) ^ i.val) = ((2 ^ i.val : Nat) : Int) := by decide +kernel

theorem made_zero (n : Nat) : (madeCells (Value.int .i64 0).cells (n * 1)).toList = mRow (fun _ => 0) n := by
  rw [made_ints]
  unfold mRow
  apply List.ext_getElem?
  intro i
  by_cases hi : i < n <;> simp [hi]
set_option maxHeartbeats 3200000 in
theorem iLeastCost_ok : CNum 32 lcv := by
  intro A c n cost w h
  obtain ⟨i0, hi0, hz0, hz1, hz2⟩ := info_parts intInfo
  have H1 := Lib.hid (iValidCosts_ok A c n cost w h)
  by_cases hv : vcost cost = true
  · obtain ⟨h6, -⟩ := (vcost_iff _).1 hv
    have hC := vcost_bd hv
    have hrow := fun i hi => vcost_len hv (i := i) hi
    rw [h.len] at h6 hC hrow
    have Hrow := Lib.hid hrow
    have HC := Lib.hid hC
    have Hs : Hid (lcv cost = bsC (clC cost) n n (2 ^ n - 1)) := by show _ = _; unfold lcv; rw [if_pos hv, h.len]
    rw [hv] at H1
    have HIn := Lib.hid h
    clear h hv hC hrow
    obtain ⟨Q, HQ⟩ : ∃ Q, Hid (2 ^ n = Q + 1) := ⟨2 ^ n - 1, by have := Nat.two_pow_pos n; show _ = _; omega⟩
    have hQ : Q < 64 := by have : 2 ^ n ≤ 64 := (Nat.pow_le_pow_right (by omega) h6 : 2 ^ n ≤ 2 ^ 6); rw [HQ.out] at this; omega
    have hp1 : IntKind.u64.wrap ((2 : Int) ^ n) = ((Q + 1 : Nat) : Int) := by rw [← HQ.out]; exact powC_wrap ⟨n, by omega⟩
    have hp2 : IntKind.u64.wrap (((Q + 1 : Nat) : Int) - 1) = (Q : Int) := by rw [IntKind.wrap_u64]; omega
    have hp3 : IntKind.u64.wrap ((Q : Int) + 1) = ((Q + 1 : Nat) : Int) := by rw [IntKind.wrap_u64]; omega
    go_enter Try.func32, Try.ntmps32
    go_wp2_with fail
    refine H1.out.mono ?_
    rintro e w0 ⟨rfl, hbel0⟩
    have HIn0 := Lib.hid (HIn.out.later hbel0)
    have HB0 := Lib.hid hbel0
    clear hbel0
    go_wp2_with (
      at_make
      go_loud (refine wpList_make_full _ rfl _ _ 23 rfl w0.heap.size 3 i0 _ 1 Try.underlying23 hi0 hz0 hz1 _ _ _ _ (Q + 1) rfl rfl (by first | rfl | omega | (simp only [hp1, hp2, hp3]; done) | simp) (by first | rfl | omega | (simp only [hp1, hp2, hp3]; done) | simp) (by rw [hz2]; omega) (by unfold maxLen; omega) (Nat.le_refl _) ?_)
      intro w1 hown1 hg1
      rw [made_zero] at hown1
      have hb1 : Below w0.heap.size w0 w1 := (Below.refl _ _).grown hg1 (Nat.le_refl _) (fun j hj => by cases hj)
      have HO1 := Lib.hid hown1
      have HB1 := Lib.hid hb1
      clear hown1 hg1 hb1)
    have HC0 : Hid (∀ j, j < 1 → (fun _ => 0 : Nat → Int) j = tbC (clC cost) n j) := fun j hj => by
      have : j = 0 := by omega
      subst this; exact (tbC_zero _ _).symm
    go_loopw [5] (fun s wr => ∃ S : Nat, ∃ M : Nat → Int, 1 ≤ S ∧ S ≤ Q + 1 ∧ s = .int .u64 S ∧ Hid (∀ j, j < S → M j = tbC (clC cost) n j) ∧ Hid (wr.ownsRow w0.heap.size 3 1 (.slice (some ⟨w0.heap.size, 0, none⟩) (Q + 1) (Q + 1)) (Q + 1) (mRow M (Q + 1))) ∧ Hid (Below w0.heap.size w0 wr)) (fun s _ => Q + 1 - (intOf s).toNat)
    case atStart => exact ⟨1, _, Nat.le_refl _, by omega, rfl, HC0, HO1, HB1⟩
    case round =>
      clear HC0 HO1 HB1
      obtain ⟨S, M, hS1, hSQ, rfl, HM, HO, HB⟩ := hrel
      by_cases hlt : S ≤ Q
      · have hSn : S < 2 ^ n := by rw [HQ.out]; omega
        obtain ⟨f1, f2, f3⟩ := setC_all ⟨n, by omega⟩ ⟨S, by omega⟩ hSn
        simp only at f1 f2 f3
        obtain ⟨k, Hk⟩ : ∃ k, Hid (bc 7 S = k + 1) := ⟨bc 7 S - 1, by have := f1 hS1; show _ = _; omega⟩
        have hkn : k < n := by have := Hk.out; omega
        have Hones := Lib.hid (ones_small S (show S < 128 by omega))
        rw [f3, Hk.out] at Hones
        have HSn := Lib.hid hSn
        have hwk : IntKind.i64.wrap (((k + 1 : Nat) : Int) - 1) = (k : Int) := by rw [IntWalk.i64_in _ (by omega)]; omega
        have hS128 : S < 128 := by omega
        clear f1 f2 f3 hSn
        obtain ⟨bw, ow, ar, ca, ls, rfl, hbw, Hl, hcl, hca, hcm, hrl⟩ := HIn0.out.rd.x (k := k) (by rw [HIn0.out.len]; exact hkn)
        have hlen : ls.length = n := by rw [← Hl.out]; exact Hrow.out k hkn
        rw [hlen] at hcl hca
        have hfr := HO.out.frozenAt S
        have cS0 : wr.cell? ⟨w0.heap.size, S, none⟩ = some (.int .i64 (M S)) := (HO.out.cellAt S (by omega)).trans (mRow_get _ (by omega))
        obtain ⟨hst1, hst2⟩ := HO.out.stored S (.int .i64 351)
        rw [mRow_set M 351 (by omega)] at hst1
        have hB2 := HB.out.setCell (p := ⟨w0.heap.size, S, none⟩) (Nat.le_refl _) (.int .i64 351)
        have HO2 := Lib.hid hst1
        have HB2 := Lib.hid hB2
        have Hrl := Lib.hid hrl
        have Hlen := Lib.hid hlen
        have hcl2 : (wr.setCell ⟨w0.heap.size, S, none⟩ (.int .i64 351)).cell? ⟨bw, ow + k, none⟩ = some (.slice ar n ca) := (hB2.cell hbw).trans hcl
        clear hst1 hst2 hB2 hcl hrl hlen HO HB
        go_wp2_with fail
        refine (Hones.out _).mono ?_
        rintro e w2 ⟨rfl, rfl⟩
        generalize wr.setCell ⟨w0.heap.size, S, none⟩ (.int .i64 351) = W1 at HO2 HB2 hcl2 ⊢
        go_wp2
        go_loopw [35] (fun i wr => ∃ i' : Nat, ∃ a, i' ≤ n ∧ i = .int .i64 i' ∧ Hid (mnC (fsC (clC cost) n S) (fun h => S.testBit h) i' = a) ∧ 0 ≤ a ∧ a ≤ 351 ∧ Hid (wr.ownsRow w0.heap.size 3 1 (.slice (some ⟨w0.heap.size, 0, none⟩) (Q + 1) (Q + 1)) (Q + 1) (mRow (upM M S a) (Q + 1))) ∧ Hid (Below w0.heap.size w0 wr)) (fun i _ => n - (intOf i).toNat)
        case atStart => exact ⟨0, 351, Nat.zero_le _, rfl, rfl, by omega, by omega, HO2, HB2⟩
        case round =>
          clear HO2 HB2 hcl2
          obtain ⟨i, a, hi, rfl, Ha, ha0, ha1, HO, HB⟩ := hrel
          by_cases hli : i < n
          · obtain ⟨b, off, x, rfl, hbb, Hx, hcx0⟩ := Hrl.out.x (k := i) (by rw [Hlen.out]; exact hli)
            have hcx : wr.cell? ⟨b, off + i, none⟩ = some (.int .i64 x) := (HB.out.cell hbb).trans hcx0
            have hxC : clC cost k i = x := by unfold clC; rw [Hl.out]; exact Hx.out
            have hbt := bitC_test ⟨S, hS128⟩ ⟨i, by omega⟩
            simp only at hbt
            by_cases hbit : S.testBit i = true
            · rw [hbit] at hbt
              obtain ⟨-, -, g3⟩ := subC_all ⟨S, hS128⟩ ⟨i, by omega⟩ hbit
              have hnot := notC_all ⟨S, hS128⟩ ⟨i, by omega⟩ hbit
              simp only at g3 hnot
              have hpi := Nat.two_pow_pos i
              obtain ⟨D, HD⟩ : ∃ D, Hid (S - 2 ^ i = D) := ⟨_, rfl⟩
              have hDS : D < S := by have := HD.out; omega
              rw [HD.out] at hnot
              obtain ⟨y, Hy⟩ : ∃ y, Hid (tbC (clC cost) n D = y) := ⟨_, rfl⟩
              have hfs : fsC (clC cost) n S i = y + x := by unfold fsC; rw [HD.out, Hy.out, Hk.out, Nat.add_sub_cancel, hxC]
              have hfb := fsC_bd h6 HC.out HSn.out hS1 hli
              have hyb := tbC_bd (S := D) h6 HC.out (Nat.lt_trans hDS HSn.out)
              rw [hfs] at hfb
              rw [Hy.out] at hyb
              have hMD : M D = y := by rw [HM.out D hDS]; exact Hy.out
              have cS : wr.cell? ⟨w0.heap.size, S, none⟩ = some (.int .i64 a) := (HO.out.cellAt S (by omega)).trans (by rw [mRow_get _ (show S < Q + 1 by omega), upM_at])
              have cD : wr.cell? ⟨w0.heap.size, D, none⟩ = some (.int .i64 y) := (HO.out.cellAt D (by omega)).trans (by rw [mRow_get _ (show D < Q + 1 by omega), upM_other _ _ (by omega), hMD])
              have fS := HO.out.frozenAt S
              have HN := Lib.hid (mnC_yes hbit Ha.out hfs)
              obtain ⟨hst1, hst2⟩ := HO.out.stored S (.int .i64 (if y + x < a then y + x else a))
              rw [mRow_set _ _ (show S < Q + 1 by omega), upM_upM] at hst1
              have hB2 := HB.out.setCell (p := ⟨w0.heap.size, S, none⟩) (Nat.le_refl _) (.int .i64 (if y + x < a then y + x else a))
              have HO2 := Lib.hid hst1
              have HB2 := Lib.hid hB2
              have hwx : IntKind.i64.wrap (y + x) = y + x := IntWalk.i64_in _ (by omega)
              clear hst1 hst2 hB2 hbit g3 hfs hMD hxC HO HB hcx0
              go_wp2
              go_region
              all_goals
                go_wp2
                go_roundw
                case rel => exact ⟨i + 1, (if y + x < a then y + x else a), by omega, by go_num, by show _ = _; rw [HN.out, Int.min_def]; split <;> split <;> omega, by split <;> omega, by split <;> omega, HO2, HB2.out.drew⟩
                case measure => simp [intOf]; omega
            · have hbit2 : S.testBit i = false := by simpa using hbit
              rw [hbit2] at hbt
              have HN := Lib.hid (mnC_no (f := fsC (clC cost) n S) (P := fun h => S.testBit h) hbit2 Ha.out)
              clear hbit hbit2
              go_wp2
              go_roundw
              case rel => exact ⟨i + 1, a, by omega, by go_num, HN, ha0, ha1, HO, HB⟩
              case measure => simp [intOf]; omega
          · obtain rfl : i = n := by omega
            have HM2 : Hid (∀ j, j < S + 1 → upM M S a j = tbC (clC cost) i j) := fun j hj => by
              by_cases e : j = S
              · subst e; rw [upM_at, tbC_step h6 HSn.out hS1]; exact Ha.out.symm
              · rw [upM_other _ _ e]; exact HM.out j (by omega)
            have hp4 : IntKind.u64.wrap ((S : Int) + 1) = ((S + 1 : Nat) : Int) := by rw [IntKind.wrap_u64]; omega
            go_wp2
            go_roundw
            case rel => exact ⟨S + 1, _, by omega, by omega, by go_num, HM2, HO, HB⟩
            case measure => simp [intOf]; omega
      · obtain rfl : S = Q + 1 := by omega
        have cQ : wr.cell? ⟨w0.heap.size, Q, none⟩ = some (.int .i64 (M Q)) := (HO.out.cellAt Q (by omega)).trans (mRow_get _ (by omega))
        have Hfin : Hid (M Q = lcv cost) := by
          show _ = _
          rw [Hs.out, HM.out Q (by omega), ← tbC_full h6, show Q = 2 ^ n - 1 by rw [HQ.out]; rfl]
        go_wp2
        go_ret
        exact ⟨ret_int Hfin.out, HB0.out.trans (HB.out.mono HB0.out.size)⟩
  · have hv' : vcost cost = false := by simpa using hv
    have Hs : Hid (lcv cost = -1) := by show _ = _; unfold lcv; rw [if_neg hv]
    rw [hv'] at H1
    clear hv hv' h
    go_enter Try.func32, Try.ntmps32
    go_wp2_with fail
    refine H1.out.mono ?_
    rintro e w1 ⟨rfl, hb⟩
    go_wp2
    go_ret
    exact ⟨ret_int Hs.out.symm, hb⟩
end Go.Proofs.Ytakljcpneghgnaa
