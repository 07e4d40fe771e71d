/-
  LeastBlock of the program, walked.
  Conditions: as the theorem states.
-/
import Derived.Test.YtakljcpneghgnaaCW
namespace Go.Proofs.Ytakljcpneghgnaa
open Go.ChangeShapes Go.WideShapes Go.ChangeAt Go.RowKit
set_option linter.unusedVariables false
set_option maxRecDepth 4000

set_option maxHeartbeats 3200000 in
theorem iLeastBlock_ok : RNum 23 blv := by
  intro A A' c c' H n room wish w h
  have H1 := Lib.hid (iValidRoom_ok A A' c c' H n room wish w h)
  by_cases hv : vroom room wish = true
  · obtain ⟨h4, h7, hR, hW⟩ := (vroom_iff _ _).1 hv
    rw [h.len] at h4 hR
    rw [h.lenw] at h7
    have hRb : ∀ k, k < H → 0 ≤ rR room k ∧ rR room k ≤ 7 := fun k hk => hR k hk
    have Hs : Hid (blv room wish = lbk (rR room) (oW wish) H n (2 ^ H)) := by show _ = _; unfold blv; rw [if_pos hv, h.len, h.lenw]
    have HRb := Lib.hid hRb
    have Hrs : Hid (∀ S, 0 ≤ rsm (rR room) S H ∧ rsm (rR room) S H ≤ 7 * (H : Int)) := fun S => rsm_bd S H hRb
    have Hlb : Hid (∀ S, 0 ≤ lbk (rR room) (oW wish) H n S ∧ lbk (rR room) (oW wish) H n S ≤ n) := fun S => lbk_bd (fun T => (rsm_bd T H hRb).1) S
    have hP : 2 ^ H ≤ 16 := Nat.pow_le_pow_right (show 2 > 0 by omega) h4
    obtain ⟨P, HP⟩ : ∃ P : Nat, Hid (2 ^ H = P) := ⟨_, rfl⟩
    rw [HP.out] at hP Hs
    have eP : IntKind.u64.wrap ((2 : Int) ^ H) = (P : Int) := by
      have : ((2 : Int) ^ H) = (P : Int) := by rw [← HP.out]; simp
      rw [this, IntKind.wrap_u64]; omega
    rw [hv] at H1
    have HIn := Lib.hid h
    have Hv := Lib.hid hv
    clear h hv hR hW hRb
    go_enter Try.func23, Try.ntmps23
    go_wp2_with fail
    refine H1.out.mono ?_
    rintro e w1 ⟨rfl, hq1⟩
    have HIn1 := Lib.hid (HIn.out.later hq1)
    have HB1 := Lib.hid hq1
    clear hq1
    have HC := Lib.hid (callsOf_any A' c' n room wish w1 _ HIn1.out.rdw (Nat.le_refl _) HIn1.out.lenw Hv.out)
    go_wp2_with fail
    refine HC.out.mono ?_
    rintro e w2 ⟨cb, rfl, hcb, hoc, hbc⟩
    have HIn2 := Lib.hid (HIn1.out.later hbc.out)
    have HB2 := Lib.hid (HB1.out.trans (hbc.out.mono HB1.out.size))
    have HR2 := Lib.hid (rdC_own (N := fun i => (i : Int)) (M := mS wish) hoc.out)
    clear hoc hbc HC
    go_wp2
    go_loopw [6, 20] (fun b s wr => ∃ S : Nat, S ≤ P ∧ s = .int .u64 S ∧ b = .int .i64 (lbk (rR room) (oW wish) H n S) ∧ Hid (Below w2.heap.size w2 wr)) (fun _ s _ => P - (intOf s).toNat)
    case atStart => exact ⟨0, Nat.zero_le _, rfl, rfl, Below.refl _ _⟩
    case round =>
      obtain ⟨S, hSP, rfl, rfl, HB⟩ := hrel
      have hL := Hlb.out S
      obtain ⟨F, HF⟩ : ∃ F, Hid (lbk (rR room) (oW wish) H n S = F) := ⟨_, rfl⟩
      rw [HF.out] at hL ⊢
      by_cases hlt : S < P
      · have hS16 : S < 16 := by omega
        have hsz := HB.out.size
        have hB3 := HB.out.alloc HB.out.size (.cells #[.int .u64 (S : Nat)] 53)
        have hcell : (wr.alloc (.cells #[.int .u64 (S : Nat)] 53)).cell? ⟨wr.heap.size, 0, none⟩ = some (.int .u64 (S : Nat)) := by rw [World.cell?_alloc_new]; rfl
        have hsa := size_alloc1 wr (.cells #[.int .u64 (S : Nat)] 53)
        have Hcell := Lib.hid hcell
        have Hsa := Lib.hid hsa
        have HB3 := Lib.hid hB3
        have HWh := Lib.hid (whereBlock_any cb n wr.heap.size (fun i => (i : Int)) (mS wish) (oW wish S) (wr.alloc (.cells #[.int .u64 (S : Nat)] 53)) (HR2.out.keep hB3 HR2.out.1) (by omega)
          (fun i hi w' hb => blockClosure_any S wr.heap.size _ _ w' ((hb.cell (by rw [hsa]; exact Nat.lt_succ_self _)).trans hcell) (oW_set Hv.out (by rw [HIn.out.lenw]; exact hi) hS16)))
        clear hB3 hcell hsa HB
        go_wp2_with fail
        refine HWh.out.mono ?_
        rintro e w4 ⟨g, cg, rfl, hlc, hcm, -, hb4⟩
        have c4 : w4.cell? ⟨wr.heap.size, 0, none⟩ = some (.int .u64 (S : Nat)) := (hb4.out.cell (by rw [Hsa.out]; exact Nat.lt_succ_self _)).trans Hcell.out
        have HB4 := Lib.hid (HB3.out.trans (hb4.out.mono HB3.out.size))
        have HR4 := Lib.hid (HIn2.out.rd.below HB4.out)
        obtain ⟨m, Hm⟩ : ∃ m, Hid ((selL (oW wish S) n).length = m) := ⟨_, rfl⟩
        have hmb : m = blk (oW wish S) n := by rw [← Hm.out, selL_len]
        have hmn : m ≤ n := by rw [hmb]; exact blk_le _ _
        rw [Hm.out]
        rw [Hm.out] at hlc
        obtain ⟨r, Hr⟩ : ∃ r, Hid (rsm (rR room) S H = r) := ⟨_, rfl⟩
        have hrb := Hrs.out S
        rw [Hr.out] at hrb
        have HN : Hid (lbk (rR room) (oW wish) H n (S + 1) = min F (r + (m : Nat))) := by show _ = _; simp only [lbk]; rw [HF.out, Hr.out, hmb]
        have Hro := Lib.hid (roomOf_any A c H S room w4 _ HR4.out HIn.out.len h4 hS16 HRb.out)
        rw [Hr.out] at Hro
        have hwx : IntKind.i64.wrap (r + (m : Int)) = r + (m : Int) := IntWalk.i64_in _ (by omega)
        clear hb4 HB3 hmb
        go_wp2_with fail
        refine Hro.out.mono ?_
        rintro e w' ⟨rfl, rfl⟩
        go_wp2
        go_roundw
        case rel => exact ⟨S + 1, by omega, by go_num, by rw [HN.out, Int.min_def]; congr 1; split <;> split <;> omega, HB4⟩
        case measure => simp [intOf]; omega
      · obtain rfl : S = P := by omega
        have Hf : Hid (blv room wish = F) := by show _ = _; rw [Hs.out]; exact HF.out
        go_wp2
        go_ret
        exact ⟨ret_int Hf.out.symm, HB2.out.trans (HB.out.mono HB2.out.size)⟩
  · have hv' : vroom room wish = false := by simpa using hv
    have Hs : Hid (blv room wish = -1) := by show _ = _; unfold blv; rw [if_neg hv]
    rw [hv'] at H1
    clear hv hv' h
    go_enter Try.func23, Try.ntmps23
    go_wp2_with fail
    refine H1.out.mono ?_
    rintro e w1 ⟨rfl, hq⟩
    go_wp2
    go_ret
    exact ⟨ret_int Hs.out.symm, hq⟩
end Go.Proofs.Ytakljcpneghgnaa
