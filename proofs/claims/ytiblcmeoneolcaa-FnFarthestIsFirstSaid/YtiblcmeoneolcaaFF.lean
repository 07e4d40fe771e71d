/-
  FarthestFirst of the program, walked.
  Conditions: at most 2^20 streets.
-/
import Derived.Test.YtiblcmeoneolcaaNF
import Derived.Test.YtiblcmeoneolcaaBF
import Derived.Deep.RegionWith
namespace Go.Proofs.Ytiblcmeoneolcaa
open Go.ChangeShapes Go.WideShapes Go.ChangeAt Go.RowKit
set_option linter.unusedVariables false
set_option maxRecDepth 4000

theorem TabX.on {w wr w' : World} {n g cA : Nat} {VR : Nat → Value} {X : Nat → Nat → Int} (h : TabX w wr n g cA VR X) (hb : Below wr.heap.size wr w') : TabX w w' n g cA VR X :=
  ⟨ownN_below h.out hb, h.row.below hb, h.bel.trans (hb.mono h.bel.size)⟩
theorem ffI_mem {d : Nat → Nat → Int} {L L' : List Nat} (h : ∀ i, i ∈ L ↔ i ∈ L') : ∀ m, ffI d L m = ffI d L' m
  | 0 => rfl
  | m + 1 => by simp only [ffI]; rw [ffI_mem h m, wy_mem h, wy_mem (v := m) h]
/-- The set of the nodes so far. -/
def StOf (X : Nat → Nat → Int) (n j S : Nat) : Prop := S < 2 ^ n ∧ ∀ i, S.testBit i = true ↔ i ∈ ffL X n j
theorem stOf_start {X : Nat → Nat → Int} {n : Nat} (hn : 1 ≤ n) : StOf X n 0 1 := by
  refine ⟨?_, fun i => ?_⟩
  · have := Nat.pow_le_pow_right (show 2 > 0 by omega) hn
    omega
  · rw [show (1 : Nat) = 2 ^ 0 from rfl, Nat.testBit_two_pow]
    simp [ffL]
    exact ⟨fun h => h.symm, fun h => h.symm⟩
theorem ff_next {X : Nat → Nat → Int} {n j S : Nat} (hM : Met X n) (hn : 1 ≤ n) (hj : j + 1 < n) (h : StOf X n j S) : ∃ b, ffI X (memL S n) n = b ∧ b < n ∧ ffL X n (j + 1) = ffL X n j ++ [b] ∧ StOf X n (j + 1) (S ||| 2 ^ b) := by
  obtain ⟨b, h1, h2, h3⟩ := ffL_pick hM hn hj
  obtain ⟨a1, -⟩ := ffL_new hM hn j (by omega)
  have hmem : ∀ i, i ∈ memL S n ↔ i ∈ ffL X n j := fun i => by
    rw [memL_iff, h.2 i]
    exact ⟨fun h => h.2, fun h => ⟨a1 i h, h⟩⟩
  have hb : ffI X (ffL X n j) n = b := by
    rcases ffI_ffB (d := X) (L := ffL X n j) hM.bd a1 n (Nat.le_refl _) with ⟨e1, _, _⟩ | ⟨b', e1, e2, e3⟩
    · rw [e1] at h1; simp only at h1; omega
    · rw [e2] at h1; simp only at h1; rw [e3]; omega
  refine ⟨b, by rw [ffI_mem hmem, hb], h2, h3, Nat.or_lt_two_pow h.1 (Nat.pow_lt_pow_right (by omega) h2), fun i => ?_⟩
  rw [h3, Nat.testBit_or, Nat.testBit_two_pow, Bool.or_eq_true, h.2 i]
  simp only [decide_eq_true_eq, List.mem_append, List.mem_singleton]
  exact ⟨fun h => h.imp_right fun e => e.symm, fun h => h.imp_right fun e => e.symm⟩

set_option maxHeartbeats 1600000 in
theorem iFarthest_ok : IRow 38 := by
  intro A c m n ss k w hin hwk
  obtain ⟨i0, hi0, hz0, hz1, hz2⟩ := info_parts intInfo
  by_cases hv : vnet n ss = true
  · have H1 := Lib.hid (iValidNet_is A c m n ss w hin hv)
    by_cases hf : k < 1 ∨ 4 < k
    · have Hno : Hid (¬ (vnet n ss = true ∧ 1 ≤ k ∧ k ≤ 4)) := fun h => by omega
      have H2 := Lib.hid (fun W => helpK_no k W hf)
      clear hv hf hin
      go_enter Try.func38, Try.ntmps38
      go_wp2_with fail
      refine H1.out.mono ?_
      rintro e w2 ⟨rfl, hnx2⟩
      go_wp2_with fail
      refine (H2.out w2).mono ?_
      rintro e w' ⟨rfl, rfl⟩
      go_wp2
      go_ret
      exact .inl ⟨Hno.out, rfl, hnx2⟩
    · have H2 := Lib.hid (fun W => helpK_yes k W (by omega) (by omega))
      obtain ⟨n, rfl, hn1, hn7⟩ := vnet_nat hv
      obtain ⟨k, rfl⟩ := Int.eq_ofNat_of_zero_le (show 0 ≤ k by omega)
      have HMet := Lib.hid (sht_met hv)
      have Hyes : Hid (vnet n ss = true ∧ 1 ≤ (k : Int) ∧ (k : Int) ≤ 4) := ⟨hv, by omega, by omega⟩
      obtain ⟨M, HM⟩ : ∃ M, Hid (min k n = M) := ⟨_, rfl⟩
      have hM4 : 1 ≤ M ∧ M ≤ 4 ∧ M ≤ n := by have := HM.out; omega
      have Hin := Lib.hid hin
      clear hv hin
      by_cases hkn : (n : Int) < (k : Int)
      rotate_left
      have hkn2 : (k : Int) ≤ (n : Int) := by omega
      all_goals
        have hMk : M = min k n := HM.out.symm
        go_enter Try.func38, Try.ntmps38
        go_wp2_with fail
        refine H1.out.mono ?_
        rintro e w2 ⟨rfl, hnx2⟩
        have HB2 := Lib.hid hnx2
        have Ht := Lib.hid (iNetTable_ok A c m n ss w2 (Hin.out.later hnx2))
        clear hnx2
        go_wp2_with fail
        refine (H2.out w2).mono ?_
        rintro e w' ⟨rfl, rfl⟩
        go_wp2_with fail
        refine Ht.out.mono ?_
        rintro e w4 (⟨hno, -, -⟩ | ⟨-, v, VR, rfl, hO, hT, hnx4⟩)
        · exact absurd (Hyes.out.1.symm.trans hno) (by decide)
        obtain ⟨Ag, cg, rfl, -, -, hA⟩ := own_sliceN hO
        obtain ⟨g, rfl, -, -⟩ := hA (by omega)
        have HX : Hid (TabX w2 w4 n g cg VR (sht n ss)) := ⟨hO, hT, hnx4⟩
        have HB4 := Lib.hid (HB2.out.trans (hnx4.mono HB2.out.size))
        clear hO hT hnx4 hA
        have hown0 : (w4.alloc (.cells #[.int .i64 0] 3)).ownsRow w4.heap.size 3 1 (.slice (some ⟨w4.heap.size, 0, none⟩) 1 1) 1 (natv (ffL (sht n ss) n 0)) := World.ownsRow_lit w4 #[.int .i64 0] 1 (Nat.le_refl _) (by decide) rfl
        have hb0 := (Below.refl w4.heap.size w4).alloc (Nat.le_refl _) (.cells #[.int .i64 0] 3)
        have HOWN := Lib.hid hown0
        have HB0 := Lib.hid hb0
        clear hown0 hb0
        go_wp2
        go_loopw [8, 9] (fun v s wr => ∃ j S go cap : Nat, j + 1 ≤ M ∧ v = .slice (some ⟨go, 0, none⟩) (j + 1) cap ∧ s = .int .u64 S ∧ Hid (StOf (sht n ss) n j S) ∧ Hid (wr.ownsRow w4.heap.size 3 1 (.slice (some ⟨go, 0, none⟩) (j + 1) cap) (j + 1) (natv (ffL (sht n ss) n j))) ∧ Hid (Below w4.heap.size w4 wr)) (fun v _ _ => match v with | .slice _ l _ => 10 - l | _ => 0)
        case atStart => exact ⟨0, 1, w4.heap.size, 1, by omega, rfl, rfl, stOf_start hn1, HOWN, HB0⟩
        case round =>
          clear HOWN HB0
          obtain ⟨j, S, go, cap, hjM, rfl, rfl, HS, HO, HB⟩ := hrel
          by_cases hlt : j + 1 < M
          · obtain ⟨b, hb, hbn, hnext, hst⟩ := ff_next HMet.out hn1 (by omega) HS.out
            have h128 := pow_128 hn7 HS.out.1
            have Hf := Lib.hid (farthest_any w2 wr n g cg S VR _ hn1 hn7 h128 (HX.out.on HB.out) HMet.out.bd)
            rw [hb] at Hf
            have Hnext := Lib.hid hnext
            have hor := or_u64 ⟨S, h128⟩ ⟨b, by omega⟩
            simp only at hor
            have hval : bits BinOp.or IntKind.u64 (S : Int) (IntKind.u64.wrap ((2 : Int) ^ b)) = ((S ||| 2 ^ b : Nat) : Int) := by
              rw [wrap_pow ⟨b, by omega⟩, hor]
            obtain ⟨S2, HS2⟩ : ∃ S2, Hid (S ||| 2 ^ b = S2) := ⟨_, rfl⟩
            rw [HS2.out] at hval hst
            have HST := Lib.hid hst
            have hs1 : j + 1 + 1 ≤ maxLen := by unfold maxLen; omega
            have hs2 : (j + 1 + 1) * 8 ≤ 140737488355328 := by omega
            have hsz2 : ∀ o, w4.heap.size ≤ (wr.alloc o).heap.size := fun o => by rw [size_alloc1]; have := HB.out.size; omega
            have Hsz2 := Lib.hid hsz2
            first
              | have hj1 : (j : Int) + 1 < (k : Int) := by omega
              | have hj1 : (j : Int) + 1 < (n : Int) := by omega
            clear hb hnext hor hst hsz2
            go_wp2_with (first
              | (go_at_call 76
                 refine Hf.out.mono ?_
                 rintro e w' ⟨rfl, rfl⟩)
              | (at_builtin; refine wpList_append_own _ rfl _ _ 36 rfl w4.heap.size 3 i0 (.int .i64 0) 1 8 Try.underlying36 hi0 hz0 hz1 hz2 rfl (by decide) _ _ _ rfl (HO.out.alloc _) ⟨_, 0, none⟩ 1 1 [.int .i64 b] rfl rfl (cell_one_new _ _ _) (by intro u hu; simp at hu; subst hu; rfl) hs1 hs2 (Hsz2.out _) ?_; intro v3 w3 hown3 hg3 _))
            have hB3 : Below w4.heap.size w4 w3 := (HB.out.alloc HB.out.size _).grown hg3 (Hsz2.out _) (fun g h => (HO.out.lt g h).1)
            obtain ⟨g3, cap3, rfl, -, -⟩ := hown3.form (by omega)
            have HOW : Hid (w3.ownsRow w4.heap.size 3 1 (.slice (some ⟨g3, 0, none⟩) (j + 1 + 1) cap3) (j + 1 + 1) (natv (ffL (sht n ss) n (j + 1)))) := by show _; rw [Hnext.out, natv_append]; exact hown3
            have HB3 := Lib.hid hB3
            clear hown3 hg3 hB3
            go_wp2
            go_roundw
            case rel => exact ⟨j + 1, S2, g3, cap3, by omega, rfl, by first | rfl | (rw [hval]) | simp [hval], HST, HOW, HB3⟩
            case measure => simp; omega
          · obtain hjM2 : j + 1 = M := by omega
            have HOE : Hid (wr.ownsRow w.heap.size 3 1 (.slice (some ⟨go, 0, none⟩) (j + 1) cap) (min (k : Int).toNat (n : Int).toNat) (natv (ffL (sht (n : Int).toNat ss) (n : Int).toNat (min (k : Int).toNat (n : Int).toNat - 1)))) := by
              show wr.ownsRow _ _ _ _ _ _
              rw [Int.toNat_natCast, Int.toNat_natCast, HM.out, ← hjM2]
              exact HO.out.mono HB4.out.size
            have HBE := Lib.hid (HB4.out.trans (HB.out.mono HB4.out.size))
            clear HO HB
            first
              | have hj1 : ¬ (j : Int) + 1 < (k : Int) := by omega
              | have hj1 : ¬ (j : Int) + 1 < (n : Int) := by omega
            clear hjM2 hMk
            go_wp2
            go_ret
            exact .inr ⟨Hyes.out, _, rfl, HOE.out, HBE.out⟩
  · have hv' : vnet n ss = false := by simpa using hv
    have Hno : Hid (¬ (vnet n ss = true ∧ 1 ≤ k ∧ k ≤ 4)) := fun h => hv h.1
    have H1 := Lib.hid (iValidNet_is A c m n ss w hin hv')
    clear hv hv' hin
    go_enter Try.func38, Try.ntmps38
    go_wp2_with fail
    refine H1.out.mono ?_
    rintro e w2 ⟨rfl, hnx2⟩
    go_wp2
    go_ret
    exact .inl ⟨Hno.out, rfl, hnx2⟩
end Go.Proofs.Ytiblcmeoneolcaa
