/-
  wayToSet and farthestNode of the program, walked.
  Conditions: at most seven nodes; ways between -1 and 54.
  NetFar of the program, walked: the least of how far the farthest is, over all sets of so many nodes.
  Conditions: at most 2^20 streets.
  The law FnNetsAreTrees: with as many helpers as cover the tree the farthest node of its net is near enough, and so near the tree needs no more.
  Conditions: none.
-/
import Derived.Test.YtdhelapgdgekfaaZ3
import Derived.Test.YtdhelapgdgekfaaZ16
import Derived.Test.YtdhelapgdgekfaaZ6
import Derived.Test.YtdhelapgdgekfaaZ7
import Derived.Test.YtdhelapgdgekfaaZ17
import Derived.Test.YtdhelapgdgekfaaZ22
import Derived.Test.YtdhelapgdgekfaaZ20
namespace Go.Proofs.Ytdhelapgdgekfaa
open Go.ChangeShapes Go.WideShapes Go.ChangeAt Go.RowKit
set_option linter.unusedVariables false
set_option maxRecDepth 4000

theorem bitS_all : ∀ s : Fin 128, ∀ i : Fin 7, (bits BinOp.and IntKind.u64 ((s.val : Int) / 2 ^ i.val) 1 == 1) = s.val.testBit i.val := by decide +kernel
theorem bitS_test {s i : Nat} (hs : s < 128) (hi : i < 7) : (bits BinOp.and IntKind.u64 ((s : Int) / 2 ^ i) 1 == 1) = s.testBit i := bitS_all ⟨s, hs⟩ ⟨i, hi⟩
set_option maxHeartbeats 800000 in
theorem wayTo_any (gr n cr v S : Nat) (X : Nat → Nat → Int) (w : World) (h7 : n ≤ 7) (hS : S < 128) (hc : ∀ j, j < n → w.cell? ⟨gr, j, none⟩ = some (.int .i64 (X v j))) (hb : ∀ j, j < n → -1 ≤ X v j) :
    Calls Try.prog 75 #[.slice (some ⟨gr, 0, none⟩) n cr, .int .u64 S] w fun e w' => e = .returned (.int .i64 (wy X v (memL S n))) ∧ w' = w := by
  have HC := Lib.hid hc
  have HB := Lib.hid hb
  clear hc hb
  go_enter Try.func75, Try.ntmps75
  go_wp2
  go_loopw [5, 10] (fun m i wr => ∃ k : Nat, k ≤ n ∧ i = .int .i64 k ∧ m = .int .i64 (wy X v (memL S k)) ∧ wr = w) (fun _ i _ => n - (intOf i).toNat)
  case atStart => exact ⟨0, Nat.zero_le _, rfl, rfl, rfl⟩
  case round =>
    obtain ⟨k, hk, rfl, rfl, rfl⟩ := hrel
    obtain ⟨a, Ha⟩ : ∃ a, Hid (wy X v (memL S k) = a) := ⟨_, rfl⟩
    have hlow := wy_low X v (memL S k)
    rw [Ha.out] at hlow ⊢
    by_cases hlt : k < n
    · have hcx := HC.out k hlt
      have hbx := HB.out k hlt
      obtain ⟨x, Hx⟩ : ∃ x, Hid (X v k = x) := ⟨_, rfl⟩
      rw [Hx.out] at hcx hbx
      have hbt := bitS_test (i := k) hS (by omega)
      by_cases hbit : S.testBit k = true
      · have Hnx := Lib.hid (wyS_take hbit Ha.out Hx.out hbx hlow)
        rw [hbit] at hbt
        by_cases hs : ShW x a
        · have Hn2 : Hid (wy X v (memL S (k + 1)) = x) := by show _ = _; rw [Hnx.out, if_pos hs]
          have Hsh := Lib.hid (isSh_yes x a wr hs)
          clear hs hbit Hnx
          go_wp2_with fail
          refine Hsh.out.mono ?_
          rintro e w' ⟨rfl, rfl⟩
          go_wp2
          go_roundw
          case rel => exact ⟨k + 1, by omega, by go_num, by rw [Hn2.out], trivial⟩
          case measure => simp [intOf]; omega
        · have Hn2 : Hid (wy X v (memL S (k + 1)) = a) := by show _ = _; rw [Hnx.out, if_neg hs]
          have Hsh := Lib.hid (isSh_no x a wr hs)
          clear hs hbit Hnx
          go_wp2_with fail
          refine Hsh.out.mono ?_
          rintro e w' ⟨rfl, rfl⟩
          go_wp2
          go_roundw
          case rel => exact ⟨k + 1, by omega, by go_num, by rw [Hn2.out], trivial⟩
          case measure => simp [intOf]; omega
      · have Hn2 : Hid (wy X v (memL S (k + 1)) = a) := (wyS_skip hbit).trans Ha.out
        have hbit2 : S.testBit k = false := by simpa using hbit
        rw [hbit2] at hbt
        clear hbit hbit2
        go_wp2
        go_roundw
        case rel => exact ⟨k + 1, by omega, by go_num, by rw [Hn2.out], trivial⟩
        case measure => simp [intOf]; omega
    · obtain rfl : k = n := by omega
      go_wp2
      go_ret
      exact ⟨ret_int Ha.out.symm, rfl⟩

set_option maxHeartbeats 800000 in
theorem farthest_any (w wr : World) (n g cA S : Nat) (VR : Nat → Value) (X : Nat → Nat → Int) (hn1 : 1 ≤ n) (h7 : n ≤ 7) (hS : S < 128) (hX : TabX w wr n g cA VR X) (hb : Bd54 X n) :
    Calls Try.prog 76 #[.slice (some ⟨g, 0, none⟩) n cA, .int .u64 S] wr fun e w' => e = .returned (.int .i64 (ffI X (memL S n) n : Nat)) ∧ w' = wr := by
  have Hway : Hid (∀ v gr cr, v < n → VR v = .slice (some ⟨gr, 0, none⟩) n cr → Calls Try.prog 75 #[.slice (some ⟨gr, 0, none⟩) n cr, .int .u64 S] wr fun e w' => e = .returned (.int .i64 (wy X v (memL S n))) ∧ w' = wr) := fun v gr cr hv he =>
    wayTo_any gr n cr v S X wr h7 hS (fun j hj => (hX.cell hv hj he).2.1) (fun j hj => (hb v j hv hj).1)
  have HX := Lib.hid hX
  have HF := Lib.hid (fun m (hm : m ≤ n) => ffI_lt X (memL S n) hn1 m hm)
  clear hX hb
  obtain ⟨W, HW⟩ : ∃ W, Hid (wr = W) := ⟨_, rfl⟩
  rw [HW.out] at HX Hway ⊢
  clear HW
  go_enter Try.func76, Try.ntmps76
  go_wp2
  go_loopw [5, 10] (fun f i wi => ∃ k : Nat, k ≤ n ∧ i = .int .i64 k ∧ f = .int .i64 (ffI X (memL S n) k : Nat) ∧ wi = W) (fun _ i _ => n - (intOf i).toNat)
  case atStart => exact ⟨0, Nat.zero_le _, rfl, rfl, rfl⟩
  case round =>
    obtain ⟨k, hk, rfl, rfl, rfl⟩ := hrel
    obtain ⟨f, Hf⟩ : ∃ f, Hid (ffI X (memL S n) k = f) := ⟨_, rfl⟩
    have hflt := HF.out k hk
    rw [Hf.out] at hflt ⊢
    by_cases hlt : k < n
    · obtain ⟨gf, cf, hVf⟩ := HX.out.rowAt hflt
      obtain ⟨gk, ck, hVk⟩ := HX.out.rowAt hlt
      obtain ⟨cgf, -, -⟩ := HX.out.cell hflt hflt hVf
      obtain ⟨cgk, -, -⟩ := HX.out.cell hlt hlt hVk
      have Hwf := Lib.hid (Hway.out f gf cf hflt hVf)
      have Hwk := Lib.hid (Hway.out k gk ck hlt hVk)
      have hsame : f = k → gf = gk ∧ cf = ck := fun e => by
        subst e
        have := hVf.symm.trans hVk
        injection this with e1 _ e3
        injection e1 with e1
        injection e1 with e1
        exact ⟨e1, e3⟩
      obtain ⟨a, Ha⟩ : ∃ a, Hid (wy X f (memL S n) = a) := ⟨_, rfl⟩
      obtain ⟨b, Hb⟩ : ∃ b, Hid (wy X k (memL S n) = b) := ⟨_, rfl⟩
      rw [Ha.out] at Hwf
      rw [Hb.out] at Hwk
      clear hVf hVk hsame
      by_cases hs : ShW a b
      · have Hn2 : Hid (ffI X (memL S n) (k + 1) = k) := ffI_yes Hf.out (by rw [Ha.out, Hb.out]; exact hs)
        have Hsh := Lib.hid (isSh_yes a b wr hs)
        clear hs
        go_wp2_with fail
        refine Hwf.out.mono ?_
        rintro e w' ⟨rfl, rfl⟩
        go_wp2_with fail
        refine Hwk.out.mono ?_
        rintro e w' ⟨rfl, rfl⟩
        go_wp2_with fail
        refine Hsh.out.mono ?_
        rintro e w' ⟨rfl, rfl⟩
        go_wp2
        go_roundw
        case rel => exact ⟨k + 1, by omega, by go_num, by rw [Hn2.out], trivial⟩
        case measure => simp [intOf]; omega
      · have Hn2 : Hid (ffI X (memL S n) (k + 1) = f) := ffI_no Hf.out (by rw [Ha.out, Hb.out]; exact hs)
        have Hsh := Lib.hid (isSh_no a b wr hs)
        clear hs
        go_wp2_with fail
        refine Hwf.out.mono ?_
        rintro e w' ⟨rfl, rfl⟩
        go_wp2_with fail
        refine Hwk.out.mono ?_
        rintro e w' ⟨rfl, rfl⟩
        go_wp2_with fail
        refine Hsh.out.mono ?_
        rintro e w' ⟨rfl, rfl⟩
        go_wp2
        go_roundw
        case rel => exact ⟨k + 1, by omega, by go_num, by rw [Hn2.out], trivial⟩
        case measure => simp [intOf]; omega
    · obtain rfl : k = n := by omega
      have Hf2 := Lib.hid Hf.out.symm
      go_wp2
      go_ret
      exact ⟨ret_int (by rw [Hf.out]), rfl⟩
end Go.Proofs.Ytdhelapgdgekfaa
namespace Go.Proofs.Ytdhelapgdgekfaa
open Go.ChangeShapes Go.WideShapes Go.ChangeAt Go.RowKit
set_option linter.unusedVariables false
set_option maxRecDepth 4000

theorem helpK_yes (k : Int) (w : World) (h1 : 1 ≤ k) (h2 : k ≤ 4) : Calls Try.prog 74 #[.int .i64 k] w fun e w' => e = .returned (.bool true) ∧ w = w' := by
  go_enter Try.func74, Try.ntmps74
  go_wp2
  go_ret
  exact ⟨ret_bool (by simp), rfl⟩
theorem helpK_no (k : Int) (w : World) (h : k < 1 ∨ 4 < k) : Calls Try.prog 74 #[.int .i64 k] w fun e w' => e = .returned (.bool false) ∧ w = w' := by
  by_cases h1 : 1 ≤ k
  · have h2 : ¬ k ≤ 4 := by omega
    go_enter Try.func74, Try.ntmps74
    go_wp2
    go_ret
    exact ⟨ret_bool (by simp; try omega), rfl⟩
  · have h3 : decide (k ≥ 1) = false := decide_eq_false h1
    go_enter Try.func74, Try.ntmps74
    go_wp2
    go_ret
    exact ⟨ret_bool (by simp; try omega), rfl⟩

set_option maxHeartbeats 1600000 in
theorem iNetFar_ok : INum 29 nfr := by
  intro A c m n ss k w hin hwk
  by_cases hv : vnet n ss = true
  · have H1 := Lib.hid (iValidNet_is A c m n ss w hin hv)
    by_cases hf : k < 1 ∨ 4 < k
    · have Hs := Lib.hid (nfr_no (n := n) (ss := ss) (.inr hf))
      have H2 := Lib.hid (fun W => helpK_no k W hf)
      clear hv hf hin
      go_enter Try.func29, Try.ntmps29
      go_wp2_with fail
      refine H1.out.mono ?_
      rintro e w2 ⟨rfl, hnx2⟩
      go_wp2_with fail
      refine (H2.out w2).mono ?_
      rintro e w' ⟨rfl, rfl⟩
      go_wp2
      go_ret
      exact ⟨ret_int Hs.out.symm, hnx2⟩
    · have H2 := Lib.hid (fun W => helpK_yes k W (by omega) (by omega))
      obtain ⟨n, rfl, hn1, hn7⟩ := vnet_nat hv
      obtain ⟨k, rfl⟩ := Int.eq_ofNat_of_zero_le (show 0 ≤ k by omega)
      have Hbd : Hid (Bd54 (sht n ss) n) := (sht_spec hv).2
      have Hs0 : nfr n ss k = nfS (sht n ss) n (min k n) (2 ^ n) := by
        rw [nfr_yes hv (by omega) (by omega)]
        exact nf_unique (nfar_is _ _ _) (nfS_is hn7)
      obtain ⟨M, HM⟩ : ∃ M, Hid (min k n = M) := ⟨_, rfl⟩
      rw [HM.out] at Hs0
      have Hs := Lib.hid Hs0
      have Hin := Lib.hid hin
      have Hv := Lib.hid hv
      have hM4 : M ≤ 4 := by have := HM.out; omega
      clear hv hin Hs0
      by_cases hkn : (n : Int) < (k : Int)
      · have hMk : M = n := by have := HM.out; omega
        go_enter Try.func29, Try.ntmps29
        go_wp2_with fail
        refine H1.out.mono ?_
        rintro e w2 ⟨rfl, hnx2⟩
        have HB2 := Lib.hid hnx2
        have Ht := Lib.hid (iNetTable_ok A c m n ss w2 (Hin.out.later hnx2))
        clear hnx2
        go_wp2_with fail
        refine (H2.out w2).mono ?_
        rintro e w' ⟨rfl, rfl⟩
        go_wp2_with fail
        refine Ht.out.mono ?_
        rintro e w4 (⟨hno, -, -⟩ | ⟨-, v, VR, rfl, hO, hT, hnx4⟩)
        · exact absurd (Hv.out.symm.trans hno) (by decide)
        obtain ⟨Ag, cg, rfl, -, -, hA⟩ := own_sliceN hO
        obtain ⟨g, rfl, -, -⟩ := hA (by omega)
        have HX : Hid (TabX w2 w4 n g cg VR (sht n ss)) := ⟨hO, hT, hnx4⟩
        have HB4 := Lib.hid (HB2.out.trans (hnx4.mono HB2.out.size))
        clear hO hT hnx4 hA
        have h128 : 2 ^ n ≤ 128 := Nat.pow_le_pow_right (show 2 > 0 by omega) hn7
        have hwp := wrap_pow8 ⟨n, by omega⟩
        simp only at hwp
        obtain ⟨P, HP⟩ : ∃ P : Nat, Hid (2 ^ n = P) := ⟨_, rfl⟩
        rw [HP.out] at h128 hwp Hs
        have Hfar : Hid (∀ S, S < 128 → Calls Try.prog 76 #[.slice (some ⟨g, 0, none⟩) n cg, .int .u64 (S : Nat)] w4 fun e w' => e = .returned (.int .i64 (ffI (sht n ss) (memL S n) n : Nat)) ∧ w' = w4) := fun S hS => farthest_any w2 w4 n g cg S VR _ hn1 hn7 hS HX.out Hbd.out
        have Hway : Hid (∀ S v gr cr, S < 128 → v < n → VR v = .slice (some ⟨gr, 0, none⟩) n cr → Calls Try.prog 75 #[.slice (some ⟨gr, 0, none⟩) n cr, .int .u64 (S : Nat)] w4 fun e w' => e = .returned (.int .i64 (wy (sht n ss) v (memL S n))) ∧ w' = w4) := fun S v gr cr hS hv he =>
          wayTo_any gr n cr v S (sht n ss) w4 hn7 hS (fun j hj => (HX.out.cell hv hj he).2.1) (fun j hj => (Hbd.out v j hv hj).1)
        have Hones : Hid (∀ S, S < 128 → Calls Try.prog 72 #[.int .u64 (S : Nat)] w4 fun e w' => e = .returned (.int .i64 (bc 7 S : Nat)) ∧ w4 = w') := fun S hS => by
          have h := ones_small S hS w4
          rw [ones_bc ⟨S, hS⟩] at h
          exact h
        obtain ⟨W4, HW4⟩ : ∃ W, Hid (w4 = W) := ⟨_, rfl⟩
        rw [HW4.out] at HX HB4 Hfar Hway Hones ⊢
        clear HW4
        go_wp2
        go_loopw [8, 25] (fun f s wr => ∃ S : Nat, S ≤ P ∧ s = .int .u64 S ∧ f = .int .i64 (nfS (sht n ss) n M S) ∧ wr = W4) (fun _ s _ => P - (intOf s).toNat)
        case atStart => exact ⟨0, Nat.zero_le _, rfl, rfl, rfl⟩
        case round =>
          obtain ⟨S, hSP, rfl, rfl, rfl⟩ := hrel
          obtain ⟨F, HF⟩ : ∃ F, Hid (nfS (sht n ss) n M S = F) := ⟨_, rfl⟩
          rw [HF.out]
          by_cases hlt : S < P
          · have Ho := Lib.hid (Hones.out S (by omega))
            have hC7 := bc_le 7 S
            by_cases hCM : bc 7 S = M
            · have Hf := Lib.hid (Hfar.out S (by omega))
              have hfl := ffI_lt (sht n ss) (memL S n) hn1 n (Nat.le_refl _)
              have Hrad := Lib.hid (wy_far (L := memL S n) Hbd.out memL_lt hn1)
              have hrb := rad_bd (L := memL S n) Hbd.out memL_lt hn1
              obtain ⟨R, HR⟩ : ∃ R, Hid (radL (sht n ss) (memL S n) n = R) := ⟨_, rfl⟩
              rw [HR.out] at Hrad hrb
              have Hnx := Lib.hid (nfS_take hCM HF.out HR.out hrb.1)
              obtain ⟨q, Hq⟩ : ∃ q, Hid (ffI (sht n ss) (memL S n) n = q) := ⟨_, rfl⟩
              rw [Hq.out] at Hf hfl Hrad
              obtain ⟨gq, cq, hVq⟩ := HX.out.rowAt hfl
              obtain ⟨cgq, -, -⟩ := HX.out.cell hfl hfl hVq
              have Hw := Lib.hid (Hway.out S q gq cq (by omega) hfl hVq)
              rw [Hrad.out] at Hw
              rw [hCM] at Ho hC7
              have hb1 : ((M : Int) != (n : Int)) = false := by rw [bne_eq_false_iff_eq]; omega
              clear hCM hVq
              by_cases hs : ShW R F
              · have Hn2 : Hid (nfS (sht n ss) n M (S + 1) = R) := by show _ = _; rw [Hnx.out, if_pos hs]
                have Hsh := Lib.hid (isSh_yes R F wr hs)
                clear hs Hnx
                go_wp2_with fail
                refine Ho.out.mono ?_
                rintro e w' ⟨rfl, rfl⟩
                go_wp2_with fail
                refine Hf.out.mono ?_
                rintro e w' ⟨rfl, rfl⟩
                go_wp2_with fail
                refine Hw.out.mono ?_
                rintro e w' ⟨rfl, rfl⟩
                go_wp2_with fail
                refine Hsh.out.mono ?_
                rintro e w' ⟨rfl, rfl⟩
                go_wp2
                go_roundw
                case rel => exact ⟨S + 1, by omega, by go_num, by rw [Hn2.out], trivial⟩
                case measure => simp [intOf]; omega
              · have Hn2 : Hid (nfS (sht n ss) n M (S + 1) = F) := by show _ = _; rw [Hnx.out, if_neg hs]
                have Hsh := Lib.hid (isSh_no R F wr hs)
                clear hs Hnx
                go_wp2_with fail
                refine Ho.out.mono ?_
                rintro e w' ⟨rfl, rfl⟩
                go_wp2_with fail
                refine Hf.out.mono ?_
                rintro e w' ⟨rfl, rfl⟩
                go_wp2_with fail
                refine Hw.out.mono ?_
                rintro e w' ⟨rfl, rfl⟩
                go_wp2_with fail
                refine Hsh.out.mono ?_
                rintro e w' ⟨rfl, rfl⟩
                go_wp2
                go_roundw
                case rel => exact ⟨S + 1, by omega, by go_num, by rw [Hn2.out], trivial⟩
                case measure => simp [intOf]; omega
            · have Hn2 : Hid (nfS (sht n ss) n M (S + 1) = F) := (nfS_skip hCM).trans HF.out
              obtain ⟨C, HC⟩ : ∃ C, Hid (bc 7 S = C) := ⟨_, rfl⟩
              rw [HC.out] at Ho hCM
              have hb1 : ((C : Int) != (n : Int)) = true := by rw [bne_iff_ne]; omega
              clear hCM
              go_wp2_with fail
              refine Ho.out.mono ?_
              rintro e w' ⟨rfl, rfl⟩
              go_wp2
              go_roundw
              case rel => exact ⟨S + 1, by omega, by go_num, by rw [Hn2.out], trivial⟩
              case measure => simp [intOf]; omega
          · obtain rfl : S = P := by omega
            have Hs2 := Lib.hid (Hs.out.trans HF.out)
            go_wp2
            go_ret
            exact ⟨ret_int Hs2.out.symm, HB4.out⟩
      · have hkn2 : (k : Int) ≤ (n : Int) := by omega
        have hMk : M = k := by have := HM.out; omega
        go_enter Try.func29, Try.ntmps29
        go_wp2_with fail
        refine H1.out.mono ?_
        rintro e w2 ⟨rfl, hnx2⟩
        have HB2 := Lib.hid hnx2
        have Ht := Lib.hid (iNetTable_ok A c m n ss w2 (Hin.out.later hnx2))
        clear hnx2
        go_wp2_with fail
        refine (H2.out w2).mono ?_
        rintro e w' ⟨rfl, rfl⟩
        go_wp2_with fail
        refine Ht.out.mono ?_
        rintro e w4 (⟨hno, -, -⟩ | ⟨-, v, VR, rfl, hO, hT, hnx4⟩)
        · exact absurd (Hv.out.symm.trans hno) (by decide)
        obtain ⟨Ag, cg, rfl, -, -, hA⟩ := own_sliceN hO
        obtain ⟨g, rfl, -, -⟩ := hA (by omega)
        have HX : Hid (TabX w2 w4 n g cg VR (sht n ss)) := ⟨hO, hT, hnx4⟩
        have HB4 := Lib.hid (HB2.out.trans (hnx4.mono HB2.out.size))
        clear hO hT hnx4 hA
        have h128 : 2 ^ n ≤ 128 := Nat.pow_le_pow_right (show 2 > 0 by omega) hn7
        have hwp := wrap_pow8 ⟨n, by omega⟩
        simp only at hwp
        obtain ⟨P, HP⟩ : ∃ P : Nat, Hid (2 ^ n = P) := ⟨_, rfl⟩
        rw [HP.out] at h128 hwp Hs
        have Hfar : Hid (∀ S, S < 128 → Calls Try.prog 76 #[.slice (some ⟨g, 0, none⟩) n cg, .int .u64 (S : Nat)] w4 fun e w' => e = .returned (.int .i64 (ffI (sht n ss) (memL S n) n : Nat)) ∧ w' = w4) := fun S hS => farthest_any w2 w4 n g cg S VR _ hn1 hn7 hS HX.out Hbd.out
        have Hway : Hid (∀ S v gr cr, S < 128 → v < n → VR v = .slice (some ⟨gr, 0, none⟩) n cr → Calls Try.prog 75 #[.slice (some ⟨gr, 0, none⟩) n cr, .int .u64 (S : Nat)] w4 fun e w' => e = .returned (.int .i64 (wy (sht n ss) v (memL S n))) ∧ w' = w4) := fun S v gr cr hS hv he =>
          wayTo_any gr n cr v S (sht n ss) w4 hn7 hS (fun j hj => (HX.out.cell hv hj he).2.1) (fun j hj => (Hbd.out v j hv hj).1)
        have Hones : Hid (∀ S, S < 128 → Calls Try.prog 72 #[.int .u64 (S : Nat)] w4 fun e w' => e = .returned (.int .i64 (bc 7 S : Nat)) ∧ w4 = w') := fun S hS => by
          have h := ones_small S hS w4
          rw [ones_bc ⟨S, hS⟩] at h
          exact h
        obtain ⟨W4, HW4⟩ : ∃ W, Hid (w4 = W) := ⟨_, rfl⟩
        rw [HW4.out] at HX HB4 Hfar Hway Hones ⊢
        clear HW4
        go_wp2
        go_loopw [8, 25] (fun f s wr => ∃ S : Nat, S ≤ P ∧ s = .int .u64 S ∧ f = .int .i64 (nfS (sht n ss) n M S) ∧ wr = W4) (fun _ s _ => P - (intOf s).toNat)
        case atStart => exact ⟨0, Nat.zero_le _, rfl, rfl, rfl⟩
        case round =>
          obtain ⟨S, hSP, rfl, rfl, rfl⟩ := hrel
          obtain ⟨F, HF⟩ : ∃ F, Hid (nfS (sht n ss) n M S = F) := ⟨_, rfl⟩
          rw [HF.out]
          by_cases hlt : S < P
          · have Ho := Lib.hid (Hones.out S (by omega))
            have hC7 := bc_le 7 S
            by_cases hCM : bc 7 S = M
            · have Hf := Lib.hid (Hfar.out S (by omega))
              have hfl := ffI_lt (sht n ss) (memL S n) hn1 n (Nat.le_refl _)
              have Hrad := Lib.hid (wy_far (L := memL S n) Hbd.out memL_lt hn1)
              have hrb := rad_bd (L := memL S n) Hbd.out memL_lt hn1
              obtain ⟨R, HR⟩ : ∃ R, Hid (radL (sht n ss) (memL S n) n = R) := ⟨_, rfl⟩
              rw [HR.out] at Hrad hrb
              have Hnx := Lib.hid (nfS_take hCM HF.out HR.out hrb.1)
              obtain ⟨q, Hq⟩ : ∃ q, Hid (ffI (sht n ss) (memL S n) n = q) := ⟨_, rfl⟩
              rw [Hq.out] at Hf hfl Hrad
              obtain ⟨gq, cq, hVq⟩ := HX.out.rowAt hfl
              obtain ⟨cgq, -, -⟩ := HX.out.cell hfl hfl hVq
              have Hw := Lib.hid (Hway.out S q gq cq (by omega) hfl hVq)
              rw [Hrad.out] at Hw
              rw [hCM] at Ho hC7
              have hb1 : ((M : Int) != (k : Int)) = false := by rw [bne_eq_false_iff_eq]; omega
              clear hCM hVq
              by_cases hs : ShW R F
              · have Hn2 : Hid (nfS (sht n ss) n M (S + 1) = R) := by show _ = _; rw [Hnx.out, if_pos hs]
                have Hsh := Lib.hid (isSh_yes R F wr hs)
                clear hs Hnx
                go_wp2_with fail
                refine Ho.out.mono ?_
                rintro e w' ⟨rfl, rfl⟩
                go_wp2_with fail
                refine Hf.out.mono ?_
                rintro e w' ⟨rfl, rfl⟩
                go_wp2_with fail
                refine Hw.out.mono ?_
                rintro e w' ⟨rfl, rfl⟩
                go_wp2_with fail
                refine Hsh.out.mono ?_
                rintro e w' ⟨rfl, rfl⟩
                go_wp2
                go_roundw
                case rel => exact ⟨S + 1, by omega, by go_num, by rw [Hn2.out], trivial⟩
                case measure => simp [intOf]; omega
              · have Hn2 : Hid (nfS (sht n ss) n M (S + 1) = F) := by show _ = _; rw [Hnx.out, if_neg hs]
                have Hsh := Lib.hid (isSh_no R F wr hs)
                clear hs Hnx
                go_wp2_with fail
                refine Ho.out.mono ?_
                rintro e w' ⟨rfl, rfl⟩
                go_wp2_with fail
                refine Hf.out.mono ?_
                rintro e w' ⟨rfl, rfl⟩
                go_wp2_with fail
                refine Hw.out.mono ?_
                rintro e w' ⟨rfl, rfl⟩
                go_wp2_with fail
                refine Hsh.out.mono ?_
                rintro e w' ⟨rfl, rfl⟩
                go_wp2
                go_roundw
                case rel => exact ⟨S + 1, by omega, by go_num, by rw [Hn2.out], trivial⟩
                case measure => simp [intOf]; omega
            · have Hn2 : Hid (nfS (sht n ss) n M (S + 1) = F) := (nfS_skip hCM).trans HF.out
              obtain ⟨C, HC⟩ : ∃ C, Hid (bc 7 S = C) := ⟨_, rfl⟩
              rw [HC.out] at Ho hCM
              have hb1 : ((C : Int) != (k : Int)) = true := by rw [bne_iff_ne]; omega
              clear hCM
              go_wp2_with fail
              refine Ho.out.mono ?_
              rintro e w' ⟨rfl, rfl⟩
              go_wp2
              go_roundw
              case rel => exact ⟨S + 1, by omega, by go_num, by rw [Hn2.out], trivial⟩
              case measure => simp [intOf]; omega
          · obtain rfl : S = P := by omega
            have Hs2 := Lib.hid (Hs.out.trans HF.out)
            go_wp2
            go_ret
            exact ⟨ret_int Hs2.out.symm, HB4.out⟩
  · have hv' : vnet n ss = false := by simpa using hv
    have Hs := Lib.hid (nfr_no (k := k) (.inl hv'))
    have H1 := Lib.hid (iValidNet_is A c m n ss w hin hv')
    clear hv hv' hin
    go_enter Try.func29, Try.ntmps29
    go_wp2_with fail
    refine H1.out.mono ?_
    rintro e w2 ⟨rfl, hnx2⟩
    go_wp2
    go_ret
    exact ⟨ret_int Hs.out.symm, hnx2⟩
end Go.Proofs.Ytdhelapgdgekfaa
namespace Go.Proofs.Ytdhelapgdgekfaa
open Go.ChangeShapes Go.WideShapes Go.ChangeAt Go.RowKit
set_option linter.unusedVariables false
set_option maxRecDepth 4000

set_option maxHeartbeats 1600000 in
theorem lawNetsAreTrees_walk (A : Option Addr) (c : Nat) (bs : List Int) (w : World) (hr : RdB w w.heap.size A bs) (hcap : bs.length ≤ c) (hm : c ≤ maxLen) :
    Calls Try.prog 6 #[.slice A bs.length c] w fun e w' => e = .returned (.bool true) ∧ Below w.heap.size w w' := by
  unfold maxLen at hm
  by_cases hb : 1048576 < bs.length
  · go_enter Try.func6, Try.ntmps6
    go_wp2
    go_ret
    exact ⟨rfl, Below.refl _ _⟩
  · have H := Lib.hid (drawTreeCover_any A c bs.length bs w hr rfl hcap hm)
    go_enter Try.func6, Try.ntmps6
    go_wp2_with fail
    refine H.out.mono ?_
    rintro e w1 ⟨A', c', ts, far, rfl, hk1, hk2, hl, hc1, hc2, hrd, hnx1⟩
    have Hwf := Lib.hid (wf_small (n := far) (by omega))
    obtain ⟨a, Ha⟩ : ∃ a, Hid (cvv ts far = a) := ⟨_, rfl⟩
    have hbn : ∀ x : Int, (x != x) = false := fun x => by simp
    have Hrd := Lib.hid hrd
    have HB1 := Lib.hid hnx1
    clear hrd hnx1
    go_wp2_with fail
    refine (iTreeCover_any A' c' ts.length ts far w1 Hrd.out rfl hc1 (by omega) Hwf.out).mono ?_
    rintro e w2 ⟨rfl, hq⟩
    rw [Ha.out]
    have R2 := Lib.hid ((Hrd.out.below hq).more hq.size)
    have HB2 := Lib.hid (HB1.out.trans (hq.mono HB1.out.size))
    clear hq
    go_wp2_with fail
    refine (sTreeCover_any A' c' ts.length ts far w2 R2.out rfl (by omega)).mono ?_
    rintro e w3 ⟨rfl, hq⟩
    rw [Ha.out]
    have R3 := Lib.hid ((R2.out.below hq).more hq.size)
    have HB3 := Lib.hid (HB2.out.trans (hq.mono HB2.out.size))
    clear hq
    go_wp2_with fail
    refine (iTreeCover_any A' c' ts.length ts far w3 R3.out rfl hc1 (by omega) Hwf.out).mono ?_
    rintro e w4 ⟨rfl, hq⟩
    rw [Ha.out]
    have R4 := Lib.hid ((R3.out.below hq).more hq.size)
    have HB4 := Lib.hid (HB3.out.trans (hq.mono HB3.out.size))
    clear hq
    by_cases ha : a < 1
    · go_wp2
      go_ret
      exact ⟨rfl, HB4.out⟩
    by_cases ha4 : 4 < a
    · go_wp2
      go_ret
      exact ⟨rfl, HB4.out⟩
    obtain ⟨hv, h0, h50⟩ := cvv_has (ts := ts) (far := far) (by rw [Ha.out]; omega)
    obtain ⟨e1, e2, e3⟩ := nets_facts (ts := ts) (far := far) (by rw [Ha.out]; omega) (by rw [Ha.out]; omega)
    obtain ⟨g1, g7, -⟩ := (vt_iff ts).1 hv
    rw [Ha.out] at e1 e2 e3
    obtain ⟨f, Hf⟩ : ∃ f, Hid (nfr ts.length (strOf ts) a = f) := ⟨_, rfl⟩
    rw [Hf.out] at e1 e2 e3
    obtain ⟨b, Hb⟩ : ∃ b, Hid (cvv ts f = b) := ⟨_, rfl⟩
    rw [Hb.out] at e3
    have Hwa := Lib.hid (wf_small (n := a) (by omega))
    have Hwf2 := Lib.hid (wf_small (n := f) (by omega))
    clear hv
    go_wp2_with fail
    refine (streetsOf_any A' c' ts.length ts w4 R4.out rfl (by omega)).mono ?_
    rintro e w5 ⟨A5, c5, rfl, hc5, hc6, hrd5, hq5⟩
    have R5 := Lib.hid ((R4.out.below hq5).more hq5.size)
    have HB5 := Lib.hid (HB4.out.trans (hq5.mono HB4.out.size))
    have N5 : Hid (NetIn w5 A5 c5 (ts.length - 1) (ts.length : Nat) (strOf ts)) := ⟨hrd5, strOf_len ts, ⟨hc5, hc6⟩, by omega, wf_small (by omega)⟩
    clear hrd5 hq5
    go_wp2_with fail
    refine (iNetFar_ok A5 c5 _ _ _ a w5 N5.out Hwa.out).mono ?_
    rintro e w6 ⟨rfl, hq6⟩
    rw [Hf.out]
    have R6 := Lib.hid ((R5.out.below hq6).more hq6.size)
    have HB6 := Lib.hid (HB5.out.trans (hq6.mono HB5.out.size))
    clear hq6
    go_wp2_with fail
    refine (iTreeCover_any A' c' ts.length ts f w6 R6.out rfl hc1 (by omega) Hwf2.out).mono ?_
    rintro e w7 ⟨rfl, hq⟩
    rw [Hb.out]
    have HB7 := Lib.hid (HB6.out.trans (hq.mono HB6.out.size))
    go_wp2
    go_ret
    exact ⟨ret_bool (by simp), HB7.out⟩
end Go.Proofs.Ytdhelapgdgekfaa
