/-
  addMiddle of the program, walked: one node more in the middle.
  Conditions: a table with the bounds of ways.
-/
import Derived.Test.YtiblcmeoneolcaaAS
import Derived.Test.YtiblcmeoneolcaaBB
import Derived.StillTailTactics
namespace Go.Proofs.Ytiblcmeoneolcaa
open Go.ChangeShapes Go.WideShapes Go.ChangeAt Go.RowKit
set_option linter.unusedVariables false
set_option maxRecDepth 4000

/-- A way put in at an entry if it is shorter. -/
def shX (X : Nat → Nat → Int) (a b : Nat) (x : Int) : Nat → Nat → Int := if ShW x (X a b) then up2 X a b x else X
theorem shortenX_any (w wr : World) (n g cA a b gr cr : Nat) (VR : Nat → Value) (X : Nat → Nat → Int) (x : Int) (h : TabX w wr n g cA VR X) (ha : a < n) (hb : b < n) (hv : VR a = .slice (some ⟨gr, 0, none⟩) n cr) :
    Calls Try.prog 61 #[.slice (some ⟨gr, 0, none⟩) n cr, .int .i64 b, .int .i64 x] wr fun e w' => ∃ t, e = .returned (.bool t) ∧ TabX w w' n g cA VR (shX X a b x) ∧ KeepI wr w' := by
  obtain ⟨-, cc, ff⟩ := h.cell ha hb hv
  unfold shX
  by_cases hs : ShW x (X a b)
  · refine (shorten_yes gr n cr b x _ wr hb cc ff hs).mono ?_
    rintro e w' ⟨rfl, k, rfl⟩
    rw [if_pos hs]
    refine ⟨true, rfl, (h.set x ha hb hv).drewN k, ?_⟩
    have h5 := h.row.own a ha
    rw [hv, rowX_len] at h5
    obtain ⟨⟨cs, hcs⟩, -, -⟩ := own_heap h5 (g := gr) rfl
    exact ((KeepI.refl wr).set hcs _).drewN k
  · refine (shorten_no gr n cr b x _ wr hb cc hs).mono ?_
    rintro e w' ⟨rfl, k, rfl⟩
    rw [if_neg hs]
    exact ⟨false, rfl, h.drewN k, (KeepI.refl wr).drewN k⟩
theorem shX_fw {X : Nat → Nat → Int} {m a b : Nat} (h1 : -1 ≤ X a m) (h2 : -1 ≤ X m b) (h3 : -1 ≤ X a b) (i j : Nat) : shX (fwM X m a b) a b (jn (X a m) (X m b)) i j = fwM X m a (b + 1) i j := by
  unfold shX
  rw [fwM_at]
  by_cases h : 0 ≤ X a m ∧ 0 ≤ X m b ∧ (X a b < 0 ∨ X a m + X m b < X a b)
  · obtain ⟨p, q, r⟩ := h
    have hj : jn (X a m) (X m b) = X a m + X m b := if_neg (by omega)
    have hs : ShW (X a m + X m b) (X a b) := ⟨by omega, by omega⟩
    rw [hj, if_pos hs]
    exact fwM_next (fwX_yes rfl rfl rfl p q r) i j
  · have hs : ¬ ShW (jn (X a m) (X m b)) (X a b) := fun hs => h (by
      have e1 := hs.1
      have e2 := hs.2
      unfold jn at e1 e2
      split at e1 <;> rename_i hc
      · exact absurd rfl e1
      · rw [if_neg hc] at e2
        omega)
    rw [if_neg hs]
    exact fwM_same (fwX_no rfl rfl rfl h) i j

set_option maxHeartbeats 1600000 in
theorem addMiddle_any (w wr0 : World) (n g cA m : Nat) (VR : Nat → Value) (X : Nat → Nat → Int) (hn7 : n ≤ 7) (hm : m < n) (h0 : X m m = 0) (hbd : ∀ a b, a < n → b < n → -1 ≤ X a b ∧ X a b ≤ 1152) (h : TabX w wr0 n g cA VR X) :
    Calls Try.prog 62 #[.slice (some ⟨g, 0, none⟩) n cA, .int .i64 m] wr0 fun e w' => e = .returned (.tuple #[]) ∧ TabX w w' n g cA VR (fwX X m) := by
  have HX1 := Lib.hid (h.congr (Y := fwM X m 0 0) fun i j _ _ => fwM_zero.symm)
  have H00 := Lib.hid h0
  clear h h0
  go_enter Try.func62, Try.ntmps62
  go_wp2
  go_loopw [10] (fun s wr => ∃ a : Nat, a ≤ n ∧ s = .int .i64 a ∧ Hid (TabX w wr n g cA VR (fwM X m a 0))) (fun s _ => n - (intOf s).toNat)
  case atStart => exact ⟨0, Nat.zero_le _, rfl, HX1⟩
  case round =>
    clear HX1
    obtain ⟨a, ha, rfl, HX⟩ := hrel
    by_cases hlta : a < n
    · obtain ⟨ga, ca, hVa⟩ := HX.out.rowAt hlta
      obtain ⟨gk, ck, hVk⟩ := HX.out.rowAt hm
      obtain ⟨cga, -, -⟩ := HX.out.cell hlta hlta hVa
      obtain ⟨cgk, -, -⟩ := HX.out.cell hm hm hVk
      have HVa := Lib.hid hVa
      have HVk := Lib.hid hVk
      clear hVa hVk
      go_wp2
      go_loopw [19] (fun s wr => ∃ b : Nat, b ≤ n ∧ s = .int .i64 b ∧ Hid (TabX w wr n g cA VR (fwM X m a b))) (fun s _ => n - (intOf s).toNat)
      case atStart => exact ⟨0, Nat.zero_le _, rfl, HX⟩
      case round =>
        clear HX cga cgk
        obtain ⟨b, hb, rfl, HX⟩ := hrel
        by_cases hltb : b < n
        · obtain ⟨-, cak, -⟩ := HX.out.cell hlta hm HVa.out
          obtain ⟨-, ckb, -⟩ := HX.out.cell hm hltb HVk.out
          rw [fwM_col H00.out] at cak
          rw [fwM_row H00.out] at ckb
          have b1 := hbd a m hlta hm
          have b2 := hbd m b hm hltb
          have b3 := hbd a b hlta hltb
          have Hnext := Lib.hid (shX_fw b1.1 b2.1 b3.1)
          have Hsh := Lib.hid (fun W (hW : TabX w W n g cA VR (fwM X m a b)) => shortenX_any w W n g cA a b ga ca VR _ (jn (X a m) (X m b)) hW hlta hltb HVa.out)
          obtain ⟨p, Hp⟩ : ∃ x, Hid (X a m = x) := ⟨_, rfl⟩
          obtain ⟨q, Hq⟩ : ∃ x, Hid (X m b = x) := ⟨_, rfl⟩
          rw [Hp.out] at cak b1 Hsh Hnext
          rw [Hq.out] at ckb b2 Hsh Hnext
          have Hj : Hid (∀ W, Calls Try.prog 85 #[.int .i64 p, .int .i64 q] W fun e w' => e = .returned (.int .i64 (jn p q)) ∧ w' = W) := fun W => (joined_any p q W (by omega) (by omega)).mono fun _ _ ⟨h1, h2⟩ => ⟨h1, h2.symm⟩
          have HX' := Lib.hid HX.out
          clear HX
          go_wp2_with fail
          refine (Hj.out _).mono ?_
          rintro e w' ⟨rfl, rfl⟩
          go_wp2_with fail
          refine (Hsh.out _ HX'.out).mono ?_
          rintro e w3 ⟨t, rfl, hX3, -⟩
          have HX3 := Lib.hid (hX3.congr (Y := fwM X m a (b + 1)) fun i j _ _ => Hnext.out i j)
          clear hX3
          go_wp2
          go_roundw
          case rel => exact ⟨b + 1, by omega, by go_num, HX3⟩
          case measure => simp [intOf]; omega
        · obtain rfl : n = b := by omega
          have HX2 := Lib.hid (HX.out.congr (Y := fwM X m (a + 1) 0) fun i j _ hj => fwM_line hj)
          go_wp2
          go_roundw
          case rel => exact ⟨a + 1, by omega, by go_num, HX2⟩
          case measure => simp [intOf]; omega
    · obtain rfl : n = a := by omega
      have HX2 := Lib.hid (HX.out.congr (Y := fwX X m) fun i j hi _ => fwM_end hi)
      go_wp2
      go_end0
      exact ⟨rfl, HX2.out⟩
end Go.Proofs.Ytiblcmeoneolcaa
