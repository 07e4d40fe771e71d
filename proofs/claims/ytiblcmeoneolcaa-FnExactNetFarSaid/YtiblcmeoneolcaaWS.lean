/-
  wayToSet and farthestNode of the program, walked.
  Conditions: at most seven nodes; ways between -1 and 54.
-/
import Derived.Test.YtiblcmeoneolcaaNW
import Derived.Test.YtiblcmeoneolcaaNS
import Derived.Test.YtiblcmeoneolcaaBB
namespace Go.Proofs.Ytiblcmeoneolcaa
open Go.ChangeShapes Go.WideShapes Go.ChangeAt Go.RowKit
set_option linter.unusedVariables false
set_option maxRecDepth 4000

theorem bitS_all : ∀ s : Fin 128, ∀ i : Fin 7, (bits BinOp.and IntKind.u64 ((s.val : Int) / 2 ^ i.val) 1 == 1) = s.val.testBit i.val := by decide +kernel
theorem bitS_test {s i : Nat} (hs : s < 128) (hi : i < 7) : (bits BinOp.and IntKind.u64 ((s : Int) / 2 ^ i) 1 == 1) = s.testBit i := bitS_all ⟨s, hs⟩ ⟨i, hi⟩
set_option maxHeartbeats 800000 in
theorem wayTo_any (gr n cr v S : Nat) (X : Nat → Nat → Int) (w : World) (h7 : n ≤ 7) (hS : S < 128) (hc : ∀ j, j < n → w.cell? ⟨gr, j, none⟩ = some (.int .i64 (X v j))) (hb : ∀ j, j < n → -1 ≤ X v j) :
    Calls Try.prog 75 #[.slice (some ⟨gr, 0, none⟩) n cr, .int .u64 S] w fun e w' => e = .returned (.int .i64 (wy X v (memL S n))) ∧ w' = w := by
  have HC := Lib.hid hc
  have HB := Lib.hid hb
  clear hc hb
  go_enter Try.func75, Try.ntmps75
  go_wp2
  go_loopw [5, 10] (fun m i wr => ∃ k : Nat, k ≤ n ∧ i = .int .i64 k ∧ m = .int .i64 (wy X v (memL S k)) ∧ wr = w) (fun _ i _ => n - (intOf i).toNat)
  case atStart => exact ⟨0, Nat.zero_le _, rfl, rfl, rfl⟩
  case round =>
    obtain ⟨k, hk, rfl, rfl, rfl⟩ := hrel
    obtain ⟨a, Ha⟩ : ∃ a, Hid (wy X v (memL S k) = a) := ⟨_, rfl⟩
    have hlow := wy_low X v (memL S k)
    rw [Ha.out] at hlow ⊢
    by_cases hlt : k < n
    · have hcx := HC.out k hlt
      have hbx := HB.out k hlt
      obtain ⟨x, Hx⟩ : ∃ x, Hid (X v k = x) := ⟨_, rfl⟩
      rw [Hx.out] at hcx hbx
      have hbt := bitS_test (i := k) hS (by omega)
      by_cases hbit : S.testBit k = true
      · have Hnx := Lib.hid (wyS_take hbit Ha.out Hx.out hbx hlow)
        rw [hbit] at hbt
        by_cases hs : ShW x a
        · have Hn2 : Hid (wy X v (memL S (k + 1)) = x) := by show _ = _; rw [Hnx.out, if_pos hs]
          have Hsh := Lib.hid (isSh_yes x a wr hs)
          clear hs hbit Hnx
          go_wp2_with fail
          refine Hsh.out.mono ?_
          rintro e w' ⟨rfl, rfl⟩
          go_wp2
          go_roundw
          case rel => exact ⟨k + 1, by omega, by go_num, by rw [Hn2.out], trivial⟩
          case measure => simp [intOf]; omega
        · have Hn2 : Hid (wy X v (memL S (k + 1)) = a) := by show _ = _; rw [Hnx.out, if_neg hs]
          have Hsh := Lib.hid (isSh_no x a wr hs)
          clear hs hbit Hnx
          go_wp2_with fail
          refine Hsh.out.mono ?_
          rintro e w' ⟨rfl, rfl⟩
          go_wp2
          go_roundw
          case rel => exact ⟨k + 1, by omega, by go_num, by rw [Hn2.out], trivial⟩
          case measure => simp [intOf]; omega
      · have Hn2 : Hid (wy X v (memL S (k + 1)) = a) := (wyS_skip hbit).trans Ha.out
        have hbit2 : S.testBit k = false := by simpa using hbit
        rw [hbit2] at hbt
        clear hbit hbit2
        go_wp2
        go_roundw
        case rel => exact ⟨k + 1, by omega, by go_num, by rw [Hn2.out], trivial⟩
        case measure => simp [intOf]; omega
    · obtain rfl : k = n := by omega
      go_wp2
      go_ret
      exact ⟨ret_int Ha.out.symm, rfl⟩

set_option maxHeartbeats 800000 in
theorem farthest_any (w wr : World) (n g cA S : Nat) (VR : Nat → Value) (X : Nat → Nat → Int) (hn1 : 1 ≤ n) (h7 : n ≤ 7) (hS : S < 128) (hX : TabX w wr n g cA VR X) (hb : Bd54 X n) :
    Calls Try.prog 76 #[.slice (some ⟨g, 0, none⟩) n cA, .int .u64 S] wr fun e w' => e = .returned (.int .i64 (ffI X (memL S n) n : Nat)) ∧ w' = wr := by
  have Hway : Hid (∀ v gr cr, v < n → VR v = .slice (some ⟨gr, 0, none⟩) n cr → Calls Try.prog 75 #[.slice (some ⟨gr, 0, none⟩) n cr, .int .u64 S] wr fun e w' => e = .returned (.int .i64 (wy X v (memL S n))) ∧ w' = wr) := fun v gr cr hv he =>
    wayTo_any gr n cr v S X wr h7 hS (fun j hj => (hX.cell hv hj he).2.1) (fun j hj => (hb v j hv hj).1)
  have HX := Lib.hid hX
  have HF := Lib.hid (fun m (hm : m ≤ n) => ffI_lt X (memL S n) hn1 m hm)
  clear hX hb
  obtain ⟨W, HW⟩ : ∃ W, Hid (wr = W) := ⟨_, rfl⟩
  rw [HW.out] at HX Hway ⊢
  clear HW
  go_enter Try.func76, Try.ntmps76
  go_wp2
  go_loopw [5, 10] (fun f i wi => ∃ k : Nat, k ≤ n ∧ i = .int .i64 k ∧ f = .int .i64 (ffI X (memL S n) k : Nat) ∧ wi = W) (fun _ i _ => n - (intOf i).toNat)
  case atStart => exact ⟨0, Nat.zero_le _, rfl, rfl, rfl⟩
  case round =>
    obtain ⟨k, hk, rfl, rfl, rfl⟩ := hrel
    obtain ⟨f, Hf⟩ : ∃ f, Hid (ffI X (memL S n) k = f) := ⟨_, rfl⟩
    have hflt := HF.out k hk
    rw [Hf.out] at hflt ⊢
    by_cases hlt : k < n
    · obtain ⟨gf, cf, hVf⟩ := HX.out.rowAt hflt
      obtain ⟨gk, ck, hVk⟩ := HX.out.rowAt hlt
      obtain ⟨cgf, -, -⟩ := HX.out.cell hflt hflt hVf
      obtain ⟨cgk, -, -⟩ := HX.out.cell hlt hlt hVk
      have Hwf := Lib.hid (Hway.out f gf cf hflt hVf)
      have Hwk := Lib.hid (Hway.out k gk ck hlt hVk)
      have hsame : f = k → gf = gk ∧ cf = ck := fun e => by
        subst e
        have := hVf.symm.trans hVk
        injection this with e1 _ e3
        injection e1 with e1
        injection e1 with e1
        exact ⟨e1, e3⟩
      obtain ⟨a, Ha⟩ : ∃ a, Hid (wy X f (memL S n) = a) := ⟨_, rfl⟩
      obtain ⟨b, Hb⟩ : ∃ b, Hid (wy X k (memL S n) = b) := ⟨_, rfl⟩
      rw [Ha.out] at Hwf
      rw [Hb.out] at Hwk
      clear hVf hVk hsame
      by_cases hs : ShW a b
      · have Hn2 : Hid (ffI X (memL S n) (k + 1) = k) := ffI_yes Hf.out (by rw [Ha.out, Hb.out]; exact hs)
        have Hsh := Lib.hid (isSh_yes a b wr hs)
        clear hs
        go_wp2_with fail
        refine Hwf.out.mono ?_
        rintro e w' ⟨rfl, rfl⟩
        go_wp2_with fail
        refine Hwk.out.mono ?_
        rintro e w' ⟨rfl, rfl⟩
        go_wp2_with fail
        refine Hsh.out.mono ?_
        rintro e w' ⟨rfl, rfl⟩
        go_wp2
        go_roundw
        case rel => exact ⟨k + 1, by omega, by go_num, by rw [Hn2.out], trivial⟩
        case measure => simp [intOf]; omega
      · have Hn2 : Hid (ffI X (memL S n) (k + 1) = f) := ffI_no Hf.out (by rw [Ha.out, Hb.out]; exact hs)
        have Hsh := Lib.hid (isSh_no a b wr hs)
        clear hs
        go_wp2_with fail
        refine Hwf.out.mono ?_
        rintro e w' ⟨rfl, rfl⟩
        go_wp2_with fail
        refine Hwk.out.mono ?_
        rintro e w' ⟨rfl, rfl⟩
        go_wp2_with fail
        refine Hsh.out.mono ?_
        rintro e w' ⟨rfl, rfl⟩
        go_wp2
        go_roundw
        case rel => exact ⟨k + 1, by omega, by go_num, by rw [Hn2.out], trivial⟩
        case measure => simp [intOf]; omega
    · obtain rfl : k = n := by omega
      have Hf2 := Lib.hid Hf.out.symm
      go_wp2
      go_ret
      exact ⟨ret_int (by rw [Hf.out]), rfl⟩
end Go.Proofs.Ytiblcmeoneolcaa
