/-
  The model's functions of busy helpers, walked.
  Conditions: none.
-/
import Derived.Test.YtbbmjfnjpmefpaaIG
import Derived.Test.YtbbmjfnjpmefpaaLR
namespace Go.Proofs.Ytbbmjfnjpmefpaa
open Go.ChangeShapes Go.WideShapes Go.ChangeAt Go.RowKit
set_option linter.unusedVariables false
set_option maxRecDepth 4000

theorem validLoad_any (a d k : Int) (w : World) :
    Calls Try.prog 35 #[.int .i64 a, .int .i64 d, .int .i64 k] w fun e w' => e = .returned (.bool (vbz a d k)) ∧ w = w' := by
  have H1 := Lib.hid (fun W => inRange_any a 0 10 W)
  have H2 := Lib.hid (fun W => inRange_any d 1 10 W)
  have H3 := Lib.hid (fun W => inRange_any k 0 5 W)
  obtain ⟨b1, h1⟩ : ∃ b, (decide (0 ≤ a) && decide (a ≤ 10)) = b := ⟨_, rfl⟩
  obtain ⟨b2, h2⟩ : ∃ b, (decide (1 ≤ d) && decide (d ≤ 10)) = b := ⟨_, rfl⟩
  obtain ⟨b3, h3⟩ : ∃ b, (decide (0 ≤ k) && decide (k ≤ 5)) = b := ⟨_, rfl⟩
  have Hans : Hid (vbz a d k = (b1 && (b2 && b3))) := by
    show _ = _
    rw [← h1, ← h2, ← h3]
    unfold vbz
    rw [Bool.and_assoc, Bool.and_assoc]
  rw [h1] at H1
  rw [h2] at H2
  rw [h3] at H3
  clear h1 h2 h3
  cases b1
  · go_enter Try.func35, Try.ntmps35
    go_wp2_with fail
    refine (H1.out _).mono ?_
    rintro e w' ⟨rfl, rfl⟩
    go_wp2
    go_ret
    exact ⟨ret_bool (by rw [Hans.out]; rfl), rfl⟩
  · cases b2
    · go_enter Try.func35, Try.ntmps35
      go_wp2_with fail
      refine (H1.out _).mono ?_
      rintro e w' ⟨rfl, rfl⟩
      go_wp2_with fail
      refine (H2.out _).mono ?_
      rintro e w' ⟨rfl, rfl⟩
      go_wp2
      go_ret
      exact ⟨ret_bool (by rw [Hans.out]; rfl), rfl⟩
    · go_enter Try.func35, Try.ntmps35
      go_wp2_with fail
      refine (H1.out _).mono ?_
      rintro e w' ⟨rfl, rfl⟩
      go_wp2_with fail
      refine (H2.out _).mono ?_
      rintro e w' ⟨rfl, rfl⟩
      go_wp2_with fail
      refine (H3.out _).mono ?_
      rintro e w' ⟨rfl, rfl⟩
      go_wp2
      go_ret
      exact ⟨ret_bool (by rw [Hans.out]; cases b3 <;> rfl), rfl⟩

def PwRel (x n : Nat) (w : World) (s1 s5 : Value) (wr : World) : Prop := ∃ i u : Nat, s1 = .int .i64 i ∧ s5 = .int .i64 u ∧ i ≤ n ∧ Hid (bzP x (n - i) = u) ∧ w = wr
theorem powerOf_any (x n p : Nat) (w : World) (hx : x < 11) (hn : n < 6) (hp : bzP x n = p) :
    Calls Try.prog 37 #[.int .i64 x, .int .i64 n] w fun e w' => e = .returned (.int .i64 p) ∧ w = w' := by
  have Hp := Lib.hid hp
  clear hp
  go_enter Try.func37, Try.ntmps37
  go_wp2
  go_loopw [1, 5] (fun s1 s5 wr => PwRel x n w s1 s5 wr) (fun s1 _ _ => (intOf s1).toNat)
  case atStart => exact ⟨n, 1, rfl, rfl, Nat.le_refl _, by rw [Nat.sub_self]; exact rfl, rfl⟩
  case round =>
    obtain ⟨i, u, rfl, rfl, hi, Hu, rfl⟩ := hrel
    by_cases hlt : 0 < i
    · obtain ⟨v, Hv⟩ : ∃ v, Hid (u * x = v) := ⟨_, rfl⟩
      have Hn : Hid (bzP x (n - (i - 1)) = v) := by
        show bzP x _ = _
        rw [show n - (i - 1) = (n - i) + 1 by omega]
        show bzP x (n - i) * x = v
        rw [Hu.out, Hv.out]
      have hv : v ≤ 100000 := by rw [← Hn.out]; exact bzP_bd x hx _ (by omega)
      have p1 : (u : Int) * (x : Int) = (v : Int) := by rw [← Hv.out]; push_cast; rfl
      have p2 : (i : Int) - 1 = ((i - 1 : Nat) : Int) := by omega
      obtain ⟨j, Hj⟩ : ∃ j, Hid (i - 1 = j) := ⟨_, rfl⟩
      have hj : j < i := by rw [← Hj.out]; omega
      rw [Hj.out] at Hn p2
      go_wp2
      go_roundw
      case rel => exact ⟨j, v, rfl, rfl, by omega, Hn, rfl⟩
      case measure => simp [intOf]; omega
    · obtain rfl : i = 0 := by omega
      have hq : u = p := Hu.out.symm.trans (by rw [Nat.sub_zero]; exact Hp.out)
      subst hq
      go_wp2
      go_ret
      exact ⟨rfl, rfl⟩

def FaRel (n : Nat) (w : World) (s3 s4 : Value) (wr : World) : Prop := ∃ j u : Nat, s3 = .int .i64 u ∧ s4 = .int .i64 (j + 2 : Nat) ∧ (j + 1 ≤ n ∨ j = 0) ∧ Hid (bzF (j + 1) = u) ∧ w = wr
theorem factorial_any (n f : Nat) (w : World) (hn : n < 6) (hf : bzF n = f) :
    Calls Try.prog 38 #[.int .i64 n] w fun e w' => e = .returned (.int .i64 f) ∧ w = w' := by
  have Hf := Lib.hid hf
  clear hf
  go_enter Try.func38, Try.ntmps38
  go_wp2
  go_loopw [3, 4] (fun s3 s4 wr => FaRel n w s3 s4 wr) (fun _ s4 _ => n + 2 - (intOf s4).toNat)
  case atStart => exact ⟨0, 1, rfl, rfl, .inr rfl, rfl, rfl⟩
  case round =>
    obtain ⟨j, u, rfl, rfl, hj, Hu, rfl⟩ := hrel
    by_cases hlt : j + 2 ≤ n
    · obtain ⟨v, Hv⟩ : ∃ v, Hid (u * (j + 2) = v) := ⟨_, rfl⟩
      have Hn : Hid (bzF (j + 1 + 1) = v) := by show bzF (j + 1) * (j + 1 + 1) = v; rw [Hu.out]; exact Hv.out
      have hv : v ≤ 120 := by rw [← Hn.out]; exact (bzF_bd _ (by omega)).2
      have p1 : (u : Int) * ((j : Int) + 2) = (v : Int) := by rw [← Hv.out]; push_cast; rfl
      have hlt' : (j : Int) + 2 ≤ (n : Int) := by omega
      go_wp2
      go_roundw
      case rel => exact ⟨j + 1, v, rfl, by go_num, by omega, Hn, rfl⟩
      case measure => simp [intOf]; omega
    · have hq : Hid (u = f) := by
        show u = f
        rw [← Hu.out, ← Hf.out]
        by_cases e : n = 0
        · obtain rfl : j = 0 := by omega
          subst e; rfl
        · rw [show j + 1 = n by omega]
      have hlt' : ¬ (j : Int) + 2 ≤ (n : Int) := by omega
      clear hlt hj
      go_wp2
      go_ret
      exact ⟨ret_int (by rw [hq.out]), rfl⟩
end Go.Proofs.Ytbbmjfnjpmefpaa
