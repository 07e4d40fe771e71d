/-
  The program's sums over the states of busy helpers.
  Conditions: at most six states.
-/
import Derived.Test.YtbbmjfnjpmefpaaID
namespace Go.Proofs.Ytbbmjfnjpmefpaa
open Go.ChangeShapes Go.WideShapes Go.ChangeAt Go.RowKit
set_option linter.unusedVariables false
set_option maxRecDepth 4000

def SumRel (h : Nat → Nat) (n : Nat) (w : World) (s5 s10 : Value) (wr : World) : Prop :=
  ∃ i x : Nat, s5 = .int .i64 x ∧ s10 = .int .i64 i ∧ i ≤ n ∧ Hid (bzS h i = x) ∧ Below w.heap.size w wr
set_option maxHeartbeats 1600000 in
theorem sumAll_any (b n c : Nat) (f h : Nat → Nat) (w : World) (hs : StIn w b n f) (hn : n ≤ 6) (hc : n ≤ c) (hm : c ≤ 9223372036854775807) (hh : ∀ i, i ≤ n → bzS h i ≤ 300000000)
    (HF : ∀ (i : Nat) (w : World), i < n → Calls Try.prog 44 #[.agg #[.int .i64 i, .int .i64 (f i)]] w fun e w' => e = .returned (.int .i64 (h i)) ∧ Below w.heap.size w w') :
    Calls Try.prog 41 #[.slice (some ⟨b, 0, none⟩) n c, .func (.func 44) #[] #[]] w fun e w' => e = .returned (.int .i64 (bzS h n)) ∧ Below w.heap.size w w' := by
  have HS := Lib.hid hs
  have HH := Lib.hid hh
  have HFH := Lib.hid HF
  clear hs hh HF
  go_enter Try.func41, Try.ntmps41
  go_wp2
  go_loopw [5, 10] (fun s5 s10 wr => SumRel h n w s5 s10 wr) (fun _ s10 _ => n - (intOf s10).toNat)
  case atStart => exact ⟨0, 0, rfl, rfl, by omega, rfl, Below.refl _ _⟩
  case round =>
    obtain ⟨i, x, rfl, rfl, hi, Hx, hb⟩ := hrel
    have Hb := Lib.hid hb
    have hws := hb.size
    clear hb
    have hx : x ≤ 300000000 := by rw [← Hx.out]; exact HH.out i hi
    by_cases hlt : i < n
    · have Hst := Lib.hid (HS.out.below Hb.out)
      have hc0 := (Hst.out.2 i hlt).1
      have hc1 := (Hst.out.2 i hlt).2
      have hbl := Hst.out.1
      obtain ⟨y, Hy⟩ : ∃ y, Hid (f i = y) := ⟨_, rfl⟩
      obtain ⟨z, Hz⟩ : ∃ z, Hid (h i = z) := ⟨_, rfl⟩
      have Hn : Hid (bzS h (i + 1) = x + z) := by show bzS h i + h i = x + z; rw [Hx.out, Hz.out]
      have hxz : x + z ≤ 300000000 := by rw [← Hn.out]; exact HH.out (i + 1) (by omega)
      have HC := Lib.hid (fun W => HFH.out i W hlt)
      rw [Hy.out] at hc1 HC
      rw [Hz.out] at HC
      go_wp2_with fail
      refine (HC.out _).mono ?_
      rintro e w3 ⟨rfl, hb3⟩
      have HB3 : Hid (Below w.heap.size w w3) := (Hb.out.alloc hws _).trans (hb3.mono (by rw [size_alloc1]; omega))
      clear hb3
      go_wp2
      go_roundw
      case rel => exact ⟨i + 1, x + z, by go_num, by go_num, by omega, Hn, HB3.out⟩
      case measure => simp [intOf]; omega
    · obtain rfl : i = n := by omega
      have Hx' : Hid (bzS h i = x) := Hx
      go_wp2
      go_ret
      exact ⟨ret_int (by rw [Hx'.out]), Hb.out⟩
set_option maxHeartbeats 1600000 in
theorem sumMean_any (b n c : Nat) (f h : Nat → Nat) (w : World) (hs : StIn w b n f) (hn : n ≤ 6) (hc : n ≤ c) (hm : c ≤ 9223372036854775807) (hh : ∀ i, i ≤ n → bzS h i ≤ 300000000)
    (HF : ∀ (i : Nat) (w : World), i < n → Calls Try.prog 42 #[.agg #[.int .i64 i, .int .i64 (f i)]] w fun e w' => e = .returned (.int .i64 (h i)) ∧ Below w.heap.size w w') :
    Calls Try.prog 41 #[.slice (some ⟨b, 0, none⟩) n c, .func (.func 42) #[] #[]] w fun e w' => e = .returned (.int .i64 (bzS h n)) ∧ Below w.heap.size w w' := by
  have HS := Lib.hid hs
  have HH := Lib.hid hh
  have HFH := Lib.hid HF
  clear hs hh HF
  go_enter Try.func41, Try.ntmps41
  go_wp2
  go_loopw [5, 10] (fun s5 s10 wr => SumRel h n w s5 s10 wr) (fun _ s10 _ => n - (intOf s10).toNat)
  case atStart => exact ⟨0, 0, rfl, rfl, by omega, rfl, Below.refl _ _⟩
  case round =>
    obtain ⟨i, x, rfl, rfl, hi, Hx, hb⟩ := hrel
    have Hb := Lib.hid hb
    have hws := hb.size
    clear hb
    have hx : x ≤ 300000000 := by rw [← Hx.out]; exact HH.out i hi
    by_cases hlt : i < n
    · have Hst := Lib.hid (HS.out.below Hb.out)
      have hc0 := (Hst.out.2 i hlt).1
      have hc1 := (Hst.out.2 i hlt).2
      have hbl := Hst.out.1
      obtain ⟨y, Hy⟩ : ∃ y, Hid (f i = y) := ⟨_, rfl⟩
      obtain ⟨z, Hz⟩ : ∃ z, Hid (h i = z) := ⟨_, rfl⟩
      have Hn : Hid (bzS h (i + 1) = x + z) := by show bzS h i + h i = x + z; rw [Hx.out, Hz.out]
      have hxz : x + z ≤ 300000000 := by rw [← Hn.out]; exact HH.out (i + 1) (by omega)
      have HC := Lib.hid (fun W => HFH.out i W hlt)
      rw [Hy.out] at hc1 HC
      rw [Hz.out] at HC
      go_wp2_with fail
      refine (HC.out _).mono ?_
      rintro e w3 ⟨rfl, hb3⟩
      have HB3 : Hid (Below w.heap.size w w3) := (Hb.out.alloc hws _).trans (hb3.mono (by rw [size_alloc1]; omega))
      clear hb3
      go_wp2
      go_roundw
      case rel => exact ⟨i + 1, x + z, by go_num, by go_num, by omega, Hn, HB3.out⟩
      case measure => simp [intOf]; omega
    · obtain rfl : i = n := by omega
      have Hx' : Hid (bzS h i = x) := Hx
      go_wp2
      go_ret
      exact ⟨ret_int (by rw [Hx'.out]), Hb.out⟩

theorem weight_any (x y : Int) (w : World) : Calls Try.prog 44 #[.agg #[.int .i64 x, .int .i64 y]] w fun e w' => e = .returned (.int .i64 y) ∧ Below w.heap.size w w' := by
  go_enter Try.func44, Try.ntmps44
  go_wp2
  go_ret
  exact ⟨rfl, (Below.refl _ _).alloc (Nat.le_refl _) _⟩
theorem work_any (x y z : Nat) (w : World) (hz : z ≤ 300000000) (h : x * y = z) : Calls Try.prog 42 #[.agg #[.int .i64 x, .int .i64 y]] w fun e w' => e = .returned (.int .i64 z) ∧ Below w.heap.size w w' := by
  have p1 : (x : Int) * (y : Int) = (z : Int) := by rw [← h]; push_cast; rfl
  clear h
  go_enter Try.func42, Try.ntmps42
  go_wp2
  go_ret
  exact ⟨rfl, (Below.refl _ _).alloc (Nat.le_refl _) _⟩
theorem allWeight_any (b n c : Nat) (f : Nat → Nat) (w : World) (hs : StIn w b n f) (hn : n ≤ 6) (hc : n ≤ c) (hm : c ≤ 9223372036854775807) (hh : ∀ i, i ≤ n → bzS f i ≤ 300000000) :
    Calls Try.prog 34 #[.slice (some ⟨b, 0, none⟩) n c] w fun e w' => e = .returned (.int .i64 (bzS f n)) ∧ Below w.heap.size w w' := by
  have H := Lib.hid (sumAll_any b n c f f w hs hn hc hm hh (fun i W _ => weight_any _ _ W))
  obtain ⟨x, Hx⟩ : ∃ x, Hid (bzS f n = x) := ⟨_, rfl⟩
  rw [Hx.out] at H ⊢
  clear hs hh
  go_enter Try.func34, Try.ntmps34
  go_wp2_with fail
  refine H.out.mono ?_
  rintro e w1 ⟨rfl, hb⟩
  go_wp2
  go_ret
  exact ⟨rfl, hb⟩
end Go.Proofs.Ytbbmjfnjpmefpaa
