/-
  LeastFar: the program and the model find the same least number; the search ends at 25.
  Conditions: fewer than 2^20 numbers.
-/
import Derived.Test.YtoohfipicmdohabL4
namespace Go.Proofs.Ytoohfipicmdohab
open Go.ChangeShapes Go.WideShapes Go.ChangeAt Go.RowKit
set_option linter.unusedVariables false

def vk (k : Int) : Bool := decide (1 ≤ k) && decide (k ≤ 4)
theorem vk_yes {k : Int} (h1 : 1 ≤ k) (h2 : k ≤ 4) : vk k = true := by simp [vk, h1, h2]
theorem vk_no {k : Int} (h : k < 1 ∨ 4 < k) : vk k = false := by
  simp only [vk, Bool.and_eq_false_iff, decide_eq_false_iff_not]; omega
/-- The first number from far on, among fuel many, with at most k helpers. -/
def lfrom (zs : List Int) (k : Int) : Nat → Int → Int
  | 0, far => far
  | f + 1, far => if k < fewest zs far then lfrom zs k f (far + 1) else far
def lfar (zs : List Int) (k : Int) : Int := if vh zs = true ∧ vk k = true then lfrom zs k 50 0 else -1
theorem lfar_no {zs : List Int} {k : Int} (h : vh zs = false) : lfar zs k = -1 := by simp [lfar, h]
theorem lfar_no' {zs : List Int} {k : Int} (h : vk k = false) : lfar zs k = -1 := by simp [lfar, h]
theorem lfar_yes {zs : List Int} {k : Int} (h : vh zs = true) (h' : vk k = true) : lfar zs k = lfrom zs k 50 0 := by simp [lfar, h, h']
theorem few_zero {far last : Int} : ∀ {l : List Int}, (∀ x ∈ l, x ≤ last) → few far last l = 0 := by
  intro l
  induction l with
  | nil => intro _; rfl
  | cons y r ih =>
    intro h
    have h1 := h y (by simp)
    have : ¬ last < y := by omega
    simp only [few, this, if_false]
    exact ih fun x hx => h x (by simp [hx])
theorem fewest_big {zs : List Int} {far : Int} (h : vh zs = true) (h1 : 25 ≤ far) (h2 : far ≤ 50) : fewest zs far ≤ 1 := by
  rw [fewest_yes h (vfar_yes (by omega) h2)]
  have hm := okFrom_mem (vh_ok h)
  cases zs with
  | nil => simp [few]
  | cons y r =>
    have hy := hm y (by simp)
    simp only [few]
    rw [if_pos (by omega), few_zero (fun x hx => by have := hm x (by simp [hx]); omega)]
    omega
theorem lfrom_step {zs : List Int} {k far t : Int} {f : Nat} (e : t = lfrom zs k (f + 1) far) (h : k < fewest zs far) : t = lfrom zs k f (far + 1) := by
  rw [e]; simp only [lfrom, h, if_true]
theorem lfrom_end {zs : List Int} {k far t : Int} {f : Nat} (e : t = lfrom zs k f far) (h : ¬ k < fewest zs far) : t = far := by
  rw [e]; cases f with
  | zero => rfl
  | succ f => simp only [lfrom, h, if_false]

theorem validHelpers_yes (k : Int) (w : World) (h1 : 1 ≤ k) (h2 : k ≤ 4) :
    Calls Try.prog 38 #[.int .i64 k] w fun e w' => e = .returned (.bool true) ∧ w = w' := by
  go_enter Try.func38, Try.ntmps38
  go_wp2
  go_ret
  exact ⟨ret_bool (by simp <;> omega), rfl⟩
theorem validHelpers_no (k : Int) (w : World) (h : k < 1 ∨ 4 < k) :
    Calls Try.prog 38 #[.int .i64 k] w fun e w' => e = .returned (.bool false) ∧ w = w' := by
  by_cases h1 : k < 1
  all_goals
    go_enter Try.func38, Try.ntmps38
    go_wp2
    go_ret
    exact ⟨ret_bool (by simp <;> omega), rfl⟩

set_option maxHeartbeats 400000 in
theorem iLeastFar_any (A : Option Addr) (c n : Nat) (zs : List Int) (k : Int) (w : World) (B : Nat) (hr : RdI w B A zs) (hn : zs.length = n) (hb : n ≤ 1048576) :
    Calls Try.prog 30 #[.slice A n c, .int .i64 k] w fun e w' => e = .returned (.int .i64 (lfar zs k)) ∧ w = w' := by
  have Hn := Lib.hid hn
  clear hn
  by_cases hv : vh zs = true
  · by_cases hf : k < 1 ∨ 4 < k
    · have Hs := Lib.hid (lfar_no' (zs := zs) (vk_no hf))
      go_enter Try.func30, Try.ntmps30
      go_wp2_with fail
      refine (iValid_any A c n zs w B hr Hn.out (by omega)).mono ?_
      rintro e w' ⟨rfl, rfl⟩
      go_wp2_with (go_at_call 38; refine (validHelpers_no _ _ hf).mono ?_; rintro e w' ⟨rfl, rfl⟩)
      go_ret
      exact ⟨ret_int Hs.out.symm, rfl⟩
    · have h1 : 1 ≤ k := by omega
      have h2 : k ≤ 4 := by omega
      clear hf
      have Hs := Lib.hid (lfar_yes hv (vk_yes h1 h2))
      go_enter Try.func30, Try.ntmps30
      go_wp2_with fail
      refine (iValid_any A c n zs w B hr Hn.out (by omega)).mono ?_
      rintro e w' ⟨rfl, rfl⟩
      have Hv := Lib.hid hv
      go_wp2_with (go_at_call 38; refine (validHelpers_yes _ _ h1 h2).mono ?_; rintro e w' ⟨rfl, rfl⟩)
      clear hv
      go_loop [5] (fun r => ∃ f : Nat, ∃ far : Int, 0 ≤ far ∧ far ≤ 25 ∧ far + f = 50 ∧ Hid (lfar zs k = lfrom zs k f far) ∧ r = .int .i64 far) (fun r => 50 - (intOf r).toNat)
      case atStart => exact ⟨50, 0, by omega, by omega, by omega, Hs, rfl⟩
      case round =>
        obtain ⟨f, far, hf1, hf2, hff, Ho, rfl⟩ := hrel
        have Hff := Lib.hid hff
        clear hff
        by_cases hk : k < fewest zs far
        · have hlt : far < 25 := by
            rcases Int.lt_or_le far 25 with h | h
            · exact h
            · have := fewest_big Hv.out h (by omega)
              omega
          obtain ⟨f', rfl⟩ : ∃ f', f = f' + 1 := ⟨f - 1, by have := Hff.out; omega⟩
          have Ht := Lib.hid (lfrom_step Ho.out hk)
          have hk' := hk
          go_wp2_with (go_at_call 23; refine (iFewest_any _ _ _ zs far w B hr Hn.out hb).mono ?_; rintro e w' ⟨rfl, rfl⟩)
          go_round
          case rel => exact ⟨f', far + 1, by omega, by omega, by have := Hff.out; omega, Ht, rfl⟩
          case measure => simp [intOf]; omega
        · have Ht := Lib.hid (lfrom_end Ho.out hk)
          go_wp2_with (go_at_call 23; refine (iFewest_any _ _ _ zs far w B hr Hn.out hb).mono ?_; rintro e w' ⟨rfl, rfl⟩)
          go_ret
          exact ⟨ret_int Ht.out.symm, rfl⟩
  · have hv' : vh zs = false := by simpa using hv
    clear hv
    have Hs := Lib.hid (lfar_no (k := k) hv')
    go_enter Try.func30, Try.ntmps30
    go_wp2_with fail
    refine (iValid_any A c n zs w B hr Hn.out (by omega)).mono ?_
    rintro e w' ⟨rfl, rfl⟩
    go_wp2
    go_ret
    exact ⟨ret_int Hs.out.symm, rfl⟩
end Go.Proofs.Ytoohfipicmdohab
