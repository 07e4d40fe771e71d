/-
  FewestNear: the program and the model count the same helpers, from the first home on.
  Conditions: fewer than 2^20 numbers.
-/
import Derived.Test.YtoohfipicmdohabLV
namespace Go.Proofs.Ytoohfipicmdohab
open Go.ChangeShapes Go.WideShapes Go.ChangeAt Go.RowKit
set_option linter.unusedVariables false

/-- How many helpers, when all up to a place are reached. -/
def few (far last : Int) : List Int → Int
  | [] => 0
  | x :: r => if last < x then 1 + few far (x + 2 * far) r else few far last r
def fewest (zs : List Int) (far : Int) : Int := if vh zs = true ∧ vfar far = true then few far (-1) zs else -1
theorem fewest_no {zs : List Int} {far : Int} (h : vh zs = false) : fewest zs far = -1 := by simp [fewest, h]
theorem fewest_no' {zs : List Int} {far : Int} (h : vfar far = false) : fewest zs far = -1 := by simp [fewest, h]
theorem fewest_yes {zs : List Int} {far : Int} (h : vh zs = true) (h' : vfar far = true) : fewest zs far = few far (-1) zs := by simp [fewest, h, h']
theorem few_yes {zs : List Int} {k : Nat} {x far last h t : Int} (hk : k < zs.length) (hx : zs.getD k 0 = x) (e : t = h + few far last (zs.drop k)) (hl : last < x) :
    t = (h + 1) + few far (x + 2 * far) (zs.drop (k + 1)) := by
  rw [e, drop_cons hk hx]; simp only [few, hl, if_true]; omega
theorem few_no {zs : List Int} {k : Nat} {x far last h t : Int} (hk : k < zs.length) (hx : zs.getD k 0 = x) (e : t = h + few far last (zs.drop k)) (hl : x ≤ last) :
    t = h + few far last (zs.drop (k + 1)) := by
  rw [e, drop_cons hk hx]
  have : ¬ last < x := by omega
  simp only [few, this, if_false]
theorem few_end {zs : List Int} {k : Nat} {far last h t : Int} (hk : zs.length ≤ k) (e : t = h + few far last (zs.drop k)) : t = h := by
  rw [e, List.drop_of_length_le hk]; simp [few]

set_option maxHeartbeats 400000 in
theorem iFewest_any (A : Option Addr) (c n : Nat) (zs : List Int) (far : Int) (w : World) (B : Nat) (hr : RdI w B A zs) (hn : zs.length = n) (hb : n ≤ 1048576) :
    Calls Try.prog 23 #[.slice A n c, .int .i64 far] w fun e w' => e = .returned (.int .i64 (fewest zs far)) ∧ w = w' := by
  have Hn := Lib.hid hn
  clear hn
  by_cases hv : vh zs = true
  · by_cases hf : far < 0 ∨ 50 < far
    · have Hs := Lib.hid (fewest_no' (zs := zs) (vfar_no hf))
      go_enter Try.func23, Try.ntmps23
      go_wp2_with fail
      refine (iValid_any A c n zs w B hr Hn.out (by omega)).mono ?_
      rintro e w' ⟨rfl, rfl⟩
      go_wp2_with (go_at_call 50; refine (validFar_no _ _ hf).mono ?_; rintro e w' ⟨rfl, rfl⟩)
      go_ret
      exact ⟨ret_int Hs.out.symm, rfl⟩
    · have h1 : 0 ≤ far := by omega
      have h2 : far ≤ 50 := by omega
      clear hf
      have Hs := Lib.hid (fewest_yes hv (vfar_yes h1 h2))
      have Hl := vh_len hv
      rw [Hn.out] at Hl
      go_enter Try.func23, Try.ntmps23
      go_wp2_with fail
      refine (iValid_any A c n zs w B hr Hn.out (by omega)).mono ?_
      rintro e w' ⟨rfl, rfl⟩
      have Hv := Lib.hid hv
      go_wp2_with (go_at_call 50; refine (validFar_yes _ _ h1 h2).mono ?_; rintro e w' ⟨rfl, rfl⟩)
      clear hv
      go_loop [5, 6, 19] (fun h r i => ∃ k : Nat, ∃ a last : Int, k ≤ n ∧ 0 ≤ a ∧ a ≤ k ∧ -1 ≤ last ∧ last ≤ 150 ∧ Hid (fewest zs far = a + few far last (zs.drop k)) ∧ i = .int .i64 k ∧ h = .int .i64 a ∧ r = .int .i64 last) (fun _ _ i => n - (intOf i).toNat)
      case atStart => exact ⟨0, 0, -1, Nat.zero_le _, by omega, by omega, by omega, by omega, by rw [Hs.out]; show _ = 0 + few far (-1) zs; omega, rfl, rfl, rfl⟩
      case round =>
        obtain ⟨k, a, last, hk, ha1, ha2, hl1, hl2, Ho, rfl, rfl, rfl⟩ := hrel
        by_cases hlt : k < n
        · obtain ⟨b, off, x, rfl, hbw, Hx, hc⟩ := hr.x (k := k) (by rw [Hn.out]; exact hlt)
          obtain ⟨hx1, hx2⟩ := vh_get Hv.out (by rw [Hn.out]; exact hlt) Hx.out
          by_cases hlx : last < x
          · have Ht := Lib.hid (few_yes (by rw [Hn.out]; exact hlt) Hx.out Ho.out hlx)
            go_wp2
            go_round
            case rel => exact ⟨k + 1, a + 1, x + 2 * far, by omega, by omega, by omega, by omega, by omega, Ht, by go_num, rfl, rfl⟩
            case measure => simp [intOf]; omega
          · have Ht := Lib.hid (few_no (by rw [Hn.out]; exact hlt) Hx.out Ho.out (by omega))
            go_wp2
            go_round
            case rel => exact ⟨k + 1, a, last, by omega, by omega, by omega, by omega, by omega, Ht, by go_num, rfl, rfl⟩
            case measure => simp [intOf]; omega
        · have Ht := Lib.hid (few_end (by rw [Hn.out]; omega) Ho.out)
          go_wp2
          go_ret
          exact ⟨ret_int Ht.out.symm, rfl⟩
  · have hv' : vh zs = false := by simpa using hv
    clear hv
    have Hs := Lib.hid (fewest_no (far := far) hv')
    go_enter Try.func23, Try.ntmps23
    go_wp2_with fail
    refine (iValid_any A c n zs w B hr Hn.out (by omega)).mono ?_
    rintro e w' ⟨rfl, rfl⟩
    go_wp2
    go_ret
    exact ⟨ret_int Hs.out.symm, rfl⟩
end Go.Proofs.Ytoohfipicmdohab
