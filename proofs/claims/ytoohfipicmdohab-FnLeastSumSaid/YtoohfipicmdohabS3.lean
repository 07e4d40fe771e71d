/-
  SumTried: the program tries all sets.
  Conditions: as each theorem states.
-/
import Derived.Test.YtoohfipicmdohabS2
import Derived.Test.YtoohfipicmdohabK8
import Derived.Deep.CutBlock
namespace Go.Proofs.Ytoohfipicmdohab
open Go.ChangeShapes Go.WideShapes Go.ChangeAt Go.RowKit
set_option linter.unusedVariables false

def tmin (zs : List Int) (n c : Nat) : Nat → Int
  | 0 => 501
  | s + 1 => if (bitsOf s).length = c then min (tmin zs n c s) (tsum zs s n n) else tmin zs n c s
def vt (zs : List Int) (k : Int) : Bool := vh zs && (decide (zs.length ≤ 7) && vk k)
def stri (zs : List Int) (k : Int) : Int := if vt zs k = true then tmin zs zs.length (min k.toNat zs.length) (2 ^ zs.length) else -1
theorem stri_no {zs : List Int} {k : Int} (h : vt zs k = false) : stri zs k = -1 := by simp [stri, h]
theorem stri_yes {zs : List Int} {k : Int} (h : vt zs k = true) : stri zs k = tmin zs zs.length (min k.toNat zs.length) (2 ^ zs.length) := by simp [stri, h]
theorem tmin_bd (zs : List Int) (n c : Nat) : ∀ s, 0 ≤ tmin zs n c s ∧ tmin zs n c s ≤ 501
  | 0 => by simp [tmin]
  | s + 1 => by
    have ih := tmin_bd zs n c s
    have h := tsum_bd zs s n n
    simp only [tmin]
    split <;> omega
theorem tmin_yes {zs : List Int} {n c s : Nat} {t u : Int} (h : (bitsOf s).length = c) (ht : tmin zs n c s = t) (hu : tsum zs s n n = u) : tmin zs n c (s + 1) = min t u := by
  simp only [tmin, h, ht, hu, if_true]
theorem tmin_no {zs : List Int} {n c s : Nat} {t : Int} (h : ¬ (bitsOf s).length = c) (ht : tmin zs n c s = t) : tmin zs n c (s + 1) = t := by
  simp only [tmin, h, ht, if_false]

set_option maxHeartbeats 1000000 in
theorem iSumTried_any (A : Option Addr) (c n : Nat) (zs : List Int) (k : Int) (w : World) (B : Nat) (hr : RdI w B A zs) (hn : zs.length = n) (hb : n ≤ 1048576) :
    Calls Try.prog 18 #[.slice A n c, .int .i64 k] w fun e w' => e = .returned (.int .i64 (stri zs k)) ∧ w = w' := by
  have Hn := Lib.hid hn
  clear hn
  by_cases hv : vh zs = true
  · have Hl := vh_len hv
    rw [Hn.out] at Hl
    have Hbd := Lib.hid (vh_inbd hv)
    by_cases h7 : 7 < n
    · have Hs : Hid (stri zs k = -1) := stri_no (by unfold vt; rw [hv, decide_eq_false (by rw [Hn.out]; omega)]; rfl)
      go_enter Try.func18, Try.ntmps18
      go_wp2_with fail
      refine (iValid_any A c n zs w B hr Hn.out (by omega)).mono ?_
      rintro e w' ⟨rfl, rfl⟩
      go_wp2
      go_ret
      exact ⟨ret_int Hs.out.symm, rfl⟩
    · have h7' : n ≤ 7 := by omega
      by_cases hf : k < 1 ∨ 4 < k
      · have Hs : Hid (stri zs k = -1) := stri_no (by unfold vt; rw [vk_no hf]; simp)
        clear h7
        go_enter Try.func18, Try.ntmps18
        go_wp2_with fail
        refine (iValid_any A c n zs w B hr Hn.out (by omega)).mono ?_
        rintro e w' ⟨rfl, rfl⟩
        go_wp2_with (go_at_call 38; refine (validHelpers_no _ _ hf).mono ?_; rintro e w' ⟨rfl, rfl⟩)
        go_ret
        exact ⟨ret_int Hs.out.symm, rfl⟩
      · have h1 : 1 ≤ k := by omega
        have h2 : k ≤ 4 := by omega
        clear hf h7
        obtain ⟨m, Hm⟩ : ∃ m, Hid (min k.toNat n = m) := ⟨_, rfl⟩
        have Hs : Hid (stri zs k = tmin zs n m (2 ^ n)) := by
          have h := stri_yes (zs := zs) (k := k) (by unfold vt; rw [hv, vk_yes h1 h2, decide_eq_true (by rw [Hn.out]; exact h7')]; rfl)
          rw [Hn.out, Hm.out] at h
          exact h
        go_enter Try.func18, Try.ntmps18
        go_wp2_with fail
        refine (iValid_any A c n zs w B hr Hn.out (by omega)).mono ?_
        rintro e w' ⟨rfl, rfl⟩
        have Hv := Lib.hid hv
        go_upto_block 0 with (go_at_call 38; refine (validHelpers_yes _ _ h1 h2).mono ?_; rintro e w' ⟨rfl, rfl⟩)
        clear hv
        obtain ⟨P, HP⟩ : ∃ P : Nat, Hid ((2 : Nat) ^ n = P) := ⟨2 ^ n, rfl⟩
        have hP : P ≤ 128 := by rw [← HP.out]; exact Nat.pow_le_pow_right (by omega) h7'
        have em : (if (n : Int) < k then (n : Int) else k) = (m : Int) := by rw [← Hm.out]; split <;> omega
        have eP : IntKind.u64.wrap ((2 : Int) ^ n) = (P : Int) := by
          have : ((2 : Int) ^ n) = (P : Int) := by rw [← HP.out]; simp
          rw [this, IntKind.wrap_u64]; omega
        rw [em, eP]
        rw [HP.out] at Hs
        clear em eP
        go_wp2_with fail
        go_loop [6, 28] (fun t i => ∃ s : Nat, s ≤ P ∧ i = .int .u64 s ∧ t = .int .i64 (tmin zs n m s)) (fun _ i => P - (intOf i).toNat)
        case atStart => exact ⟨0, Nat.zero_le _, rfl, rfl⟩
        case round =>
          obtain ⟨s, hs, rfl, rfl⟩ := hrel
          obtain ⟨t, Ht⟩ : ∃ t, Hid (tmin zs n m s = t) := ⟨_, rfl⟩
          have htb := tmin_bd zs n m s
          rw [Ht.out] at htb ⊢
          by_cases hlt : s < P
          · have hs128 : s < 128 := by omega
            obtain ⟨bc, Hbc⟩ : ∃ bc, Hid ((bitsOf s).length = bc) := ⟨_, rfl⟩
            have H1 := Lib.hid (ones_small s hs128 w)
            rw [Hbc.out] at H1
            by_cases hbm : bc = m
            · subst hbm
              obtain ⟨u, Hu⟩ : ∃ u, Hid (tsum zs s n n = u) := ⟨_, rfl⟩
              have hub := tsum_bd zs s n n
              rw [Hu.out] at hub
              have H2 := Lib.hid (sumToSet_any A c n s zs w B hr Hn.out h7' Hbd.out hs128)
              rw [Hu.out] at H2
              have Hnx := Lib.hid (tmin_yes Hbc.out Ht.out Hu.out)
              have hbb : (((bc : Nat) : Int) == ((bc : Nat) : Int)) = true := by simp
              go_wp2_with fail
              refine H1.out.mono ?_
              rintro e w' ⟨rfl, rfl⟩
              go_wp2_with fail
              refine H2.out.mono ?_
              rintro e w' ⟨rfl, rfl⟩
              go_wp2
              go_round
              case rel => exact ⟨s + 1, by omega, by go_num, by rw [Hnx.out, if_min]⟩
              case measure => simp [intOf]; omega
            · have Hnx := Lib.hid (tmin_no (by rw [Hbc.out]; exact hbm) Ht.out)
              have hbb : (((bc : Nat) : Int) == ((m : Nat) : Int)) = false := by rw [beq_eq_false_iff_ne]; omega
              clear hbm
              go_wp2_with fail
              refine H1.out.mono ?_
              rintro e w' ⟨rfl, rfl⟩
              go_wp2
              go_round
              case rel => exact ⟨s + 1, by omega, by go_num, by rw [Hnx.out]⟩
              case measure => simp [intOf]; omega
          · obtain rfl : s = P := by omega
            go_wp2
            go_ret
            exact ⟨ret_int (by rw [Hs.out, Ht.out]), rfl⟩
  · have hv' : vh zs = false := by simpa using hv
    have Hs : Hid (stri zs k = -1) := stri_no (by unfold vt; rw [hv']; rfl)
    clear hv
    go_enter Try.func18, Try.ntmps18
    go_wp2_with fail
    refine (iValid_any A c n zs w B hr Hn.out (by omega)).mono ?_
    rintro e w' ⟨rfl, rfl⟩
    go_wp2
    go_ret
    exact ⟨ret_int Hs.out.symm, rfl⟩
end Go.Proofs.Ytoohfipicmdohab
