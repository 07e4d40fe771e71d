/-
  Sums of how far homes are from a place: the program's sumToMiddle, the model's sumNear.
  Conditions: at most 1000 numbers, each in -1000..1000.
-/
import Derived.Test.YtoohfipicmdohabGP
import Derived.Test.YtoohfipicmdohabL1
import Derived.Test.YtoohfipicmdohabE0
namespace Go.Proofs.Ytoohfipicmdohab
open Go.ChangeShapes Go.WideShapes Go.ChangeAt Go.RowKit
set_option linter.unusedVariables false

def sumNear (l : List Int) (p : Int) : Int := (l.map (fun x => gapI x p)).sum
theorem sumNear_snoc (l : List Int) (x p : Int) : sumNear (l ++ [x]) p = sumNear l p + gapI x p := by simp [sumNear]
theorem sumNear_nil (p : Int) : sumNear [] p = 0 := rfl
theorem sumNear_cons (x : Int) (l : List Int) (p : Int) : sumNear (x :: l) p = gapI x p + sumNear l p := by simp [sumNear]
theorem sumNear_bd {l : List Int} {p M : Int} (hl : ∀ x ∈ l, -M ≤ x ∧ x ≤ M) (h3 : -M ≤ p) (h4 : p ≤ M) : 0 ≤ sumNear l p ∧ sumNear l p ≤ 2 * M * l.length := by
  induction l with
  | nil => simp [sumNear]
  | cons x r ih =>
    have h := ih (fun y hy => hl y (by simp [hy]))
    have hx := hl x (by simp)
    have h1 := gapI_nonneg x p
    have h2 := gapI_le hx.1 hx.2 h3 h4
    rw [sumNear_cons, List.length_cons]
    refine ⟨by omega, ?_⟩
    have : 2 * M * ((r.length + 1 : Nat) : Int) = 2 * M * (r.length : Int) + 2 * M := by
      rw [Int.natCast_add, Int.mul_add]; simp
    omega
theorem take_snoc' {zs : List Int} {j : Nat} {x : Int} (hj : j < zs.length) (hx : zs.getD j 0 = x) : zs.take (j + 1) = zs.take j ++ [x] := by
  rw [List.take_succ_eq_append_getElem hj, ← hx]
  simp [List.getD, List.getElem?_eq_getElem hj]
theorem sumNear_take {zs : List Int} {j : Nat} {x p : Int} (hj : j < zs.length) (hx : zs.getD j 0 = x) : sumNear (zs.take (j + 1)) p = sumNear (zs.take j) p + gapI x p := by
  rw [take_snoc' hj hx, sumNear_snoc]

def InBd (zs : List Int) : Prop := ∀ x ∈ zs, -1000 ≤ x ∧ x ≤ 1000
theorem InBd.get {zs : List Int} (h : InBd zs) {k : Nat} {x : Int} (hk : k < zs.length) (hx : zs.getD k 0 = x) : -1000 ≤ x ∧ x ≤ 1000 := by
  refine h x ?_
  rw [← hx]; simp [List.getD, List.getElem?_eq_getElem hk]

set_option maxHeartbeats 400000 in
theorem sumToMiddle_any (A : Option Addr) (c n : Nat) (zs : List Int) (w : World) (B : Nat) (hr : RdI w B A zs) (hn : zs.length = n) (hb : n ≤ 1000) (hn1 : 1 ≤ n) (hbd : InBd zs) :
    Calls Try.prog 55 #[.slice A n c] w fun e w' => e = .returned (.int .i64 (sumNear zs (zs.getD (n / 2) 0))) ∧ w = w' := by
  have Hn := Lib.hid hn
  have Hbd := Lib.hid hbd
  clear hn hbd
  have hn2 : n / 2 < n := by omega
  obtain ⟨b, off, p, rfl, hbw, Hp, hcp⟩ := hr.x (k := n / 2) (by rw [Hn.out]; exact hn2)
  obtain ⟨hp1, hp2⟩ := Hbd.out.get (by rw [Hn.out]; exact hn2) Hp.out
  rw [Hp.out]
  go_enter Try.func55, Try.ntmps55
  go_wp2
  go_loop [4, 15] (fun s i => ∃ k : Nat, ∃ t : Int, k ≤ n ∧ 0 ≤ t ∧ t ≤ 2000 * k ∧ Hid (sumNear (zs.take k) p = t) ∧ i = .int .i64 k ∧ s = .int .i64 t) (fun _ i => n - (intOf i).toNat)
  case atStart => exact ⟨0, 0, Nat.zero_le _, by omega, by omega, rfl, rfl, rfl⟩
  case round =>
    obtain ⟨k, t, hk, ht0, ht1, Ht, rfl, rfl⟩ := hrel
    by_cases hlt : k < n
    · obtain ⟨b', off', x, he, _, Hx, hc⟩ := hr.x (k := k) (by rw [Hn.out]; exact hlt)
      injection he with he
      injection he with he1 he2
      subst he1 he2
      obtain ⟨hx1, hx2⟩ := Hbd.out.get (by rw [Hn.out]; exact hlt) Hx.out
      have hg0 := gapI_nonneg x p
      have hg1 := gapI_le (M := 1000) hx1 hx2 hp1 hp2
      have Hs := Lib.hid (sumNear_take (p := p) (by rw [Hn.out]; exact hlt) Hx.out)
      go_wp2_with (go_at_call 61; refine (distance_any _ _ _ hx1 hx2 hp1 hp2).mono ?_; rintro e w' ⟨rfl, rfl⟩)
      go_round
      case rel => exact ⟨k + 1, t + gapI x p, by omega, by omega, by omega, by rw [← Ht.out]; exact Hs.out, by go_num, rfl⟩
      case measure => simp [intOf]; omega
    · have Hs : Hid (sumNear zs p = t) := by have h := Ht.out; rw [List.take_of_length_le (by rw [Hn.out]; omega)] at h; exact h
      go_wp2
      go_ret
      exact ⟨ret_int Hs.out.symm, rfl⟩

set_option maxHeartbeats 400000 in
theorem sSumNear_any (A : Option Addr) (c n : Nat) (zs : List Int) (p : Int) (w : World) (B : Nat) (hr : RdI w B A zs) (hn : zs.length = n) (hb : n ≤ 1000) (hbd : InBd zs) (hp1 : -1000 ≤ p) (hp2 : p ≤ 1000) :
    Calls Try.prog 58 #[.slice A n c, .int .i64 p] w fun e w' => e = .returned (.int .i64 (sumNear zs p)) ∧ w = w' := by
  have Hn := Lib.hid hn
  have Hbd := Lib.hid hbd
  clear hn hbd
  go_enter Try.func58, Try.ntmps58
  go_wp2
  go_loop [5, 6] (fun s i => ∃ k : Nat, ∃ t : Int, k ≤ n ∧ 0 ≤ t ∧ t ≤ 2000 * k ∧ Hid (sumNear (zs.take k) p = t) ∧ i = .int .i64 k ∧ s = .int .i64 t) (fun _ i => n - (intOf i).toNat)
  case atStart => exact ⟨0, 0, Nat.zero_le _, by omega, by omega, rfl, rfl, rfl⟩
  case round =>
    obtain ⟨k, t, hk, ht0, ht1, Ht, rfl, rfl⟩ := hrel
    by_cases hlt : k < n
    · obtain ⟨b, off, x, rfl, _, Hx, hc⟩ := hr.x (k := k) (by rw [Hn.out]; exact hlt)
      obtain ⟨hx1, hx2⟩ := Hbd.out.get (by rw [Hn.out]; exact hlt) Hx.out
      have hg0 := gapI_nonneg x p
      have hg1 := gapI_le (M := 1000) hx1 hx2 hp1 hp2
      have Hs := Lib.hid (sumNear_take (p := p) (by rw [Hn.out]; exact hlt) Hx.out)
      go_wp2_with (go_at_call 62; refine (gap_any _ _ _ hx1 hx2 hp1 hp2).mono ?_; rintro e w' ⟨rfl, rfl⟩)
      go_round
      case rel => exact ⟨k + 1, t + gapI x p, by omega, by omega, by omega, by rw [← Ht.out]; exact Hs.out, by go_num, rfl⟩
      case measure => simp [intOf]; omega
    · have Hs : Hid (sumNear zs p = t) := by have h := Ht.out; rw [List.take_of_length_le (by rw [Hn.out]; omega)] at h; exact h
      go_wp2
      go_ret
      exact ⟨ret_int Hs.out.symm, rfl⟩
end Go.Proofs.Ytoohfipicmdohab
