/-
  sumToSet: how far homes are, in sum, from the nearest home of a set.
  Conditions: at most seven homes, each in -1000..1000; the set below 128.
-/
import Derived.Test.YtoohfipicmdohabS1
import Derived.Test.YtoohfipicmdohabK7
namespace Go.Proofs.Ytoohfipicmdohab
open Go.ChangeShapes Go.WideShapes Go.ChangeAt Go.RowKit
set_option linter.unusedVariables false

def nearB (zs : List Int) (s : Nat) (h : Int) : Nat → Int
  | 0 => 501
  | i + 1 => if s.testBit i then min (nearB zs s h i) (gapI h (zs.getD i 0)) else nearB zs s h i
def tsum (zs : List Int) (s : Nat) (n : Nat) : Nat → Int
  | 0 => 0
  | j + 1 => tsum zs s n j + nearB zs s (zs.getD j 0) n
theorem nearB_bd (zs : List Int) (s : Nat) (h : Int) : ∀ i, 0 ≤ nearB zs s h i ∧ nearB zs s h i ≤ 501
  | 0 => by simp [nearB]
  | i + 1 => by
    have ih := nearB_bd zs s h i
    have hg := gapI_nonneg h (zs.getD i 0)
    simp only [nearB]
    split <;> omega
theorem tsum_bd (zs : List Int) (s n : Nat) : ∀ j, 0 ≤ tsum zs s n j ∧ tsum zs s n j ≤ 501 * j
  | 0 => by simp [tsum]
  | j + 1 => by
    have ih := tsum_bd zs s n j
    have := nearB_bd zs s (zs.getD j 0) n
    simp only [tsum]
    omega
theorem nearB_yes {zs : List Int} {s i : Nat} {h x t : Int} (hx : zs.getD i 0 = x) (ht : nearB zs s h i = t) (hb : s.testBit i = true) : nearB zs s h (i + 1) = min t (gapI h x) := by
  simp only [nearB, hb, hx, ht, if_true]
theorem nearB_no {zs : List Int} {s i : Nat} {h t : Int} (ht : nearB zs s h i = t) (hb : s.testBit i = false) : nearB zs s h (i + 1) = t := by
  simp only [nearB, hb, ht]; rfl

theorem bit_all : ∀ s : Fin 128, ∀ i : Fin 7, (bits BinOp.and IntKind.u64 ((s.val : Int) / 2 ^ i.val) 1 == 1) = s.val.testBit i.val := by decide +kernel
theorem bit_test {s i : Nat} (hs : s < 128) (hi : i < 7) : (bits BinOp.and IntKind.u64 ((s : Int) / 2 ^ i) 1 == 1) = s.testBit i := bit_all ⟨s, hs⟩ ⟨i, hi⟩

set_option maxHeartbeats 1000000 in
theorem sumToSet_any (A : Option Addr) (c n s : Nat) (zs : List Int) (w : World) (B : Nat) (hr : RdI w B A zs) (hn : zs.length = n) (hb : n ≤ 7) (hbd : InBd zs) (hs : s < 128) :
    Calls Try.prog 46 #[.slice A n c, .int .u64 s] w fun e w' => e = .returned (.int .i64 (tsum zs s n n)) ∧ w = w' := by
  have Hn := Lib.hid hn
  have Hbd := Lib.hid hbd
  clear hn hbd
  go_enter Try.func46, Try.ntmps46
  go_wp2
  go_loop [5, 13] (fun t i => ∃ j : Nat, j ≤ n ∧ i = .int .i64 j ∧ t = .int .i64 (tsum zs s n j)) (fun _ i => n - (intOf i).toNat)
  case atStart => exact ⟨0, Nat.zero_le _, rfl, rfl⟩
  case round =>
    obtain ⟨j, hj, rfl, rfl⟩ := hrel
    have htb := tsum_bd zs s n j
    by_cases hlt : j < n
    · obtain ⟨b, off, h, rfl, hbw, Hh, hch⟩ := hr.x (k := j) (by rw [Hn.out]; exact hlt)
      obtain ⟨hh1, hh2⟩ := Hbd.out.get (by rw [Hn.out]; exact hlt) Hh.out
      have hnb := nearB_bd zs s h n
      go_wp2
      go_loop [8, 19] (fun t i => ∃ i' : Nat, ∃ u : Int, i' ≤ n ∧ i = .int .i64 i' ∧ Hid (nearB zs s h i' = u) ∧ 0 ≤ u ∧ u ≤ 501 ∧ t = .int .i64 u) (fun _ i => n - (intOf i).toNat)
      case atStart => exact ⟨0, 501, Nat.zero_le _, rfl, rfl, by omega, by omega, rfl⟩
      case round =>
        obtain ⟨i, u, hi, rfl, Hu, hu0, hu1, rfl⟩ := hrel
        by_cases hil : i < n
        · obtain ⟨b', off', x, he, _, Hx, hcx⟩ := hr.x (k := i) (by rw [Hn.out]; exact hil)
          injection he with he
          injection he with he1 he2
          subst he1 he2
          obtain ⟨hx1, hx2⟩ := Hbd.out.get (by rw [Hn.out]; exact hil) Hx.out
          have hbt := bit_test hs (show i < 7 by omega)
          have hg0 := gapI_nonneg h x
          have hg1 := gapI_le (M := 1000) hh1 hh2 hx1 hx2
          cases hti : s.testBit i with
          | true =>
            rw [hti] at hbt
            have Hnx := Lib.hid (nearB_yes Hx.out Hu.out hti)
            clear hti
            go_wp2_with (go_at_call 61; refine (distance_any _ _ _ hh1 hh2 hx1 hx2).mono ?_; rintro e w' ⟨rfl, rfl⟩)
            go_round
            case rel => exact ⟨i + 1, min u (gapI h x), by omega, by go_num, Hnx.out, by omega, by omega, by rw [if_min]⟩
            case measure => simp [intOf]; omega
          | false =>
            rw [hti] at hbt
            have Hnx := Lib.hid (nearB_no Hu.out hti)
            clear hti
            go_wp2
            go_round
            case rel => exact ⟨i + 1, u, by omega, by go_num, Hnx.out, hu0, hu1, rfl⟩
            case measure => simp [intOf]; omega
        · obtain rfl : i = n := by omega
          have hts : tsum zs s i (j + 1) = tsum zs s i j + u := by simp only [tsum]; rw [Hh.out, Hu.out]
          have Hts := Lib.hid hts
          clear hts
          go_wp2
          go_round
          case rel => exact ⟨j + 1, by omega, by go_num, by rw [Hts.out]⟩
          case measure => simp [intOf]; omega
    · obtain rfl : j = n := by omega
      go_wp2
      go_ret
      exact ⟨rfl, rfl⟩
end Go.Proofs.Ytoohfipicmdohab
