/-
  The drawn arguments of the laws on lines: a list of at most ten numbers, and a number.
  Conditions: none beyond what each theorem states.
  The law FnValidHomes: homes without the last one are homes.
  Conditions: none.
-/
import Derived.Test.YtoohfipicmdohacZ2
import Derived.Test.YtoohfipicmdohacZ11
namespace Go.Proofs.Ytoohfipicmdohac
open Go.ChangeShapes Go.WideShapes Go.ChangeAt Go.RowKit
set_option linter.unusedVariables false

theorem drawValidHomes_any (A : Option Addr) (c n : Nat) (bs : List Int) (w : World) (hr : RdB w w.heap.size A bs) (hn : bs.length = n) (hc : n ≤ c) (hm : c ≤ 9223372036854775807) :
    Calls Try.prog 10 #[.slice A n c] w (DrawnList w) := by
  have H := Lib.hid (newReader_any A c n bs w hr hn hc hm)
  clear hn
  go_enter Try.func10, Try.ntmps10
  go_wp2_with fail
  refine H.out.mono ?_
  rintro e w1 ⟨rfl, hg1, hnx1⟩
  go_wp2_with fail
  refine (someHomes_any w.heap.size w.heap.size 0 10 w1 hg1 (by omega) (by omega) (by omega)).mono ?_
  rintro e w2 ⟨v, xs, rfl, hl, hx, hown, hg2, hgb2⟩
  obtain ⟨A', c', rfl, hc1, hc2, hrd⟩ := own_slice hown rfl
  go_wp2
  go_ret
  exact ⟨A', c', xs, rfl, hl, hc1, hc2, hrd, hnx1.trans (gb_below hgb2 (Nat.le_refl _) hnx1.size)⟩

end Go.Proofs.Ytoohfipicmdohac
namespace Go.Proofs.Ytoohfipicmdohac
open Go.ChangeShapes Go.WideShapes Go.ChangeAt Go.RowKit
set_option linter.unusedVariables false

theorem okFrom_take {zs : List Int} : ∀ {a : Int} {k : Nat}, okFrom a zs = true → okFrom a (zs.take k) = true := by
  induction zs with
  | nil => intro a k _; simp [okFrom]
  | cons x r ih =>
    intro a k h
    cases k with
    | zero => rfl
    | succ k =>
      simp only [okFrom, Bool.and_eq_true, decide_eq_true_eq, List.take_succ_cons] at h ⊢
      exact ⟨h.1, h.2.1, ih h.2.2⟩
theorem vh_take {zs : List Int} {k : Nat} (h : vh zs = true) : vh (zs.take k) = true := by
  unfold vh at h ⊢
  simp only [Bool.and_eq_true, decide_eq_true_eq] at h ⊢
  exact ⟨by rw [List.length_take]; omega, okFrom_take h.2⟩

theorem lawValidHomes_walk (A : Option Addr) (c : Nat) (bs : List Int) (w : World) (hr : RdB w w.heap.size A bs) (hcap : bs.length ≤ c) (hm : c ≤ maxLen) :
    Calls Try.prog 3 #[.slice A bs.length c] w fun e w' => e = .returned (.bool true) ∧ Below w.heap.size w w' := by
  unfold maxLen at hm
  by_cases hb : 1048576 < bs.length
  · go_enter Try.func3, Try.ntmps3
    go_wp2
    go_ret
    exact ⟨rfl, Below.refl _ _⟩
  · have H := Lib.hid (drawValidHomes_any A c bs.length bs w hr rfl hcap hm)
    go_enter Try.func3, Try.ntmps3
    go_wp2_with fail
    refine H.out.mono ?_
    rintro e w1 ⟨A', c', xs, rfl, hl, hc1, hc2, hrd, hnx⟩
    go_wp2_with fail
    refine (iValid_any A' c' xs.length xs w1 _ hrd rfl (by omega)).mono ?_
    rintro e w' ⟨rfl, rfl⟩
    go_wp2_with fail
    refine (sValidHomes_any A' c' xs.length xs w1 _ hrd rfl (by omega)).mono ?_
    rintro e w' ⟨rfl, q, rfl⟩
    by_cases hv : vh xs = true
    · by_cases hz : xs.length = 0
      · have hzb : (((xs.length : Nat) : Int) == 0) = true := by rw [beq_iff_eq]; omega
        have Hz := Lib.hid hz
        clear hz
        go_wp2
        go_ret
        exact ⟨rfl, below_drewN hnx _⟩
      · have hzb : (((xs.length : Nat) : Int) == 0) = false := by rw [beq_eq_false_iff_ne]; omega
        obtain ⟨n, Hn⟩ : ∃ n, Hid (xs.length = n + 1) := ⟨xs.length - 1, by show xs.length = _; omega⟩
        have Hv2 := Lib.hid (vh_take (k := n) hv)
        rw [Hn.out] at hzb hc1 hl ⊢
        clear hz
        go_wp2_with fail
        refine (iValid_any A' c' n (xs.take n) (w1.drewN q) _ (hrd.take n) (by rw [List.length_take, Hn.out]; omega) (by omega)).mono ?_
        rintro e w' ⟨rfl, rfl⟩
        rw [Hv2.out]
        go_wp2
        go_ret
        exact ⟨rfl, below_drewN hnx _⟩
    · have hv' : vh xs = false := by simpa using hv
      clear hv
      go_wp2_with fail
      refine (sValidHomes_any A' c' xs.length xs (w1.drewN q) _ hrd rfl (by omega)).mono ?_
      rintro e w' ⟨rfl, q2, rfl⟩
      go_wp2
      go_ret
      exact ⟨rfl, below_drewN hnx _⟩
end Go.Proofs.Ytoohfipicmdohac
