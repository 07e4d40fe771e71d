/-
  SweepRound of the program and of the model, walked.
  Conditions: none.
-/
import Derived.Test.YtdkonaaoanggiaaYH
import Derived.Test.YtdkonaaoanggiaaLR
namespace Go.Proofs.Ytdkonaaoanggiaa
open Go.ChangeShapes Go.WideShapes Go.ChangeAt Go.RowKit
set_option linter.unusedVariables false
set_option maxRecDepth 4000

def upY (k : Nat) : List Int := (List.range k).map (fun (i : Nat) => (i : Int))
def dnY (n j : Nat) : List Int := (List.range j).map (fun (i : Nat) => ((n - 2 - i : Nat) : Int))
theorem upY_len (k : Nat) : (upY k).length = k := by simp [upY]
theorem dnY_len (n j : Nat) : (dnY n j).length = j := by simp [dnY]
theorem upY_succ (k : Nat) : upY (k + 1) = upY k ++ [(k : Int)] := by simp [upY, List.range_succ]
theorem dnY_succ (n j : Nat) : dnY n (j + 1) = dnY n j ++ [((n - 2 - j : Nat) : Int)] := by simp [dnY, List.range_succ]
theorem swY_is (n : Nat) : swY n = upY n ++ dnY n (n - 2) := rfl
/-- A row of ints of the call's own, of length L. -/
def OwnY (wr : World) (B : Nat) (g c L : Nat) (xs : List Int) : Prop := xs.length = L ∧ wr.ownsRow B 3 1 (.slice (some ⟨g, 0, none⟩) L c) L (xs.map (Value.int .i64))
theorem ownY_push {w3 : World} {B g3 c3 L : Nat} {xs : List Int} {x : Int} (h : xs.length = L) (ho : w3.ownsRow B 3 1 (.slice (some ⟨g3, 0, none⟩) (L + 1) c3) (L + 1) (xs.map (Value.int .i64) ++ [Value.int .i64 x])) : OwnY w3 B g3 c3 (L + 1) (xs ++ [x]) :=
  ⟨by simp [h], by rw [List.map_append]; exact ho⟩
def UpRel (n B : Nat) (w : World) (o i : Value) (wr : World) : Prop :=
  ∃ k g c : Nat, k ≤ n ∧ o = .slice (some ⟨g, 0, none⟩) k c ∧ i = .int .i64 k ∧ Hid (OwnY wr B g c k (upY k)) ∧ Hid (Below w.heap.size w wr)
def DnRel (n B : Nat) (w : World) (o i : Value) (wr : World) : Prop :=
  ∃ j g c L : Nat, ∃ s : Int, (j ≤ n - 2) ∧ L = n + j ∧ s = (n : Int) - 2 - j ∧ o = .slice (some ⟨g, 0, none⟩) L c ∧ i = .int .i64 s ∧ Hid (OwnY wr B g c L (upY n ++ dnY n j)) ∧ Hid (Below w.heap.size w wr)

set_option maxHeartbeats 1600000 in
theorem iSweepRound_ok : YSweep 35 := by
  intro n w
  obtain ⟨i0, hi0, hz0, hz1, hz2⟩ := info_parts intInfo
  by_cases hn : 1 ≤ n ∧ n ≤ 8
  · have hs : srY n = swY n.toNat := by unfold srY; rw [if_pos hn]
    have hn1 := hn.1
    have hn8 := hn.2
    obtain ⟨n, rfl⟩ := Int.eq_ofNat_of_zero_le (show 0 ≤ n by omega)
    rw [hs, Int.toNat_natCast, swY_is]
    have H1 := Lib.hid (fun W => validSpots_any (n : Int) W)
    have hv : (decide (1 ≤ (n : Int)) && decide ((n : Int) ≤ 8)) = true := by simp; omega
    rw [hv] at H1
    clear hv
    have HO0 : Hid (OwnY (w.alloc (.cells #[] 3)) w.heap.size w.heap.size 0 0 (upY 0)) := ⟨rfl, World.ownsRow_lit w #[] 0 (Nat.le_refl _) (by decide) rfl⟩
    have HB0 : Hid (Below w.heap.size w (w.alloc (.cells #[] 3))) := (Below.refl _ _).alloc (Nat.le_refl _) _
    clear hn hs
    go_enter Try.func35, Try.ntmps35
    go_wp2_with fail
    refine (H1.out w).mono ?_
    rintro e w1 ⟨rfl, rfl⟩
    go_wp2
    go_loopw [3, 11] (fun o i wr => UpRel n w.heap.size w o i wr) (fun _ i _ => n - (intOf i).toNat)
    case atStart => exact ⟨0, _, _, by omega, rfl, rfl, HO0, HB0⟩
    case round =>
      clear HO0 HB0
      obtain ⟨k, g, c, hk, rfl, rfl, HO, HB⟩ := hrel
      by_cases hlt : k < n
      · have Hlen := Lib.hid HO.out.1
        have Hown := Lib.hid HO.out.2
        have hsz : k + 1 ≤ maxLen := by unfold maxLen; omega
        have hsz2 : (k + 1) * 8 ≤ 140737488355328 := by omega
        have hsz3 : w.heap.size ≤ (wr.alloc (.cells #[.int .i64 k] 3)).heap.size := by rw [size_alloc1]; have := HB.out.size; omega
        go_wp2_with (at_builtin; refine wpList_append_lies _ rfl _ _ 23 rfl w.heap.size 3 i0 _ 1 8 Try.underlying23 hi0 hz0 hz1 hz2 rfl (by decide) _ _ _ rfl (Hown.out.alloc _) ⟨wr.heap.size, 0, none⟩ 1 1 [.int .i64 k] rfl rfl (cell_one_new _ _ _) (by intro u hu; simp at hu; subst hu; rfl) (by decide) hsz hsz2 hsz3 _ rfl ?_; intro g3 c3 w3 hown3 hgrow3 hat3 hlt3)
        have HO3 : Hid (OwnY w3 w.heap.size g3 c3 (k + 1) (upY (k + 1))) := by show OwnY _ _ _ _ _ _; rw [upY_succ]; exact ownY_push Hlen.out hown3
        have HB3 : Hid (Below w.heap.size w w3) := (HB.out.alloc HB.out.size _).grown hgrow3 hsz3 (fun q hq => (Hown.out.lt q hq).1)
        clear hown3 hgrow3 hat3 hlt3 Hown HO HB hsz hsz2 hsz3
        go_wp2
        go_roundw
        case rel => exact ⟨k + 1, g3, c3, by omega, rfl, by go_num, HO3, HB3⟩
        case measure => simp [intOf]; omega
      · obtain rfl : k = n := by omega
        have HD : Hid (OwnY wr w.heap.size g c k (upY k ++ dnY k 0)) := by show OwnY _ _ _ _ _ _; rw [show dnY k 0 = [] from rfl, List.append_nil]; exact HO.out
        clear HO
        go_wp2
        go_loopw [3, 5] (fun o i wr => DnRel k w.heap.size w o i wr) (fun _ i _ => (intOf i).toNat)
        case atStart => exact ⟨0, g, c, k, _, by omega, by omega, rfl, rfl, by go_num, HD, HB⟩
        case round =>
          clear HD HB
          obtain ⟨j, g, c, L, s, hj, hL, hs, rfl, rfl, HO, HB⟩ := hrel
          by_cases hpos : 0 < s
          · have Hlen := Lib.hid HO.out.1
            have Hown := Lib.hid HO.out.2
            have hsz : L + 1 ≤ maxLen := by unfold maxLen; omega
            have hsz2 : (L + 1) * 8 ≤ 140737488355328 := by omega
            have hsz3 : w.heap.size ≤ (wr.alloc (.cells #[.int .i64 s] 3)).heap.size := by rw [size_alloc1]; have := HB.out.size; omega
            have Hs := Lib.hid hs
            have HL := Lib.hid hL
            have hs8 : s ≤ 8 := by omega
            have hj2 : j + 1 ≤ k - 2 := by omega
            clear hs hL
            go_wp2_with (at_builtin; refine wpList_append_lies _ rfl _ _ 23 rfl w.heap.size 3 i0 _ 1 8 Try.underlying23 hi0 hz0 hz1 hz2 rfl (by decide) _ _ _ rfl (Hown.out.alloc _) ⟨wr.heap.size, 0, none⟩ 1 1 [.int .i64 s] rfl rfl (cell_one_new _ _ _) (by intro u hu; simp at hu; subst hu; rfl) (by decide) hsz hsz2 hsz3 _ rfl ?_; intro g3 c3 w3 hown3 hgrow3 hat3 hlt3)
            have HO3 : Hid (OwnY w3 w.heap.size g3 c3 (L + 1) (upY k ++ dnY k (j + 1))) := by
              show OwnY _ _ _ _ _ _
              rw [dnY_succ, ← List.append_assoc, show ((k - 2 - j : Nat) : Int) = s by have := Hs.out; omega]
              exact ownY_push Hlen.out hown3
            have HB3 : Hid (Below w.heap.size w w3) := (HB.out.alloc HB.out.size _).grown hgrow3 hsz3 (fun q hq => (Hown.out.lt q hq).1)
            clear hown3 hgrow3 hat3 hlt3 Hown HO HB hsz hsz2 hsz3
            go_wp2
            go_roundw
            case rel => exact ⟨j + 1, g3, c3, L + 1, s - 1, hj2, by have := HL.out; omega, by have := Hs.out; omega, rfl, by go_num, HO3, HB3⟩
            case measure => simp [intOf]; omega
          · have hjk : j = k - 2 := by omega
            have HE : Hid (RowIs (upY k ++ dnY k (k - 2)) w (.returned (.slice (some ⟨g, 0, none⟩) L c)) wr) := by
              rw [← hjk]
              have h1 := HO.out.1
              exact ⟨_, _, by rw [h1], by rw [h1]; exact HO.out.2, HB⟩
            clear hjk hs hL HO
            go_wp2
            go_ret
            exact HE.out
  · have hs : srY n = [] := by unfold srY; rw [if_neg hn]
    rw [hs]
    have H1 := Lib.hid (fun W => validSpots_any n W)
    have hv : (decide (1 ≤ n) && decide (n ≤ 8)) = false := by
      rw [Bool.and_eq_false_iff, decide_eq_false_iff_not, decide_eq_false_iff_not]
      rcases (show ¬ 1 ≤ n ∨ ¬ n ≤ 8 by omega) with h | h
      · exact .inl h
      · exact .inr h
    rw [hv] at H1
    clear hv
    clear hn hs
    go_enter Try.func35, Try.ntmps35
    go_wp2_with fail
    refine (H1.out w).mono ?_
    rintro e w1 ⟨rfl, rfl⟩
    go_wp2
    go_ret
    exact rowIs_nil _ _ (Below.refl _ _)

set_option maxHeartbeats 1600000 in
theorem sSweepRound_ok : YSweep 36 := by
  intro n w
  obtain ⟨i0, hi0, hz0, hz1, hz2⟩ := info_parts intInfo
  by_cases hn : 1 ≤ n ∧ n ≤ 8
  · have hs : srY n = swY n.toNat := by unfold srY; rw [if_pos hn]
    have hn1 := hn.1
    have hn8 := hn.2
    obtain ⟨n, rfl⟩ := Int.eq_ofNat_of_zero_le (show 0 ≤ n by omega)
    rw [hs, Int.toNat_natCast, swY_is]
    have H1 := Lib.hid (fun W => inRange_yes (n : Int) 1 8 W (by omega) (by omega))
    have HO0 : Hid (OwnY (w.alloc (.cells #[] 3)) w.heap.size w.heap.size 0 0 (upY 0)) := ⟨rfl, World.ownsRow_lit w #[] 0 (Nat.le_refl _) (by decide) rfl⟩
    have HB0 : Hid (Below w.heap.size w (w.alloc (.cells #[] 3))) := (Below.refl _ _).alloc (Nat.le_refl _) _
    clear hn hs
    go_enter Try.func36, Try.ntmps36
    go_wp2_with fail
    refine (H1.out w).mono ?_
    rintro e w1 ⟨rfl, rfl⟩
    go_wp2
    go_loopw [3, 4] (fun o i wr => UpRel n w.heap.size w o i wr) (fun _ i _ => n - (intOf i).toNat)
    case atStart => exact ⟨0, _, _, by omega, rfl, rfl, HO0, HB0⟩
    case round =>
      clear HO0 HB0
      obtain ⟨k, g, c, hk, rfl, rfl, HO, HB⟩ := hrel
      by_cases hlt : k < n
      · have Hlen := Lib.hid HO.out.1
        have Hown := Lib.hid HO.out.2
        have hsz : k + 1 ≤ maxLen := by unfold maxLen; omega
        have hsz2 : (k + 1) * 8 ≤ 140737488355328 := by omega
        have hsz3 : w.heap.size ≤ (wr.alloc (.cells #[.int .i64 k] 3)).heap.size := by rw [size_alloc1]; have := HB.out.size; omega
        go_wp2_with (at_builtin; refine wpList_append_lies _ rfl _ _ 23 rfl w.heap.size 3 i0 _ 1 8 Try.underlying23 hi0 hz0 hz1 hz2 rfl (by decide) _ _ _ rfl (Hown.out.alloc _) ⟨wr.heap.size, 0, none⟩ 1 1 [.int .i64 k] rfl rfl (cell_one_new _ _ _) (by intro u hu; simp at hu; subst hu; rfl) (by decide) hsz hsz2 hsz3 _ rfl ?_; intro g3 c3 w3 hown3 hgrow3 hat3 hlt3)
        have HO3 : Hid (OwnY w3 w.heap.size g3 c3 (k + 1) (upY (k + 1))) := by show OwnY _ _ _ _ _ _; rw [upY_succ]; exact ownY_push Hlen.out hown3
        have HB3 : Hid (Below w.heap.size w w3) := (HB.out.alloc HB.out.size _).grown hgrow3 hsz3 (fun q hq => (Hown.out.lt q hq).1)
        clear hown3 hgrow3 hat3 hlt3 Hown HO HB hsz hsz2 hsz3
        go_wp2
        go_roundw
        case rel => exact ⟨k + 1, g3, c3, by omega, rfl, by go_num, HO3, HB3⟩
        case measure => simp [intOf]; omega
      · obtain rfl : k = n := by omega
        have HD : Hid (OwnY wr w.heap.size g c k (upY k ++ dnY k 0)) := by show OwnY _ _ _ _ _ _; rw [show dnY k 0 = [] from rfl, List.append_nil]; exact HO.out
        clear HO
        go_wp2
        go_loopw [3, 5] (fun o i wr => DnRel k w.heap.size w o i wr) (fun _ i _ => (intOf i).toNat)
        case atStart => exact ⟨0, g, c, k, _, by omega, by omega, rfl, rfl, by go_num, HD, HB⟩
        case round =>
          clear HD HB
          obtain ⟨j, g, c, L, s, hj, hL, hs, rfl, rfl, HO, HB⟩ := hrel
          by_cases hpos : 0 < s
          · have Hlen := Lib.hid HO.out.1
            have Hown := Lib.hid HO.out.2
            have hsz : L + 1 ≤ maxLen := by unfold maxLen; omega
            have hsz2 : (L + 1) * 8 ≤ 140737488355328 := by omega
            have hsz3 : w.heap.size ≤ (wr.alloc (.cells #[.int .i64 s] 3)).heap.size := by rw [size_alloc1]; have := HB.out.size; omega
            have Hs := Lib.hid hs
            have HL := Lib.hid hL
            have hs8 : s ≤ 8 := by omega
            have hj2 : j + 1 ≤ k - 2 := by omega
            clear hs hL
            go_wp2_with (at_builtin; refine wpList_append_lies _ rfl _ _ 23 rfl w.heap.size 3 i0 _ 1 8 Try.underlying23 hi0 hz0 hz1 hz2 rfl (by decide) _ _ _ rfl (Hown.out.alloc _) ⟨wr.heap.size, 0, none⟩ 1 1 [.int .i64 s] rfl rfl (cell_one_new _ _ _) (by intro u hu; simp at hu; subst hu; rfl) (by decide) hsz hsz2 hsz3 _ rfl ?_; intro g3 c3 w3 hown3 hgrow3 hat3 hlt3)
            have HO3 : Hid (OwnY w3 w.heap.size g3 c3 (L + 1) (upY k ++ dnY k (j + 1))) := by
              show OwnY _ _ _ _ _ _
              rw [dnY_succ, ← List.append_assoc, show ((k - 2 - j : Nat) : Int) = s by have := Hs.out; omega]
              exact ownY_push Hlen.out hown3
            have HB3 : Hid (Below w.heap.size w w3) := (HB.out.alloc HB.out.size _).grown hgrow3 hsz3 (fun q hq => (Hown.out.lt q hq).1)
            clear hown3 hgrow3 hat3 hlt3 Hown HO HB hsz hsz2 hsz3
            go_wp2
            go_roundw
            case rel => exact ⟨j + 1, g3, c3, L + 1, s - 1, hj2, by have := HL.out; omega, by have := Hs.out; omega, rfl, by go_num, HO3, HB3⟩
            case measure => simp [intOf]; omega
          · have hjk : j = k - 2 := by omega
            have HE : Hid (RowIs (upY k ++ dnY k (k - 2)) w (.returned (.slice (some ⟨g, 0, none⟩) L c)) wr) := by
              rw [← hjk]
              have h1 := HO.out.1
              exact ⟨_, _, by rw [h1], by rw [h1]; exact HO.out.2, HB⟩
            clear hjk hs hL HO
            go_wp2
            go_ret
            exact HE.out
  · have hs : srY n = [] := by unfold srY; rw [if_neg hn]
    rw [hs]
    have H1 := Lib.hid (fun W => inRange_no n 1 8 W (by omega))
    clear hn hs
    go_enter Try.func36, Try.ntmps36
    go_wp2_with fail
    refine (H1.out w).mono ?_
    rintro e w1 ⟨rfl, rfl⟩
    go_wp2
    go_ret
    exact rowIs_nil _ _ (Below.refl _ _)
end Go.Proofs.Ytdkonaaoanggiaa
