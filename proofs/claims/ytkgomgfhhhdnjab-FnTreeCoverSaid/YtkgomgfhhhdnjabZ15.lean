/-
  A tree's roads as streets (the laws' streetsOf).
  Conditions: fewer than 2^40 roads.
  ValidTree: the program and the model answer the same.
  Conditions: fewer than 2^60 roads.
  Slices of roads in the exact laws: how many there may be, their copy, their comparison.
  Conditions: the slice is shorter than 2^20 elements.
  A tree drawn, people drawn.
  Conditions: none beyond what each theorem states.
  A walk over a tree from node to node: which nodes it visits, with which way.
  Conditions: each node's road goes to a node ahead of it.
-/
import Derived.Test.YtkgomgfhhhdnjabZ2
import Derived.Test.YtkgomgfhhhdnjabZ5
import Derived.Test.YtkgomgfhhhdnjabZ0
import Derived.Test.YtkgomgfhhhdnjabZ1
import Derived.Deep.RegionHeld3
import Derived.Deep.AppendLies
import Derived.Deep.RegionWith
namespace Go.Proofs.Ytkgomgfhhhdnjab
open Go.ChangeShapes Go.WideShapes Go.ChangeAt Go.RowKit
set_option linter.unusedVariables false
set_option maxRecDepth 4000

set_option maxHeartbeats 1600000 in
theorem streetsOf_any (A : Option Addr) (c n : Nat) (ts : List (Int × Int)) (w : World) (hr : RdR w w.heap.size A ts) (hn : ts.length = n) (hb : n ≤ 1099511627776) :
    Calls Try.prog 24 #[.slice A n c] w fun e w' => ∃ A' c', e = .returned (.slice A' (n - 1) c') ∧ n - 1 ≤ c' ∧ c' ≤ 9223372036854775807 ∧ RdS w' w'.heap.size A' (strOf ts) ∧ Below w.heap.size w w' := by
  obtain ⟨i0, hi0, hz0, hz1, hz2⟩ := info_parts strInfo
  have Hn := Lib.hid hn
  have Hr := Lib.hid hr
  have HO0 : Hid ((w.alloc (.cells #[] 74)).ownsRow w.heap.size 74 3 (.slice (some ⟨w.heap.size, 0, none⟩) 0 0) (strOf (ts.take 1)).length ((flat3 (strOf (ts.take 1))).map (Value.int .i64))) := by
    show World.ownsRow _ _ _ _ _ _ _
    have h0 : strOf (ts.take 1) = [] := by apply List.eq_nil_of_length_eq_zero; rw [strOf_len, List.length_take]; omega
    rw [h0]
    exact World.ownsRow_lit w #[] 0 (Nat.le_refl _) (by decide) rfl
  have HB0 := Lib.hid ((Below.refl w.heap.size w).alloc (Nat.le_refl _) (.cells #[] 74))
  clear hn hr
  go_enter Try.func24, Try.ntmps24
  go_wp2
  go_loopw [3, 4] (fun o i wr => ∃ k : Nat, 1 ≤ k ∧ k ≤ n + 1 ∧ i = .int .i64 k ∧ Hid (wr.ownsRow w.heap.size 74 3 o (strOf (ts.take k)).length ((flat3 (strOf (ts.take k))).map (Value.int .i64))) ∧ Hid (Below w.heap.size w wr)) (fun _ i _ => n + 1 - (intOf i).toNat)
  case atStart => exact ⟨1, Nat.le_refl _, by omega, rfl, HO0, HB0⟩
  case round =>
    clear HO0 HB0
    obtain ⟨k, hk1, hkn, rfl, HO, HB⟩ := hrel
    by_cases hlt : k < n
    · have hsl : (strOf (ts.take k)).length = k - 1 := by rw [strOf_len, List.length_take, Hn.out]; omega
      have Hsl := Lib.hid hsl
      have HOs := HO
      rw [hsl] at HOs
      obtain ⟨A', c', rfl, hc1, hc2, -⟩ := own_sliceN HOs.out
      obtain ⟨b, off, x, y, rfl, hbw, Hx, hcx, hcy⟩ := (Hr.out.below HB.out).x (k := k) (by rw [Hn.out]; exact hlt)
      have hstep := strOf_step hk1 (by rw [Hn.out]; exact hlt : k < ts.length)
      rw [Hx.out] at hstep
      have Hstep := Lib.hid hstep
      have hws := HB.out.size
      have hsz : k - 1 + 1 ≤ maxLen := by unfold maxLen; omega
      have hsz2 : (k - 1 + 1) * 24 ≤ 140737488355328 := by omega
      have hsz3 : w.heap.size ≤ (wr.alloc (.cells #[.int .i64 k, .int .i64 x, .int .i64 y] 74)).drew.heap.size := by show w.heap.size ≤ (wr.alloc (.cells #[.int .i64 k, .int .i64 x, .int .i64 y] 74)).heap.size; rw [size_alloc1]; omega
      have hne : (Value.slice A' (k - 1) c').ownBlock ≠ some b := fun e => by have := (HOs.out.lt b e).1; omega
      have hbr : b < wr.heap.size := by omega
      clear hsl hstep HO
      go_wp2_with fail
      go_region_held3 (fun w' => w'.cell? ⟨b, off + k * 2, none⟩ = some (.int .i64 x) ∧ w'.cell? ⟨b, off + k * 2 + 1, none⟩ = some (.int .i64 y))
        (first
          | go_keep
          | (go_split_ands
             refine ⟨?_, ?_⟩
             · (rw [hgrow.cell_far _ (by simp; omega) (Ne.symm hne)]; assumption)
             · (rw [hgrow.cell_far _ (by simp; omega) (Ne.symm hne)]; assumption)))
        ((refine step_append_lies _ (by rfl) _ _ _ (by rfl) w.heap.size 74 i0 _ 3 24 Try.underlying31 hi0 hz0 hz1 hz2 rfl (by decide) (.slice A' (k - 1) c') (k - 1) _ (by rfl) ((HOs.out.alloc _).drew)
            ⟨wr.heap.size, 0, none⟩ 1 1 [.int .i64 k, .int .i64 x, .int .i64 y] (by rfl) (by rfl) (World.news_of_block (cs := #[.int .i64 k, .int .i64 x, .int .i64 y]) (t := 74) (fr := (0, 0)) (heap_alloc_new wr _)) (by simp [Value.oneCell'])
            (by omega) hsz hsz2 hsz3 (wr.heap.size + 1) (by simp) ?_; intro gg cap w3 hown' hgrow hat hlt'))
      have HB3 := Lib.hid (((HB.out.alloc HB.out.size _).drew).grown hgrow hsz3 (fun g h => (HOs.out.lt g h).1))
      have HO3 : Hid (w3.ownsRow w.heap.size 74 3 (.slice (some ⟨gg, 0, none⟩) (k - 1 + 1) cap) (strOf (ts.take (k + 1))).length ((flat3 (strOf (ts.take (k + 1)))).map (Value.int .i64))) := by
        show World.ownsRow _ _ _ _ _ _ _
        rw [Hstep.out, List.length_append, Hsl.out, flat3_append, List.map_append]
        exact hown'
      rw [show k - 1 + 1 = k by omega] at HO3
      clear hown' hgrow HOs hsz hsz2 hsz3 hws hcx hcy hne hbr hat hlt'
      go_wp2
      go_roundw
      case rel => exact ⟨k + 1, by omega, by omega, by go_num, HO3, HB3⟩
      case measure => simp [intOf]; omega
    · have ht : ts.take k = ts := List.take_of_length_le (by rw [Hn.out]; omega)
      have hsl : (strOf ts).length = n - 1 := by rw [strOf_len, Hn.out]
      rw [ht, hsl] at HO
      obtain ⟨A', c', rfl, hc1, hc2, hrd⟩ := rdS_own HO.out hsl
      have Hrd := Lib.hid hrd
      clear ht hsl HO hrd
      go_wp2
      go_ret
      exact ⟨A', c', rfl, hc1, hc2, Hrd.out, HB.out⟩
end Go.Proofs.Ytkgomgfhhhdnjab
namespace Go.Proofs.Ytkgomgfhhhdnjab
open Go.ChangeShapes Go.WideShapes Go.ChangeAt Go.RowKit
set_option linter.unusedVariables false

theorem branch_eq {b off c k : Nat} : (if c = k then (some ⟨b, off, none⟩ : Option Addr) else some ⟨b, off + k * 2, none⟩) = some ⟨b, (if c = k then off else off + k * 2), none⟩ := by split <;> rfl

set_option maxHeartbeats 800000 in
theorem iValidTree_any (A : Option Addr) (c n : Nat) (ts : List (Int × Int)) (w : World) (B : Nat) (hr : RdR w B A ts) (hn : ts.length = n) (hc : n ≤ c) (hb : n ≤ 1152921504606846976) (hB : B ≤ w.heap.size) :
    Calls Try.prog 17 #[.slice A n c] w fun e w' => e = .returned (.bool (vt ts)) ∧ Below w.heap.size w w' := by
  by_cases h0 : n < 1
  · have Hs := Lib.hid (vt_no_len (ts := ts) (by omega))
    clear hn
    go_enter Try.func17, Try.ntmps17
    go_wp2
    go_ret
    exact ⟨ret_bool Hs.out.symm, Below.refl _ _⟩
  by_cases h7 : 7 < n
  · have Hs := Lib.hid (vt_no_len (ts := ts) (by omega))
    clear hn
    go_enter Try.func17, Try.ntmps17
    go_wp2
    go_ret
    exact ⟨ret_bool Hs.out.symm, Below.refl _ _⟩
  have Hn := Lib.hid hn
  obtain ⟨b, off, x, y, rfl, hbw, Hx, hcx, hcy⟩ := hr.x (k := 0) (by omega)
  clear hn
  simp only [Nat.zero_mul, Nat.add_zero] at hcx hcy
  by_cases hx : x = -1
  rotate_left
  · have Hs := Lib.hid (vt_no_head Hx.out (Or.inl hx))
    have hx1 : (x != -1) = true := by rw [bne_iff_ne]; exact hx
    go_enter Try.func17, Try.ntmps17
    go_wp2
    go_ret
    exact ⟨ret_bool Hs.out.symm, Below.refl _ _⟩
  subst hx
  by_cases hy : y = 0
  rotate_left
  · have Hs := Lib.hid (vt_no_head Hx.out (Or.inr hy))
    have hx1 : (y != 0) = true := by rw [bne_iff_ne]; exact hy
    go_enter Try.func17, Try.ntmps17
    go_wp2
    go_ret
    exact ⟨ret_bool Hs.out.symm, Below.refl _ _⟩
  subst hy
  by_cases hc1 : c = 1
  · subst hc1
    have hn1 : n = 1 := by omega
    subst hn1
    have Hs := Lib.hid (vt_yes (OkT.one ts) (by rw [Hn.out]; omega) (by rw [Hn.out]; omega) (by rw [Hn.out]; omega) Hx.out)
    go_enter Try.func17, Try.ntmps17
    go_wp2
    go_loopw [30] (fun i wr => i = .int .i64 0 ∧ wr = w) (fun _ _ => 0)
    case atStart => exact ⟨rfl, rfl⟩
    case round =>
      obtain ⟨rfl, rfl⟩ := hrel
      go_wp2
      go_ret
      exact ⟨ret_bool Hs.out.symm, Below.refl _ _⟩
  go_enter Try.func17, Try.ntmps17
  go_wp2
  go_loopw [30] (fun i wr => ∃ k : Nat, k < n ∧ i = .int .i64 k ∧ Hid (OkT ts (k + 1)) ∧ Below w.heap.size w wr) (fun i _ => n - (intOf i).toNat)
  case atStart => exact ⟨0, by omega, rfl, OkT.one ts, Below.refl _ _⟩
  case round =>
    obtain ⟨k, hk, rfl, Ho, hnx⟩ := hrel
    by_cases hlt : k + 1 < n
    · have hlt' : k < n - 1 := by omega
      obtain ⟨b', off', x, y, e, -, Hx', hcx', hcy'⟩ := (hr.below (hnx.mono hB)).x (k := k + 1) (by rw [Hn.out]; omega)
      cases e
      rw [show off + (k + 1) * 2 = off + 2 + k * 2 by omega] at hcx' hcy'
      by_cases h1 : x < 0 ∨ (k : Int) < x ∨ y < 1 ∨ 9 < y
      · have Hs := Lib.hid (vt_no_at (k := k + 1) (by omega) (by rw [Hn.out]; omega) Hx'.out (by omega))
        by_cases g1 : x < 0
        · go_wp2
          go_ret
          exact ⟨ret_bool Hs.out.symm, hnx.alloc hnx.size _⟩
        by_cases g2 : (k : Int) < x
        · go_wp2
          go_ret
          exact ⟨ret_bool Hs.out.symm, hnx.alloc hnx.size _⟩
        by_cases g3 : y < 1
        · go_wp2
          go_ret
          exact ⟨ret_bool Hs.out.symm, hnx.alloc hnx.size _⟩
        · go_wp2
          go_ret
          exact ⟨ret_bool Hs.out.symm, hnx.alloc hnx.size _⟩
      · have g1 : 0 ≤ x := by omega
        have g2 : x ≤ k := by omega
        have g3 : 1 ≤ y := by omega
        have g4 : y ≤ 9 := by omega
        have Hs := Lib.hid (OkT.step Ho.out Hx'.out g1 (by omega) g3 g4)
        go_wp2
        go_roundw
        case rel => exact ⟨k + 1, by omega, by go_num, Hs, hnx.alloc hnx.size _⟩
        case measure => simp [intOf]; omega
    · have Hs := Lib.hid (vt_yes Ho.out (by rw [Hn.out]; omega) (by rw [Hn.out]; omega) (by rw [Hn.out]; omega) Hx.out)
      have hlt' : ¬ k < n - 1 := by omega
      go_wp2
      go_ret
      exact ⟨ret_bool Hs.out.symm, hnx⟩

set_option maxHeartbeats 800000 in
theorem sValidTree_in (A : Option Addr) (c n : Nat) (ts : List (Int × Int)) (w : World) (B : Nat) (hr : RdR w B A ts) (hn : ts.length = n) (hb : n ≤ 1152921504606846976) :
    Calls Try.prog 57 #[.slice A n c] w fun e w' => e = .returned (.bool (vt ts)) ∧ w = w' := by
  by_cases h0 : n < 1 ∨ 7 < n
  · have Hs := Lib.hid (vt_no_len (ts := ts) (by omega))
    clear hn
    go_enter Try.func57, Try.ntmps57
    go_wp2_with fail
    refine (inRange_no _ _ _ w (by omega)).mono ?_
    rintro e w' ⟨rfl, rfl⟩
    go_wp2
    go_ret
    exact ⟨ret_bool Hs.out.symm, rfl⟩
  have Hn := Lib.hid hn
  clear hn
  go_enter Try.func57, Try.ntmps57
  go_wp2_with fail
  refine (inRange_yes _ _ _ w (by omega) (by omega)).mono ?_
  rintro e w' ⟨rfl, rfl⟩
  go_wp2
  go_loop [3] (fun i => ∃ k : Nat, k ≤ n ∧ i = .int .i64 k ∧ Hid (OkT ts k ∧ (1 ≤ k → ts.getD 0 (-1, 0) = (-1, 0)))) (fun i => n - (intOf i).toNat)
  case atStart => exact ⟨0, by omega, rfl, fun i h1 h2 => by omega, by omega⟩
  case round =>
    obtain ⟨k, hk, rfl, Ho⟩ := hrel
    by_cases hlt : k < n
    · obtain ⟨b, off, x, y, rfl, -, Hx, hcx, hcy⟩ := hr.x (k := k) (by rw [Hn.out]; omega)
      by_cases hk0 : k = 0
      · subst hk0
        simp only [Nat.zero_mul, Nat.add_zero] at hcx hcy
        by_cases h1 : x = -1 ∧ y = 0
        · obtain ⟨rfl, rfl⟩ := h1
          go_wp2
          go_round
          case rel => exact ⟨1, by omega, by go_num, OkT.one ts, fun _ => Hx.out⟩
          case measure => simp [intOf]; omega
        · have Hs := Lib.hid (vt_no_head Hx.out (by omega))
          go_wp2
          all_goals
            go_ret
            exact ⟨ret_bool Hs.out.symm, rfl⟩
      · by_cases h1 : x < 0 ∨ (k : Int) ≤ x
        · have Hs := Lib.hid (vt_no_at (k := k) (by omega) (by rw [Hn.out]; omega) Hx.out (by omega))
          go_wp2_with fail
          refine (inRange_no _ _ _ w (by omega)).mono ?_
          rintro e w' ⟨rfl, rfl⟩
          go_wp2
          go_ret
          exact ⟨ret_bool Hs.out.symm, rfl⟩
        by_cases h2 : y < 1 ∨ 9 < y
        · have Hs := Lib.hid (vt_no_at (k := k) (by omega) (by rw [Hn.out]; omega) Hx.out (by omega))
          go_wp2_with fail
          refine (inRange_yes _ _ _ w (by omega) (by omega)).mono ?_
          rintro e w' ⟨rfl, rfl⟩
          go_wp2_with fail
          refine (inRange_no _ _ _ w (by omega)).mono ?_
          rintro e w' ⟨rfl, rfl⟩
          go_wp2
          go_ret
          exact ⟨ret_bool Hs.out.symm, rfl⟩
        · have Hs := Lib.hid (OkT.step Ho.out.1 Hx.out (by omega) (by omega) (by omega) (by omega))
          go_wp2_with fail
          refine (inRange_yes _ _ _ w (by omega) (by omega)).mono ?_
          rintro e w' ⟨rfl, rfl⟩
          go_wp2_with fail
          refine (inRange_yes _ _ _ w (by omega) (by omega)).mono ?_
          rintro e w' ⟨rfl, rfl⟩
          go_wp2
          go_round
          case rel => exact ⟨k + 1, by omega, by go_num, Hs.out, fun _ => Ho.out.2 (by omega)⟩
          case measure => simp [intOf]; omega
    · have Hs := Lib.hid (vt_yes Ho.out.1 (by rw [Hn.out]; omega) (by rw [Hn.out]; omega) (by rw [Hn.out]; omega) (Ho.out.2 (by omega)))
      go_wp2
      go_ret
      exact ⟨ret_bool Hs.out.symm, rfl⟩
theorem sValidTree_any (A : Option Addr) (c n : Nat) (ts : List (Int × Int)) (w : World) (B : Nat) (hr : RdR w B A ts) (hn : ts.length = n) (hb : n ≤ 1152921504606846976) :
    Calls Try.prog 18 #[.slice A n c] w fun e w' => e = .returned (.bool (vt ts)) ∧ w = w' := by
  go_enter Try.func18, Try.ntmps18
  go_wp2_with fail
  refine (sValidTree_in A c n ts w B hr hn hb).mono ?_
  rintro e w' ⟨rfl, rfl⟩
  go_wp2
  go_ret
  exact ⟨rfl, rfl⟩
end Go.Proofs.Ytkgomgfhhhdnjab
namespace Go.Proofs.Ytkgomgfhhhdnjab
open Go.ChangeShapes Go.WideShapes Go.ChangeAt Go.RowKit
set_option linter.unusedVariables false

theorem szR_any (A : Option Addr) (c n : Nat) (left : Int) (w : World) (hn : n ≤ 9223372036854775807) (hl : 0 ≤ left ∧ left ≤ 1048576) :
    Calls Try.prog 42 #[.slice A n c, .int .i64 left] w fun e w' => e = .returned (.int .i64 (if left < n then -1 else left - n)) ∧ w = w' := by
  by_cases h : left < n
  · have h' : left - n < 0 := by omega
    rw [if_pos h]
    go_enter Try.func42, Try.ntmps42
    go_wp2
    go_ret
    exact ⟨rfl, rfl⟩
  · have h' : ¬ left - n < 0 := by omega
    rw [if_neg h]
    go_enter Try.func42, Try.ntmps42
    go_wp2
    go_ret
    exact ⟨rfl, rfl⟩

theorem toRoad_any (x y : Int) (w : World) :
    Calls Try.prog 97 #[.agg #[.int .i64 x, .int .i64 y]] w fun e w' => e = .returned (.agg #[.int .i64 x, .int .i64 y]) ∧ Below w.heap.size w w' := by
  go_enter Try.func97, Try.ntmps97
  go_wp2
  exact bodyPost_ret (v := .agg #[.int .i64 x, .int .i64 y]) (by simp [results, Try.results97, go_sem]) rfl ⟨rfl, (((Below.refl _ _).alloc (Nat.le_refl _) _).alloc (by simp [go_sem]) _).alloc (by simp [go_sem]; omega) _⟩

theorem eqRoad_any (x y x' y' : Int) (w : World) :
    Calls Try.prog 98 #[.agg #[.int .i64 x, .int .i64 y], .agg #[.int .i64 x', .int .i64 y']] w fun e w' => e = .returned (.bool (decide (x = x') && decide (y = y'))) ∧ Below w.heap.size w w' := by
  by_cases h1 : x = x' <;> by_cases h2 : y = y'
  all_goals
    have g1 : (x != x') = !(decide (x = x')) := by by_cases h : x = x' <;> simp [h]
    have g2 : (y != y') = !(decide (y = y')) := by by_cases h : y = y' <;> simp [h]
    simp only [h1, h2, decide_true, decide_false, Bool.not_true, Bool.not_false] at g1 g2
    go_enter Try.func98, Try.ntmps98
    go_wp2
    go_ret
    exact ⟨ret_bool (by simp [h1, h2]), ((Below.refl _ _).alloc (Nat.le_refl _) _).alloc (by simp [go_sem]) _⟩

theorem eqRoad_yes (x y x' y' : Int) (w : World) (h1 : x = x') (h2 : y = y') :
    Calls Try.prog 98 #[.agg #[.int .i64 x, .int .i64 y], .agg #[.int .i64 x', .int .i64 y']] w fun e w' => e = .returned (.bool true) ∧ Below w.heap.size w w' :=
  (eqRoad_any x y x' y' w).mono fun _ _ ⟨he, hw⟩ => ⟨by rw [he]; simp [h1, h2], hw⟩
theorem eqRoad_no (x y x' y' : Int) (w : World) (h : x ≠ x' ∨ y ≠ y') :
    Calls Try.prog 98 #[.agg #[.int .i64 x, .int .i64 y], .agg #[.int .i64 x', .int .i64 y']] w fun e w' => e = .returned (.bool false) ∧ Below w.heap.size w w' :=
  (eqRoad_any x y x' y' w).mono fun _ _ ⟨he, hw⟩ => ⟨by rw [he]; rcases h with h | h <;> simp [h], hw⟩
/-- A copy of roads in a new block. -/
def CopiedR (w : World) (ts : List (Int × Int)) (e : Ending) (w' : World) : Prop :=
  ∃ b, e = .returned (.slice (some ⟨b, 0, none⟩) ts.length ts.length) ∧ w.heap.size ≤ b ∧ RdR w' w'.heap.size (some ⟨b, 0, none⟩) ts ∧ Below w.heap.size w w' ∧ w'.ownsRow w.heap.size 38 2 (.slice (some ⟨b, 0, none⟩) ts.length ts.length) ts.length ((flat ts).map (Value.int .i64))
theorem roadInfo : (Try.prog.info? 38).map (fun i => (i.zero, i.size, i.bytes)) = some (some (.agg #[.int .i64 0, .int .i64 0]), 2, 16) := by kernel_rfl
theorem made_two (n : Nat) : (madeCells (Value.agg #[.int .i64 0, .int .i64 0]).cells (n * 2)).toList = List.replicate (n * 2) (Value.int .i64 0) := by
  apply List.ext_getElem?
  intro j
  by_cases hj : j < n * 2
  · have h2 : j % 2 = 0 ∨ j % 2 = 1 := by omega
    rcases h2 with h2 | h2 <;> simp [madeCells, Value.cells, hj, h2]
  · simp [madeCells, hj]
set_option maxHeartbeats 400000 in
theorem toR_any (A : Option Addr) (c : Nat) (n : Nat) (ts : List (Int × Int)) (w : World) (hr : RdR w w.heap.size A ts) (hn : ts.length = n) (hb : n ≤ 1048576) :
    Calls Try.prog 43 #[.slice A n c] w (CopiedR w ts) := by
  obtain ⟨i0, hi0, hz0, hz1, hz2⟩ := info_parts roadInfo
  have Hn := Lib.hid hn
  have HL := Lib.hid (show (flat ts).length = n * 2 by rw [flat_len, hn])
  clear hn
  go_enter Try.func43, Try.ntmps43
  go_wp2_with (at_make; refine wpList_make_full _ rfl _ _ 23 rfl w.heap.size 38 i0 _ 2 Try.underlying23 hi0 hz0 hz1 _ _ _ _ n rfl rfl rfl rfl (by rw [hz2]; omega) (by unfold maxLen; omega) (Nat.le_refl _) ?_; intro w1 hown1 hg1)
  have hs1 : w.heap.size < w1.heap.size := (hown1.lt w.heap.size rfl).2
  have hnx1 : Below w.heap.size w w1 := (Below.refl _ _).grown hg1 (Nat.le_refl _) (fun j hj => by cases hj)
  rw [made_two] at hown1
  go_loopw [4] (fun i wr => ∃ k : Nat, k ≤ n ∧ i = .int .i64 k ∧ wr.ownsRow w.heap.size 38 2 (.slice (some ⟨w.heap.size, 0, none⟩) n n) n (fillL (flat ts) (k * 2)) ∧ Below w.heap.size w wr)
    (fun i _ => n - (intOf i).toNat)
  case atStart => exact ⟨0, Nat.zero_le _, rfl, by simpa [fillL, HL.out] using hown1, hnx1⟩
  case round =>
    obtain ⟨k, hk, rfl, hown, hnx⟩ := hrel
    by_cases hlt : k < n
    · obtain ⟨b, off, x, y, rfl, hbw, Hx, hcx, hcy⟩ := (hr.below hnx).x (k := k) (by rw [Hn.out]; exact hlt)
      go_wp2_with fail
      refine (toRoad_any x y wr).mono ?_
      rintro e wr2 ⟨rfl, hnx2⟩
      have hnx3 := hnx.trans (hnx2.mono hnx.size)
      have hown2 : wr2.ownsRow w.heap.size 38 2 (.slice (some ⟨w.heap.size, 0, none⟩) n n) n (fillL (flat ts) (k * 2)) := ownN_below hown hnx2
      obtain ⟨v1, hv1⟩ := own_cell hown2 (j := k * 2) (by omega) (by rw [fillL_len _ (by rw [HL.out]; omega)]; exact HL.out)
      obtain ⟨v2, hv2⟩ := own_cell hown2 (j := k * 2 + 1) (by omega) (by rw [fillL_len _ (by rw [HL.out]; omega)]; exact HL.out)
      have hf1 := hown2.frozenAt (k * 2)
      have hf2 := hown2.frozenAt (k * 2 + 1)
      have HS := Lib.hid (fill_step (by rw [HL.out]; omega) (fill_step (by rw [HL.out]; omega) hown2))
      have HB := Lib.hid hnx3
      clear hown2 hnx3 hnx2 hown hnx hcx hcy
      go_wp2
      go_roundw
      case rel => exact ⟨k + 1, by omega, by go_num, by have h := HS.out; rw [flat_to _ _ (by rw [Hn.out]; omega), flat_long _ _ (by rw [Hn.out]; omega), Hx.out] at h; rw [show (k + 1) * 2 = k * 2 + 1 + 1 by omega]; exact h, (HB.out.setCell (Nat.le_refl _) _).setCell (Nat.le_refl _) _⟩
      case measure => simp [intOf]; omega
    · have HO := Lib.hid hown
      clear hown
      go_wp2
      go_ret
      have hkn : k = n := by omega
      subst hkn
      have ho := HO.out
      rw [fillL_all _ (by rw [HL.out]; omega)] at ho
      have hn := Hn.out
      subst hn
      exact ⟨w.heap.size, rfl, Nat.le_refl _, rdI_of_ownN ho HL.out, hnx, ho⟩

theorem eqRd_no {k : Nat} {ts ts' : List (Int × Int)} (e : ¬ ts.getD k (-1, 0) = ts'.getD k (-1, 0)) : (ts == ts') = false := by
  rw [beq_eq_false_iff_ne]
  rintro rfl
  exact e rfl
theorem eqRd_end {n k : Nat} {ts ts' : List (Int × Int)} (h : ∀ i, i < k → ts.getD i (-1, 0) = ts'.getD i (-1, 0)) (hn : ts.length = n) (hn' : ts'.length = n) (hk : n ≤ k) : (ts == ts') = true := by
  have e : ts = ts' := by
    apply List.ext_getElem (by omega)
    intro i h1 h2
    have := h i (by omega)
    simpa [List.getD, List.getElem?_eq_getElem h1, List.getElem?_eq_getElem h2] using this
  rw [e]; simp

set_option maxHeartbeats 800000 in
theorem eqR_any (A A' : Option Addr) (c c' n n' : Nat) (ts ts' : List (Int × Int)) (w : World) (B B' : Nat) (hr : RdR w B A ts) (hn : ts.length = n) (hr' : RdR w B' A' ts') (hn' : ts'.length = n') (hb : n ≤ 1048576) (hB : B ≤ w.heap.size) (hB' : B' ≤ w.heap.size) :
    Calls Try.prog 44 #[.slice A n c, .slice A' n' c'] w fun e w' => e = .returned (.bool (ts == ts')) ∧ Below w.heap.size w w' := by
  by_cases hnn : n = n'
  · subst hnn
    have Hn := Lib.hid hn
    have Hn' := Lib.hid hn'
    clear hn hn'
    go_enter Try.func44, Try.ntmps44
    go_wp2
    go_loopw [5] (fun i wr => ∃ k : Nat, k ≤ n ∧ Hid (∀ i, i < k → ts.getD i (-1, 0) = ts'.getD i (-1, 0)) ∧ i = .int .i64 k ∧ Below w.heap.size w wr) (fun i wr => n - (intOf i).toNat)
    case atStart => exact ⟨0, Nat.zero_le _, fun i hi => by omega, rfl, Below.refl _ _⟩
    case round =>
      obtain ⟨k, hk, Hk, rfl, hnx⟩ := hrel
      by_cases hlt : k < n
      · obtain ⟨b, off, x, y, rfl, hbw, Hx, hcx, hcy⟩ := (hr.below (hnx.mono hB)).x (k := k) (by rw [Hn.out]; exact hlt)
        obtain ⟨b', off', x', y', rfl, hbw', Hy, hcx', hcy'⟩ := (hr'.below (hnx.mono hB')).x (k := k) (by rw [Hn'.out]; exact hlt)
        go_wp2_with fail
        by_cases he : x = x' ∧ y = y'
        · have Hs := Lib.hid (show ∀ i, i < k + 1 → ts.getD i (-1, 0) = ts'.getD i (-1, 0) from fun i hi => by
            by_cases e : i = k
            · rw [e, Hx.out, Hy.out, he.1, he.2]
            · exact Hk.out i (by omega))
          obtain ⟨rfl, rfl⟩ := he
          go_region_with (go_at_call 98; refine (eqRoad_yes x y x y _ rfl rfl).mono ?_; rintro e wr2 ⟨rfl, hnx2⟩)
          all_goals
            have hnx3 := hnx.trans ((belowd hnx2).mono hnx.size)
            go_wp2
            go_roundw
            case rel => exact ⟨k + 1, by omega, Hs, by go_num, hnx3⟩
            case measure => simp [intOf]; omega
        · have Hs := Lib.hid (eqRd_no (ts := ts) (ts' := ts') (k := k) (by rw [Hx.out, Hy.out]; intro h; exact he ⟨congrArg Prod.fst h, congrArg Prod.snd h⟩))
          have he' := Lib.hid (show x ≠ x' ∨ y ≠ y' by omega)
          clear he
          go_region_with (go_at_call 98; refine (eqRoad_no x y x' y' _ he'.out).mono ?_; rintro e wr2 ⟨rfl, hnx2⟩)
          all_goals
            have hnx3 := hnx.trans ((belowd hnx2).mono hnx.size)
            go_wp2
            go_ret
            exact ⟨ret_bool Hs.out.symm, hnx3⟩
      · have hs := eqRd_end Hk.out Hn.out Hn'.out (by omega)
        have Hs := Lib.hid hs
        clear hs
        go_wp2
        go_ret
        exact ⟨ret_bool Hs.out.symm, hnx⟩
  · have hs : (ts == ts') = false := by
      rw [beq_eq_false_iff_ne]
      rintro rfl
      omega
    have hb1 : ((n : Int) != (n' : Int)) = true := by rw [bne_iff_ne]; omega
    have Hs := Lib.hid hs
    clear hs hn hn' hnn
    go_enter Try.func44, Try.ntmps44
    go_wp2
    go_ret
    exact ⟨ret_bool Hs.out.symm, Below.refl _ _⟩
end Go.Proofs.Ytkgomgfhhhdnjab
namespace Go.Proofs.Ytkgomgfhhhdnjab
open Go.ChangeShapes Go.WideShapes Go.ChangeAt Go.RowKit
set_option linter.unusedVariables false
set_option maxRecDepth 4000

def TreePost (B R k : Nat) (w : World) (e : Ending) (w' : World) : Prop :=
  ∃ v, ∃ ts : List (Int × Int), e = .returned v ∧ ts.length ≤ 7 ∧ w'.ownsRow w.heap.size 38 2 v ts.length ((flat ts).map (Value.int .i64)) ∧ GR w' B R (k + 40) ∧ w.grownBy w' (some R)
def TreeRel (B R k : Nat) (w : World) (v i : Value) (wr : World) : Prop :=
  ∃ ts : List (Int × Int), ∃ m : Int, ∃ q : Nat, i = .int .i64 m ∧ 0 ≤ m ∧ (ts.length : Int) + m ≤ 7 ∧ 1 ≤ ts.length ∧ (q : Int) + 3 * m ≤ k + 22 ∧
    wr.ownsRow w.heap.size 38 2 v ts.length ((flat ts).map (Value.int .i64)) ∧ GR wr B R q ∧ w.grownBy wr (some R)
theorem lit_two (w : World) (x y : Value) (t : TypeId) : ∀ j u, [x, y][j]? = some u → (w.alloc (.cells #[x, y] t)).cell? ((⟨w.heap.size, 0, none⟩ : Addr).add j) = some u := by
  intro j u hu
  rw [addr_add0, cell_of_row _ _ _ _ t (0, 0) (heap_alloc_new w _)]
  simpa using hu
set_option maxHeartbeats 1600000 in
theorem someTree_any (R B k : Nat) (w : World) (hg : GR w B R k) (hk : k ≤ 80000) :
    Calls Try.prog 55 #[.pointer (some ⟨R, 0, none⟩)] w (TreePost B R k w) := by
  obtain ⟨i0, hi0, hz0, hz1, hz2⟩ := info_parts roadInfo
  have hRlt := hg.lt
  go_enter Try.func55, Try.ntmps55
  go_wp2_with fail
  have hga : GR (w.alloc (.cells #[.int .i64 (-1), .int .i64 0] 38)) B R k := hg.kept (row := none) (World.grownBy_alloc _ _ _) (fun g h => by cases h)
  have hgba : w.grownBy (w.alloc (.cells #[.int .i64 (-1), .int .i64 0] 38)) (some R) := World.grownBy_alloc _ _ _
  have hown0 : (w.alloc (.cells #[.int .i64 (-1), .int .i64 0] 38)).ownsRow w.heap.size 38 2 (.slice (some ⟨w.heap.size, 0, none⟩) 1 1) 1 [.int .i64 (-1), .int .i64 0] :=
    World.ownsRow_lit w #[.int .i64 (-1), .int .i64 0] 1 (Nat.le_refl _) (by decide) rfl
  refine (oneLitAt _ R B k [4, 3, 5, 2, 6, 1, 0] 7 0 6 (w.alloc (.cells #[.int .i64 (-1), .int .i64 0] 38)) _ hga (by omega) rfl (by omega) (by omega) rfl (by decide) (size_alloc1 _ _)).mono ?_
  rintro e w1 ⟨m, rfl, hm0, hm1, hg1, hgr1⟩
  have hgb1 := gb_trans hgba hgr1 (.inl rfl)
  have hown1 := hown0.kept hgr1 (.inr (by simp [Value.ownBlock]; omega))
  have Hown1 := Lib.hid hown1
  clear hown1 hown0 hgba hga hgr1
  go_wp2_with fail
  go_loopw [3, 4] (fun v i wr => TreeRel B R k w v i wr) (fun _ i _ => (intOf i).toNat)
  case atStart => exact ⟨[(-1, 0)], m, k + 1, rfl, hm0, by simp; omega, by simp, by omega, Hown1.out, hg1, hgb1⟩
  case round =>
    clear hg1 Hown1 hgb1
    obtain ⟨ts, m', q, rfl, hm'0, hlm, hl1, hq1, hown, hgr, hgb⟩ := hrel
    have hws := hgb.size
    have hwo := hown.lt
    have Hwo := Lib.hid hwo
    have Hown := Lib.hid hown
    obtain ⟨A, c, rfl, hc1, hc2, -⟩ := own_sliceN hown
    clear hown hwo
    obtain ⟨n, Hn⟩ : ∃ n, Hid (ts.length = n) := ⟨_, rfl⟩
    by_cases hpos : 0 < m'
    · have hl0 : 0 ≤ ((ts.length : Nat) : Int) - 1 := by omega
      go_wp2_with fail
      refine (pick_any R B q ts.length wr hgr (by omega) (by omega) (by omega)).mono ?_
      rintro e w5 ⟨v, rfl, hv0, hv1, -, hgr5, hgw5⟩
      have hv2 := hv1 (by omega)
      clear hv1
      have hgb5 := gb_trans hgb hgw5 (.inl rfl)
      have hown5 := Hown.out.kept hgw5 (.inr (fun e => by have := (Hwo.out R e).1; omega))
      have Hown5 := Lib.hid hown5
      clear hown5 hgw5 Hown
      go_wp2_with fail
      refine (oneLitAt _ R B (q + 1) [v, ts.length - 1, 0] 3 0 7 w5 _ hgr5 (by omega) rfl (by omega) (by omega) rfl (by intro x hx; simp at hx; omega) rfl).mono ?_
      rintro e w6 ⟨x, rfl, hx0, hx1, hgr6, hgw6⟩
      have hgb6 := gb_trans hgb5 hgw6 (.inl rfl)
      have hown6 := Hown5.out.kept hgw6 (.inr (fun e => by have := (Hwo.out R e).1; omega))
      have Hown6 := Lib.hid hown6
      clear hown6 hgw6 Hown5 hgb5
      go_wp2_with fail
      refine (oneLitAt _ R B (q + 1 + 1) [1, 2, 3, 1, 5, 9] 6 1 9 w6 _ hgr6 (by omega) rfl (by omega) (by omega) rfl (by decide) rfl).mono ?_
      rintro e w7 ⟨y, rfl, hy0, hy1, hgr7, hgw7⟩
      have hgb7 := gb_trans hgb6 hgw7 (.inl rfl)
      have hown7 := Hown6.out.kept hgw7 (.inr (fun e => by have := (Hwo.out R e).1; omega))
      have hws7 := hgb7.size
      have Hn7 : Hid (ts.length + 1 ≤ 8) := by show ts.length + 1 ≤ 8; omega
      go_wp2_with (at_builtin; refine wpList_append_own _ rfl _ _ 23 rfl w.heap.size 38 i0 _ 2 16 Try.underlying23 hi0 hz0 hz1 hz2 rfl (by decide) _ _ _ rfl (hown7.alloc _) ⟨w7.heap.size, 0, none⟩ 1 1 [.int .i64 x, .int .i64 y] rfl rfl ?c1 ?c2 ?c3 ?c4 ?c5 ?_)
      case c1 => exact lit_two _ _ _ _
      case c2 => intro u hu; simp at hu; rcases hu with rfl | rfl <;> rfl
      case c3 => have := Hn7.out; unfold maxLen; omega
      case c4 => have := Hn7.out; omega
      case c5 => rw [size_alloc1]; omega
      intro v' w3 hown' hgrow _
      have hgr3 : GR w3 B R (q + 1 + 1 + 1) := (hgr7.kept (row := none) (World.grownBy_alloc _ _ _) (fun g h => by cases h)).kept hgrow (fun g h => by have := (hown7.lt g h).1; omega)
      have hgb3 : w.grownBy w3 (some R) := gb_trans (gb_trans hgb7 (World.grownBy_alloc w7 _ none) (.inr (fun g h => by cases h))) hgrow (.inr (fun g h => (hown7.lt g h).1))
      have Hown' := Lib.hid hown'
      clear hown' hgrow hown7 hgr7 hgb7 hws hgr hgb
      go_wp2
      go_roundw
      case rel => exact ⟨ts ++ [(x, y)], m' - 1, q + 1 + 1 + 1, rfl, by omega, by simp; omega, by simp, by omega, by simpa [flat_append, flat] using Hown'.out, hgr3, hgb3⟩
      case measure => simp [intOf]; omega
    · have hlen : (1 : Int) ≤ ((ts.length : Nat) : Int) := by omega
      go_wp2_with fail
      refine (pick_any R B q ts.length wr hgr (by omega) (by omega) (by omega)).mono ?_
      rintro e w5 ⟨j, rfl, hj0, hj1, -, hgr5, hgw5⟩
      have hj2 := hj1 (by omega)
      obtain ⟨j, rfl⟩ := Int.eq_ofNat_of_zero_le hj0
      clear hj1
      have hgb5 := gb_trans hgb hgw5 (.inl rfl)
      have hown5 := Hown.out.kept hgw5 (.inr (fun e => by have := (Hwo.out R e).1; omega))
      have Hown5 := Lib.hid hown5
      clear hown5 hgw5 Hown
      go_wp2_with fail
      refine (pick_any R B (q + 1) 30 w5 hgr5 (by omega) (by omega) (by omega)).mono ?_
      rintro e w6 ⟨v, rfl, hv0, hv1, -, hgr6, hgw6⟩
      have hgb6 := gb_trans hgb5 hgw6 (.inl rfl)
      have hown6 := Hown5.out.kept hgw6 (.inr (fun e => by have := (Hwo.out R e).1; omega))
      have Hown6 := Lib.hid hown6
      clear hown6 hgw6 Hown5 hgb5 hv1
      have hjl : j < ts.length := by omega
      by_cases hv : v = 0
      · subst hv
        go_wp2_with fail
        refine (oneLitAt _ R B (q + 1 + 1) [-1, j, 7] 3 (-1) 7 w6 _ hgr6 (by omega) rfl (by omega) (by omega) rfl (by intro x hx; simp at hx; omega) rfl).mono ?_
        rintro e w7 ⟨d, rfl, hd0, hd1, hgr7, hgw7⟩
        have hgb7 := gb_trans hgb6 hgw7 (.inl rfl)
        have hown7 := Hown6.out.kept hgw7 (.inr (fun e => by have := (Hwo.out R e).1; omega))
        obtain ⟨g, cap, he, hg1, hg2⟩ := hown7.form hl1
        injection he with he1 he2 he3
        subst he1 he3
        obtain ⟨v7, hv7⟩ := own_cell hown7 (j := j * 2) (by omega) (by simp [flat_len])
        have hf7 := hown7.frozenAt (j * 2)
        have hst := (hown7.stored (j * 2) (.int .i64 d)).1
        have hgs := (hown7.stored (j * 2) (.int .i64 d)).2
        have hgb8 := gb_trans hgb7 hgs (.inr (fun g' h' => by cases h'; exact hg1))
        have hgr8 := hgr7.kept hgs (fun g' h' => by cases h'; omega)
        have Hst := Lib.hid hst
        have Hgb8 := Lib.hid hgb8
        have Hgr8 := Lib.hid hgr8
        clear hst hgb8 hgr8 hown7 hgb7 hgb6 hgw7 hgs Hown6
        go_wp2
        go_ret
        exact ⟨_, ts.set j (d, (ts.getD j (-1, 0)).2), rfl, by rw [List.length_set]; omega, by rw [List.length_set, flat_set0 ts j hjl, List.map_set]; exact Hst.out, Hgr8.out.more (by omega), Hgb8.out⟩
      · have hvb : (v == 0) = false := by rw [beq_eq_false_iff_ne]; exact hv
        by_cases hv1 : v = 1
        · subst hv1
          clear hv hvb
          go_wp2_with fail
          refine (oneLitAt _ R B (q + 1 + 1) [0, 10, 1] 3 0 10 w6 _ hgr6 (by omega) rfl (by omega) (by omega) rfl (by decide) rfl).mono ?_
          rintro e w7 ⟨d, rfl, hd0, hd1, hgr7, hgw7⟩
          have hgb7 := gb_trans hgb6 hgw7 (.inl rfl)
          have hown7 := Hown6.out.kept hgw7 (.inr (fun e => by have := (Hwo.out R e).1; omega))
          obtain ⟨g, cap, he, hg1, hg2⟩ := hown7.form hl1
          injection he with he1 he2 he3
          subst he1 he3
          obtain ⟨v7, hv7⟩ := own_cell hown7 (j := j * 2 + 1) (by omega) (by simp [flat_len])
          have hf7 := hown7.frozenAt (j * 2 + 1)
          have hst := (hown7.stored (j * 2 + 1) (.int .i64 d)).1
          have hgs := (hown7.stored (j * 2 + 1) (.int .i64 d)).2
          have hgb8 := gb_trans hgb7 hgs (.inr (fun g' h' => by cases h'; exact hg1))
          have hgr8 := hgr7.kept hgs (fun g' h' => by cases h'; omega)
          have Hst := Lib.hid hst
          have Hgb8 := Lib.hid hgb8
          have Hgr8 := Lib.hid hgr8
          clear hst hgb8 hgr8 hown7 hgb7 hgb6 hgw7 hgs Hown6
          go_wp2
          go_ret
          exact ⟨_, ts.set j ((ts.getD j (-1, 0)).1, d), rfl, by rw [List.length_set]; omega, by rw [List.length_set, flat_set1 ts j hjl, List.map_set]; exact Hst.out, Hgr8.out.more (by omega), Hgb8.out⟩
        · have hvb1 : (v == 1) = false := by rw [beq_eq_false_iff_ne]; exact hv1
          by_cases hv2 : v = 2
          · subst hv2
            clear hv hvb hv1 hvb1
            have hgr8 : GR (w6.alloc (.cells #[] 38)) B R (k + 40) := (hgr6.kept (row := none) (World.grownBy_alloc _ _ _) (fun g h => by cases h)).more (by omega)
            have hgb8 := gb_trans hgb6 (World.grownBy_alloc w6 (.cells #[] 38) none) (.inr (fun g h => by cases h))
            have hown8 : (w6.alloc (.cells #[] 38)).ownsRow w.heap.size 38 2 (.slice (some ⟨w6.heap.size, 0, none⟩) 0 0) 0 [] :=
              World.ownsRow_lit w6 #[] 0 hgb6.size (by decide) rfl
            have Hown8 := Lib.hid hown8
            clear hown8
            go_wp2
            go_ret
            exact ⟨_, [], rfl, by simp, Hown8.out, hgr8, hgb8⟩
          · have hvb2 : (v == 2) = false := by rw [beq_eq_false_iff_ne]; exact hv2
            clear hv hv1 hv2
            go_wp2
            go_ret
            exact ⟨_, ts, rfl, by omega, Hown6.out, hgr6.more (by omega), hgb6⟩
end Go.Proofs.Ytkgomgfhhhdnjab
namespace Go.Proofs.Ytkgomgfhhhdnjab
open Go.ChangeShapes Go.WideShapes Go.ChangeAt Go.RowKit
set_option linter.unusedVariables false

/-- The nodes beside node i, among the first n nodes: the one to which its road goes, then those whose road goes to it. -/
def nb (t : List (Int × Int)) : Nat → Nat → List (Nat × Int)
  | 0, _ => []
  | n + 1, i => if i = n then (if n = 0 then [] else [(tto t n, tlg t n)]) else nb t n i ++ (if tto t n = i then [(n, tlg t n)] else [])
/-- What a walk visits behind a node a that it came to from f, by the branches bs that are left. -/
inductive VisL (N : Nat → List (Nat × Int)) : Nat → Option Nat → Int → List (Nat × Int) → List (Nat × Int) → Prop
  | nil (a f w) : VisL N a f w [] []
  | skip {a f w b l bs M} : f = some b → VisL N a f w bs M → VisL N a f w ((b, l) :: bs) M
  | go {a f w b l bs M M'} : f ≠ some b → VisL N b (some a) (w + l) (N b) M → VisL N a f w bs M' → VisL N a f w ((b, l) :: bs) ((b, w + l) :: (M ++ M'))
theorem VisL.append {N : Nat → List (Nat × Int)} {a : Nat} {f : Option Nat} {w : Int} {bs M : List (Nat × Int)} (h : VisL N a f w bs M) : ∀ {bs' M'}, VisL N a f w bs' M' → VisL N a f w (bs ++ bs') (M ++ M') := by
  induction h with
  | nil a f w => intro bs' M' h'; exact h'
  | skip h1 h2 ih => intro bs' M' h'; exact .skip h1 (ih h')
  | go h1 h2 h3 ih2 ih3 =>
    intro bs' M' h'
    have := VisL.go h1 h2 (ih3 h')
    simpa using this
def sumL (h : Nat → Int → Int) : List (Nat × Int) → Int
  | [] => 0
  | x :: r => h x.1 x.2 + sumL h r
theorem sumL_append (h : Nat → Int → Int) : ∀ a b, sumL h (a ++ b) = sumL h a + sumL h b
  | [], b => by simp [sumL]
  | x :: r, b => by simp only [List.cons_append, sumL, sumL_append h r b]; omega
theorem sumL_add (h g : Nat → Int → Int) : ∀ a, sumL (fun i x => h i x + g i x) a = sumL h a + sumL g a
  | [] => by simp [sumL]
  | x :: r => by simp only [sumL, sumL_add h g r]; omega
def sumN (F : Nat → Int) : Nat → Int
  | 0 => 0
  | n + 1 => sumN F n + F n
theorem sumN_congr {F G : Nat → Int} : ∀ {n}, (∀ i, i < n → F i = G i) → sumN F n = sumN G n
  | 0, _ => rfl
  | n + 1, h => by simp only [sumN, sumN_congr (n := n) fun i hi => h i (by omega), h n (by omega)]
theorem sumN_add (F G : Nat → Int) : ∀ n, sumN (fun i => F i + G i) n = sumN F n + sumN G n
  | 0 => rfl
  | n + 1 => by simp only [sumN, sumN_add F G n]; omega
theorem sumN_zero {F : Nat → Int} : ∀ {n}, (∀ i, i < n → F i = 0) → sumN F n = 0
  | 0, _ => rfl
  | n + 1, h => by simp only [sumN, sumN_zero (n := n) fun i hi => h i (by omega), h n (by omega)]; rfl
theorem sumN_one {p : Nat} {x : Int} : ∀ {n}, p < n → sumN (fun j => if j = p then x else 0) n = x
  | 0, h => by omega
  | n + 1, h => by
    simp only [sumN]
    by_cases e : p = n
    · subst e
      rw [sumN_zero (n := p) fun i hi => if_neg (by omega)]; simp
    · rw [sumN_one (n := n) (by omega), if_neg (by omega)]; omega

theorem nb_lt {t : List (Int × Int)} (ht : Ahead t) : ∀ n, n ≤ t.length → ∀ i, i < n → ∀ b l, (b, l) ∈ nb t n i → b < n
  | 0, _, i, hi, _, _, _ => by omega
  | n + 1, hn, i, hi, b, l, hm => by
    simp only [nb] at hm
    by_cases e : i = n
    · rw [if_pos e] at hm
      by_cases h0 : n = 0
      · rw [if_pos h0] at hm; cases hm
      · rw [if_neg h0] at hm
        simp at hm
        have := (ht n (by omega) (by omega)).1
        omega
    · rw [if_neg e] at hm
      rcases List.mem_append.1 hm with h | h
      · have := nb_lt ht n (by omega) i (by omega) b l h; omega
      · split at h
        · simp at h; omega
        · cases h
theorem nb_old {t : List (Int × Int)} {n i : Nat} (hi : i < n) : nb t (n + 1) i = nb t n i ++ (if tto t n = i then [(n, tlg t n)] else []) := by
  simp only [nb]; rw [if_neg (by omega)]
theorem nb_new {t : List (Int × Int)} {n : Nat} (hn : 1 ≤ n) : nb t (n + 1) n = [(tto t n, tlg t n)] := by
  simp only [nb, if_true]; rw [if_neg (by omega)]

/-- What the new node adds where its neighbour is visited. -/
def more (p n : Nat) (lg : Int) (h : Nat → Int → Int) : Nat → Int → Int := fun i x => if i = p then h n (x + lg) else 0
/-- A walk in a tree with one node more. -/
theorem vis_leaf {t : List (Int × Int)} (ht : Ahead t) {n : Nat} (h1 : 1 ≤ n) (hn : n + 1 ≤ t.length) {a : Nat} {f : Option Nat} {w : Int} {bs M : List (Nat × Int)} (h : VisL (nb t n) a f w bs M) :
    a < n → (∀ b l, (b, l) ∈ bs → b < n) → ∃ M', VisL (nb t (n + 1)) a f w bs M' ∧ ∀ h, sumL h M' = sumL h M + sumL (more (tto t n) n (tlg t n) h) M := by
  induction h with
  | nil a f w => intro _ _; exact ⟨[], .nil _ _ _, fun h => rfl⟩
  | @skip a f w b l bs M e _ ih =>
    intro ha hb
    obtain ⟨M', h1, h2⟩ := ih ha fun b' l' hm => hb b' l' (List.mem_cons_of_mem _ hm)
    exact ⟨M', .skip e h1, h2⟩
  | @go a f w b l bs M1 M2 e _ _ ih1 ih2 =>
    intro ha hb
    have hbn : b < n := hb b l (List.mem_cons_self ..)
    obtain ⟨M1', v1, s1⟩ := ih1 hbn fun b' l' hm => nb_lt ht n (by omega) b hbn b' l' hm
    obtain ⟨M2', v2, s2⟩ := ih2 ha fun b' l' hm => hb b' l' (List.mem_cons_of_mem _ hm)
    by_cases hp : tto t n = b
    · have hv : VisL (nb t (n + 1)) b (some a) (w + l) (nb t (n + 1) b) (M1' ++ [(n, w + l + tlg t n)]) := by
        rw [nb_old hbn, if_pos hp]
        refine v1.append (.go (M := []) (M' := []) (by simp; omega) ?_ (.nil _ _ _))
        rw [nb_new h1]
        exact .skip (by rw [hp]) (.nil _ _ _)
      refine ⟨_, .go e hv v2, fun h => ?_⟩
      simp only [sumL, sumL_append, s1 h, s2 h, more, if_pos hp.symm]
      omega
    · have hv : VisL (nb t (n + 1)) b (some a) (w + l) (nb t (n + 1) b) M1' := by
        rw [nb_old hbn, if_neg hp, List.append_nil]; exact v1
      refine ⟨_, .go e hv v2, fun h => ?_⟩
      simp only [sumL, sumL_append, s1 h, s2 h, more]
      rw [if_neg (fun e => hp e.symm)]
      omega
/-- To come from a node that is not there is to come from none. -/
theorem vis_from {N : Nat → List (Nat × Int)} {n a x : Nat} {f : Option Nat} {w : Int} {bs M : List (Nat × Int)} (h : VisL N a f w bs M) (hf : f = none) (hx : n ≤ x) : (∀ b l, (b, l) ∈ bs → b < n) → VisL N a (some x) w bs M := by
  induction h with
  | nil a f w => intro _; exact .nil _ _ _
  | skip e _ ih => subst hf; cases e
  | @go a f w b l bs M1 M2 e h1 _ _ ih2 =>
    intro hb
    exact .go (by have := hb b l (List.mem_cons_self ..); simp; omega) h1 (ih2 hf fun b' l' hm => hb b' l' (List.mem_cons_of_mem _ hm))

/-- A walk from a, come to from f: it visits those of the n nodes for which q holds, each once, with how far it is from a. -/
def Walks (t : List (Int × Int)) (n a : Nat) (f : Option Nat) (w : Int) (q : Nat → Prop) [DecidablePred q] : Prop :=
  ∃ M, VisL (nb t n) a f w (nb t n a) M ∧ ∀ h, h a w + sumL h M = sumN (fun j => if q j then h j (w + dn t n a j) else 0) n
/-- One node more. -/
theorem Walks.leaf {t : List (Int × Int)} (ht : Ahead t) {n a : Nat} {f : Option Nat} {w : Int} {q : Nat → Prop} [DecidablePred q] (h : Walks t n a f w q) (h1 : 1 ≤ n) (hn : n + 1 ≤ t.length) (ha : a < n) (hf : f ≠ some n)
    (hq : q n ↔ q (tto t n)) : Walks t (n + 1) a f w q := by
  obtain ⟨M, v, s⟩ := h
  obtain ⟨M', v', s'⟩ := vis_leaf ht h1 hn v ha fun b l hm => nb_lt ht n (by omega) a ha b l hm
  have hp := (ht n h1 (by omega)).1
  have hsum : ∀ h : Nat → Int → Int, (h a w + sumL h M) + (more (tto t n) n (tlg t n) h a w + sumL (more (tto t n) n (tlg t n) h) M) = sumN (fun j => if q j then h j (w + dn t (n + 1) a j) else 0) (n + 1) := fun h => by
    rw [s h, s (more (tto t n) n (tlg t n) h)]
    simp only [sumN]
    have e1 : sumN (fun j => if q j then h j (w + dn t n a j) else 0) n = sumN (fun j => if q j then h j (w + dn t (n + 1) a j) else 0) n :=
      sumN_congr fun i hi => by rw [dn_old ha hi]
    have e2 : sumN (fun j => if q j then more (tto t n) n (tlg t n) h j (w + dn t n a j) else 0) n = if q n then h n (w + dn t (n + 1) a n) else 0 := by
      by_cases hqn : q n
      · rw [if_pos hqn, dn_symm t (n + 1) a n, dn_new ha, dn_symm t n (tto t n) a]
        rw [← sumN_one (x := h n (w + (dn t n a (tto t n) + tlg t n))) hp]
        refine sumN_congr fun i hi => ?_
        unfold more
        by_cases e : i = tto t n
        · subst e; rw [if_pos (hq.1 hqn), if_pos rfl, if_pos rfl, Int.add_assoc]
        · rw [if_neg e, if_neg e]; split <;> rfl
      · rw [if_neg hqn]
        refine sumN_zero fun i hi => ?_
        unfold more
        by_cases e : i = tto t n
        · subst e; rw [if_neg (fun h => hqn (hq.2 h))]
        · rw [if_neg e]; split <;> rfl
    rw [e1, e2]
  by_cases hpa : tto t n = a
  · refine ⟨M' ++ [(n, w + tlg t n)], ?_, fun h => ?_⟩
    · rw [nb_old ha, if_pos hpa]
      refine v'.append (.go (M := []) (M' := []) hf ?_ (.nil _ _ _))
      rw [nb_new h1]
      exact .skip (by rw [hpa]) (.nil _ _ _)
    · rw [sumL_append, s' h, ← hsum h]
      simp only [sumL, more, if_pos hpa.symm]
      omega
  · refine ⟨M', ?_, fun h => ?_⟩
    · rw [nb_old ha, if_neg hpa, List.append_nil]; exact v'
    · rw [s' h, ← hsum h]
      simp only [more]
      rw [if_neg (fun e => hpa e.symm)]
      omega
/-- From the new node's neighbour, come to from the new node. -/
theorem vis_up_new {t : List (Int × Int)} (ht : Ahead t) {n : Nat} {w : Int} (h : Walks t n (tto t n) none w fun _ => True) (h1 : 1 ≤ n) (hn : n + 1 ≤ t.length) :
    ∃ M, VisL (nb t (n + 1)) (tto t n) (some n) w (nb t (n + 1) (tto t n)) M ∧ ∀ h, h (tto t n) w + sumL h M = sumN (fun j => h j (w + dn t n (tto t n) j)) n := by
  obtain ⟨M, v, s⟩ := h
  have hp := (ht n h1 (by omega)).1
  have hbs : ∀ b l, (b, l) ∈ nb t n (tto t n) → b < n := fun b l hm => nb_lt ht n (by omega) _ hp b l hm
  obtain ⟨M', v', s'⟩ := vis_leaf ht h1 hn (vis_from v rfl (Nat.le_refl n) hbs) hp hbs
  refine ⟨M', ?_, fun h => ?_⟩
  · rw [nb_old hp, if_pos rfl]
    have := v'.append (.skip (l := tlg t n) rfl (.nil (tto t n) (some n) w))
    simpa using this
  · have e := s (more (tto t n) n (tlg t n) h)
    have e0 : sumN (fun j => if True then more (tto t n) n (tlg t n) h j (w + dn t n (tto t n) j) else 0) n = h n (w + tlg t n) := by
      rw [← sumN_one (x := h n (w + tlg t n)) hp]
      refine sumN_congr fun i hi => ?_
      simp only [if_true, more]
      by_cases e : i = tto t n
      · subst e; rw [if_pos rfl, if_pos rfl, dn_diag t n _ hp, Int.add_zero]
      · rw [if_neg e, if_neg e]
    rw [e0] at e
    have e1 := s h
    simp only [if_true] at e1
    rw [← e1, s' h]
    simp only [more, if_true] at e
    omega
theorem walks_all {t : List (Int × Int)} (ht : Ahead t) : ∀ n, n ≤ t.length → ∀ a, a < n → ∀ w, Walks t n a none w fun _ => True
  | 0, _, a, ha, w => by omega
  | n + 1, hn, a, ha, w => by
    by_cases h0 : n = 0
    · subst h0
      obtain rfl : a = 0 := by omega
      exact ⟨[], .nil _ _ _, fun h => by simp [sumL, sumN, dn]⟩
    by_cases e : a = n
    · subst e
      have hp := (ht a (by omega) (by omega)).1
      obtain ⟨M, v, s⟩ := vis_up_new ht (walks_all ht a (by omega) _ hp (w + tlg t a)) (by omega) hn
      refine ⟨(tto t a, w + tlg t a) :: (M ++ []), ?_, fun h => ?_⟩
      · rw [nb_new (by omega)]
        exact .go (by simp) v (.nil _ _ _)
      · simp only [List.append_nil, sumL, sumN, if_true]
        have e1 := s h
        have e2 : sumN (fun j => h j (w + dn t (a + 1) a j)) a = sumN (fun j => h j (w + tlg t a + dn t a (tto t a) j)) a :=
          sumN_congr fun i hi => by rw [dn_new hi]; congr 1; omega
        rw [e2, dn_diag t (a + 1) a (by omega), Int.add_zero]
        omega
    · exact (walks_all ht n (by omega) a (by omega) w).leaf ht (by omega) hn (by omega) (by simp) (by simp)
instance (t : List (Int × Int)) (v : Nat) : DecidablePred (Bh t v) := fun i => inferInstanceAs (Decidable (tp t v i = v))
theorem walks_down {t : List (Int × Int)} (ht : Ahead t) : ∀ n, n ≤ t.length → ∀ c, 1 ≤ c → c < n → ∀ w, Walks t n c (some (tto t c)) w (Bh t c)
  | 0, _, c, _, hc, w => by omega
  | n + 1, hn, c, h1, hc, w => by
    have hp := (ht c h1 (by omega)).1
    by_cases e : c = n
    · subst e
      refine ⟨[], ?_, fun h => ?_⟩
      · rw [nb_new h1]; exact .skip rfl (.nil _ _ _)
      · simp only [sumL, sumN]
        rw [if_pos (bh_self t c), dn_diag t (c + 1) c (by omega), sumN_zero fun i hi => if_neg fun hb => by have := bh_le ht (by omega) hb; omega]
        simp only [Int.add_zero, Int.zero_add]
    · exact (walks_down ht n (by omega) c h1 (by omega) w).leaf ht (by omega) hn (by omega) (by simp; omega) (bh_up ht (by omega) (by omega))
theorem walks_up {t : List (Int × Int)} (ht : Ahead t) : ∀ n, n ≤ t.length → ∀ c, 1 ≤ c → c < n → ∀ w, Walks t n (tto t c) (some c) w fun j => ¬ Bh t c j
  | 0, _, c, _, hc, w => by omega
  | n + 1, hn, c, h1, hc, w => by
    have hp := (ht c h1 (by omega)).1
    by_cases e : c = n
    · subst e
      obtain ⟨M, v, s⟩ := vis_up_new ht (walks_all ht c (by omega) _ hp w) h1 hn
      refine ⟨M, v, fun h => ?_⟩
      rw [s h]
      simp only [sumN]
      rw [if_neg (fun hb => hb (bh_self t c)), Int.add_zero]
      exact sumN_congr fun i hi => by rw [if_pos (fun hb => by have := bh_le ht (by omega) hb; omega), dn_old hp hi]
    · exact (walks_up ht n (by omega) c h1 (by omega) w).leaf ht (by omega) hn (by omega) (by simp; omega) (by rw [bh_up ht (by omega) (by omega)])
/-- What a walk visits, seen one by one. -/
theorem sumL_pos {h : Nat → Int → Int} (h0 : ∀ i x, 0 ≤ h i x) : ∀ {M : List (Nat × Int)}, 0 ≤ sumL h M ∧ ∀ x ∈ M, h x.1 x.2 ≤ sumL h M
  | [] => ⟨Int.le_refl _, fun x hx => by cases hx⟩
  | y :: r => by
    obtain ⟨h1, h2⟩ := sumL_pos h0 (M := r)
    simp only [sumL]
    have := h0 y.1 y.2
    refine ⟨by omega, fun x hx => ?_⟩
    rcases List.mem_cons.1 hx with e | e
    · subst e; omega
    · have := h2 x e; omega
/-- All that is visited is told with its way, and is one for which q holds. -/
theorem visited_way {t : List (Int × Int)} {n a : Nat} {w : Int} {q : Nat → Prop} [DecidablePred q] {M : List (Nat × Int)} (s : ∀ h : Nat → Int → Int, h a w + sumL h M = sumN (fun j => if q j then h j (w + dn t n a j) else 0) n) :
    ∀ x ∈ (a, w) :: M, x.1 < n ∧ q x.1 ∧ x.2 = w + dn t n a x.1 := by
  intro x hx
  have h := s fun i y => if i < n ∧ q i ∧ y = w + dn t n a i then 0 else 1
  have hz : sumN (fun j => if q j then (fun (i : Nat) (y : Int) => if i < n ∧ q i ∧ y = w + dn t n a i then (0 : Int) else 1) j (w + dn t n a j) else 0) n = 0 :=
    sumN_zero fun i hi => by
      by_cases hq : q i
      · rw [if_pos hq]; simp [hi, hq]
      · rw [if_neg hq]
  rw [hz] at h
  have hp := (sumL_pos (h := fun i y => if i < n ∧ q i ∧ y = w + dn t n a i then 0 else 1) (fun i x => by split <;> omega) (M := (a, w) :: M)).2 x hx
  simp only [sumL] at hp
  by_cases hc : x.1 < n ∧ q x.1 ∧ x.2 = w + dn t n a x.1
  · exact hc
  · rw [if_neg hc] at hp; omega
theorem sumL_zero {h : Nat → Int → Int} : ∀ {M : List (Nat × Int)}, (∀ x ∈ M, h x.1 x.2 = 0) → sumL h M = 0
  | [], _ => rfl
  | y :: r, hz => by simp only [sumL, sumL_zero (M := r) fun x hx => hz x (List.mem_cons_of_mem _ hx), hz y (List.mem_cons_self ..)]; rfl
/-- Each node for which q holds is visited. -/
theorem visited_all {t : List (Int × Int)} {n a : Nat} {w : Int} {q : Nat → Prop} [DecidablePred q] {M : List (Nat × Int)} (s : ∀ h : Nat → Int → Int, h a w + sumL h M = sumN (fun j => if q j then h j (w + dn t n a j) else 0) n)
    {j : Nat} (hj : j < n) (hq : q j) : (j, w + dn t n a j) ∈ (a, w) :: M := by
  by_cases hm : ∃ x ∈ (a, w) :: M, x.1 = j
  · obtain ⟨x, hx, e⟩ := hm
    have := (visited_way s x hx).2.2
    rw [e] at this
    have ex : x = (j, w + dn t n a j) := Prod.ext e this
    rw [← ex]; exact hx
  · have h := s fun i _ => if i = j then 1 else 0
    have hz : sumL (fun i _ => if i = j then 1 else 0) ((a, w) :: M) = 0 := sumL_zero fun x hx => if_neg fun e => hm ⟨x, hx, e⟩
    simp only [sumL] at hz
    rw [hz] at h
    have h1 : sumN (fun i => if q i then (if i = j then (1 : Int) else 0) else 0) n = 1 := by
      refine Eq.trans (sumN_congr (G := fun i => if i = j then 1 else 0) fun i hi => ?_) (sumN_one hj)
      by_cases e : i = j
      · subst e; rw [if_pos hq]
      · rw [if_neg e]; split <;> rfl
    rw [h1] at h
    omega
theorem sumL_len : ∀ M : List (Nat × Int), sumL (fun _ _ => 1) M = M.length
  | [] => rfl
  | y :: r => by simp only [sumL, sumL_len r, List.length_cons]; omega
theorem sumN_le {F : Nat → Int} {c : Int} : ∀ {n}, (∀ i, i < n → F i ≤ c) → sumN F n ≤ c * n
  | 0, _ => by simp [sumN]
  | n + 1, h => by
    have := sumN_le (n := n) fun i hi => h i (by omega)
    have := h n (by omega)
    simp only [sumN]
    rw [show c * ((n + 1 : Nat) : Int) = c * n + c by rw [Int.natCast_succ, Int.mul_add, Int.mul_one]]
    omega
theorem visited_len {t : List (Int × Int)} {n a : Nat} {w : Int} {q : Nat → Prop} [DecidablePred q] {M : List (Nat × Int)} (s : ∀ h : Nat → Int → Int, h a w + sumL h M = sumN (fun j => if q j then h j (w + dn t n a j) else 0) n) : M.length + 1 ≤ n := by
  have h := s fun _ _ => 1
  rw [sumL_len] at h
  have := sumN_le (F := fun j => if q j then (1 : Int) else 0) (c := 1) (n := n) fun i _ => by split <;> omega
  omega
end Go.Proofs.Ytkgomgfhhhdnjab
