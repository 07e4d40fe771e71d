/-
  A net drawn.
  Conditions: none beyond what each theorem states.
  Helpers drawn.
  Conditions: none beyond what each theorem states.
  The drawn arguments of NetCover, NetApart and NetFar.
  Conditions: as the contracts state.
-/
import Derived.Test.YtkgomgfhhhdnjabZ1
import Derived.Test.YtkgomgfhhhdnjabZ2
namespace Go.Proofs.Ytkgomgfhhhdnjab
open Go.ChangeShapes Go.WideShapes Go.ChangeAt Go.RowKit
set_option linter.unusedVariables false
set_option maxRecDepth 4000

theorem lit_three (w : World) (x y z : Value) (t : TypeId) : ∀ j u, [x, y, z][j]? = some u → (w.alloc (.cells #[x, y, z] t)).cell? ((⟨w.heap.size, 0, none⟩ : Addr).add j) = some u := by
  intro j u hu
  rw [addr_add0, cell_of_row _ _ _ _ t (0, 0) (heap_alloc_new w _)]
  simpa using hu
theorem flat3_set1 (p : Str) (r : List Str) (d : Int) : flat3 ((p.1, d, p.2.2) :: r) = (flat3 (p :: r)).set 1 d := rfl
theorem flat3_set2 (p : Str) (r : List Str) (d : Int) : flat3 ((p.1, p.2.1, d) :: r) = (flat3 (p :: r)).set 2 d := rfl
def NetPost (B R k : Nat) (w : World) (e : Ending) (w' : World) : Prop :=
  ∃ n : Int, ∃ v, ∃ ss : List Str, e = .returned (.tuple #[.int .i64 n, v]) ∧ 0 ≤ n ∧ n ≤ 8 ∧ ss.length ≤ 11 ∧ w'.ownsRow w.heap.size 74 3 v ss.length ((flat3 ss).map (Value.int .i64)) ∧ GR w' B R (k + 40) ∧ w.grownBy w' (some R)
def NetRel1 (B R k : Nat) (n : Nat) (w : World) (o v : Value) (wr : World) : Prop :=
  ∃ ss : List Str, ∃ u q : Nat, v = .int .i64 (u : Nat) ∧ 1 ≤ u ∧ u ≤ n ∧ ss.length + 1 ≤ u ∧ q ≤ k + 1 + 3 * (u - 1) ∧
    wr.ownsRow w.heap.size 74 3 o ss.length ((flat3 ss).map (Value.int .i64)) ∧ GR wr B R q ∧ w.grownBy wr (some R)
def NetRel2 (B R k : Nat) (w : World) (o v : Value) (wr : World) : Prop :=
  ∃ ss : List Str, ∃ m q : Nat, v = .int .i64 (m : Nat) ∧ m ≤ 5 ∧ ss.length + m ≤ 11 ∧ q + 3 * m ≤ k + 35 ∧
    wr.ownsRow w.heap.size 74 3 o ss.length ((flat3 ss).map (Value.int .i64)) ∧ GR wr B R q ∧ w.grownBy wr (some R)
set_option maxHeartbeats 4000000 in
theorem someNet_any (R B k : Nat) (w : World) (hg : GR w B R k) (hk : k ≤ 80000) :
    Calls Try.prog 80 #[.pointer (some ⟨R, 0, none⟩)] w (NetPost B R k w) := by
  obtain ⟨i0, hi0, hz0, hz1, hz2⟩ := info_parts strInfo
  have hRlt := hg.lt
  have H1 := Lib.hid (oneLit R B k [5, 4, 6, 3, 7, 2, 1] 7 1 7 w _ hg (by omega) rfl (by omega) (by omega) rfl (by decide))
  clear hg
  go_enter Try.func80, Try.ntmps80
  go_wp2_with fail
  refine H1.out.mono ?_
  rintro e w1 ⟨n, rfl, hn0, hn7, hg1, hgr1⟩
  obtain ⟨n, rfl⟩ := Int.eq_ofNat_of_zero_le (show 0 ≤ n by omega)
  have hga : GR (w1.alloc (.cells #[] 74)) B R (k + 1) := hg1.kept (row := none) (World.grownBy_alloc _ _ _) (fun g h => by cases h)
  have hgba : w.grownBy (w1.alloc (.cells #[] 74)) (some R) := gb_trans hgr1 (World.grownBy_alloc w1 _ none) (.inr (fun g h => by cases h))
  have hown0 : (w1.alloc (.cells #[] 74)).ownsRow w.heap.size 74 3 (.slice (some ⟨w1.heap.size, 0, none⟩) 0 0) 0 [] :=
    World.ownsRow_lit w1 #[] 0 hgr1.size (by decide) rfl
  have Hown0 := Lib.hid hown0
  have Hga := Lib.hid hga
  have Hgba := Lib.hid hgba
  clear hown0 hga hgba hg1 hgr1 H1
  go_wp2
  go_loopw [5, 6] (fun o v wr => NetRel1 B R k n w o v wr) (fun _ v _ => n - (intOf v).toNat)
  case atStart => exact ⟨[], 1, k + 1, rfl, Nat.le_refl _, by omega, by simp, by omega, Hown0.out, Hga.out, Hgba.out⟩
  case round =>
    clear Hown0 Hga Hgba
    obtain ⟨ss, u, q, rfl, hu1, hun, hlu, hq, hown, hgr, hgb⟩ := hrel
    have hws := hgb.size
    have hwo := hown.lt
    have Hwo := Lib.hid hwo
    have Hown := Lib.hid hown
    obtain ⟨A, c, rfl, hc1, hc2, -⟩ := own_sliceN hown
    clear hown hwo
    by_cases hlt : u < n
    · go_wp2_with fail
      refine (pick_any R B q 8 wr hgr (by omega) (by omega) (by omega)).mono ?_
      rintro e w2 ⟨x, rfl, hx0, -, -, hgr2, hgw2⟩
      have hgb2 := gb_trans hgb hgw2 (.inl rfl)
      have hown2 := Hown.out.kept hgw2 (.inr (fun e => by have := (Hwo.out R e).1; omega))
      have Hown2 := Lib.hid hown2
      clear hown2 hgw2 Hown hgb hgr
      by_cases hx : 0 < x
      · go_wp2_with fail
        refine (pick_any R B (q + 1) u w2 hgr2 (by omega) (by omega) (by omega)).mono ?_
        rintro e w3 ⟨a, rfl, ha0, ha1, -, hgr3, hgw3⟩
        have hgb3 := gb_trans hgb2 hgw3 (.inl rfl)
        have hown3 := Hown2.out.kept hgw3 (.inr (fun e => by have := (Hwo.out R e).1; omega))
        have Hown3 := Lib.hid hown3
        clear hown3 hgw3 Hown2 hgb2 ha1
        go_wp2_with fail
        refine (oneLitAt _ R B (q + 1 + 1) [1, 2, 3, 4, 9] 5 1 9 w3 _ hgr3 (by omega) rfl (by omega) (by omega) rfl (by decide) rfl).mono ?_
        rintro e w7 ⟨y, rfl, hy0, hy1, hgr7, hgw7⟩
        have hgb7 := gb_trans hgb3 hgw7 (.inl rfl)
        have hown7 := Hown3.out.kept hgw7 (.inr (fun e => by have := (Hwo.out R e).1; omega))
        have hws7 := hgb7.size
        have hsz : ss.length + 1 ≤ maxLen := by unfold maxLen; omega
        have hsz2 : (ss.length + 1) * 24 ≤ 140737488355328 := by omega
        have hsz3 : w.heap.size ≤ (w7.alloc (.cells #[.int .i64 a, .int .i64 u, .int .i64 y] 74)).heap.size := by rw [size_alloc1]; omega
        go_wp2_with (at_builtin; refine wpList_append_own _ rfl _ _ 31 rfl w.heap.size 74 i0 _ 3 24 Try.underlying31 hi0 hz0 hz1 hz2 rfl (by decide) _ _ _ rfl (hown7.alloc _) ⟨w7.heap.size, 0, none⟩ 1 1 [.int .i64 a, .int .i64 u, .int .i64 y] rfl rfl (lit_three _ _ _ _ _) (by intro u hu; simp at hu; rcases hu with rfl | rfl | rfl <;> rfl) hsz hsz2 hsz3 ?_; intro v' w3 hown' hgrow _)
        have hgr8 : GR w3 B R (q + 1 + 1 + 1) := (hgr7.kept (row := none) (World.grownBy_alloc _ _ _) (fun g h => by cases h)).kept hgrow (fun g h => by have := (hown7.lt g h).1; omega)
        have hgb8 : w.grownBy w3 (some R) := gb_trans (gb_trans hgb7 (World.grownBy_alloc w7 _ none) (.inr (fun g h => by cases h))) hgrow (.inr (fun g h => (hown7.lt g h).1))
        have Hown' := Lib.hid hown'
        clear hown' hgrow hown7 hgr7 hgb7 hws hgr2 hgb3 hgr3 hsz hsz2 hsz3
        go_wp2
        go_roundw
        case rel => exact ⟨ss ++ [(a, (u : Int), y)], u + 1, q + 1 + 1 + 1, by go_num, by omega, by omega, by simp; omega, by omega, by simpa [flat3_append, flat3] using Hown'.out, hgr8, hgb8⟩
        case measure => simp [intOf]; omega
      · go_wp2
        go_roundw
        case rel => exact ⟨ss, u + 1, q + 1, by go_num, by omega, by omega, by omega, by omega, Hown2.out, hgr2, hgb2⟩
        case measure => simp [intOf]; omega
    · obtain rfl : n = u := by omega
      go_wp2_with fail
      refine (oneLitAt _ R B q [1, 2, 0, 3, 5] 5 0 5 wr _ hgr (by omega) rfl (by omega) (by omega) rfl (by decide) rfl).mono ?_
      rintro e w2 ⟨m, rfl, hm0, hm5, hgr2, hgw2⟩
      obtain ⟨m, rfl⟩ := Int.eq_ofNat_of_zero_le hm0
      have hgb2 := gb_trans hgb hgw2 (.inl rfl)
      have hown2 := Hown.out.kept hgw2 (.inr (fun e => by have := (Hwo.out R e).1; omega))
      have Hown2 := Lib.hid hown2
      clear hown2 hgw2 Hown hgb hgr
      go_wp2
      go_loopw [5, 7] (fun o v wr => NetRel2 B R k w o v wr) (fun _ v _ => (intOf v).toNat)
      case atStart => exact ⟨ss, m, q + 1, rfl, by omega, by omega, by omega, Hown2.out, hgr2, hgb2⟩
      case round =>
        clear Hown2 hgr2 hgb2 Hwo hws hq hlu hm5 hm0 hc1 hc2
        obtain ⟨ss, m, q, rfl, hm5, hlm, hq, hown, hgr, hgb⟩ := hrel
        have hws := hgb.size
        have hwo := hown.lt
        have Hwo := Lib.hid hwo
        have Hown := Lib.hid hown
        obtain ⟨A, c, rfl, hc1, hc2, hAg⟩ := own_sliceN hown
        clear hown hwo
        by_cases hpos : 0 < m
        · clear hAg
          go_wp2_with fail
          refine (pick_any R B q n wr hgr (by omega) (by omega) (by omega)).mono ?_
          rintro e w2 ⟨x, rfl, -, -, -, hgr2, hgw2⟩
          have hgb2 := gb_trans hgb hgw2 (.inl rfl)
          have hown2 := Hown.out.kept hgw2 (.inr (fun e => by have := (Hwo.out R e).1; omega))
          have Hown2 := Lib.hid hown2
          clear hown2 hgw2 Hown hgb hgr
          go_wp2_with fail
          refine (pick_any R B (q + 1) n w2 hgr2 (by omega) (by omega) (by omega)).mono ?_
          rintro e w3 ⟨a, rfl, -, -, -, hgr3, hgw3⟩
          have hgb3 := gb_trans hgb2 hgw3 (.inl rfl)
          have hown3 := Hown2.out.kept hgw3 (.inr (fun e => by have := (Hwo.out R e).1; omega))
          have Hown3 := Lib.hid hown3
          clear hown3 hgw3 Hown2 hgb2
          go_wp2_with fail
          refine (oneLitAt _ R B (q + 1 + 1) [1, 2, 5, 9] 4 1 9 w3 _ hgr3 (by omega) rfl (by omega) (by omega) rfl (by decide) rfl).mono ?_
          rintro e w7 ⟨y, rfl, hy0, hy1, hgr7, hgw7⟩
          have hgb7 := gb_trans hgb3 hgw7 (.inl rfl)
          have hown7 := Hown3.out.kept hgw7 (.inr (fun e => by have := (Hwo.out R e).1; omega))
          have hws7 := hgb7.size
          have hsz : ss.length + 1 ≤ maxLen := by unfold maxLen; omega
          have hsz2 : (ss.length + 1) * 24 ≤ 140737488355328 := by omega
          have hsz3 : w.heap.size ≤ (w7.alloc (.cells #[.int .i64 x, .int .i64 a, .int .i64 y] 74)).heap.size := by rw [size_alloc1]; omega
          go_wp2_with (at_builtin; refine wpList_append_own _ rfl _ _ 31 rfl w.heap.size 74 i0 _ 3 24 Try.underlying31 hi0 hz0 hz1 hz2 rfl (by decide) _ _ _ rfl (hown7.alloc _) ⟨w7.heap.size, 0, none⟩ 1 1 [.int .i64 x, .int .i64 a, .int .i64 y] rfl rfl (lit_three _ _ _ _ _) (by intro u hu; simp at hu; rcases hu with rfl | rfl | rfl <;> rfl) hsz hsz2 hsz3 ?_; intro v' w3 hown' hgrow _)
          have hgr8 : GR w3 B R (q + 1 + 1 + 1) := (hgr7.kept (row := none) (World.grownBy_alloc _ _ _) (fun g h => by cases h)).kept hgrow (fun g h => by have := (hown7.lt g h).1; omega)
          have hgb8 : w.grownBy w3 (some R) := gb_trans (gb_trans hgb7 (World.grownBy_alloc w7 _ none) (.inr (fun g h => by cases h))) hgrow (.inr (fun g h => (hown7.lt g h).1))
          have Hown' := Lib.hid hown'
          clear hown' hgrow hown7 hgr7 hgb7 hws hgr2 hgb3 hgr3 hsz hsz2 hsz3
          go_wp2
          go_roundw
          case rel => exact ⟨ss ++ [(x, a, y)], m - 1, q + 1 + 1 + 1, by go_num, by omega, by simp; omega, by omega, by simpa [flat3_append, flat3] using Hown'.out, hgr8, hgb8⟩
          case measure => simp [intOf]; omega
        · obtain rfl : m = 0 := by omega
          cases ss with
          | nil =>
            clear hAg
            go_wp2
            go_ret2
            exact ⟨n, _, [], rfl, by omega, by omega, by simp, Hown.out, hgr.more (by omega), hgb⟩
          | cons p ss =>
            obtain ⟨g, rfl, hAg1, hAg2⟩ := hAg (by simp)
            have hlen : (0 : Int) < (((p :: ss).length : Nat) : Int) := by rw [List.length_cons]; omega
            obtain ⟨l, Hl⟩ : ∃ l, Hid ((p :: ss).length = l) := ⟨_, rfl⟩
            rw [Hl.out] at hlen hlm hc1 Hown Hwo ⊢
            go_wp2_with fail
            refine (pick_any R B q 40 wr hgr (by omega) (by omega) (by omega)).mono ?_
            rintro e w2 ⟨x, rfl, hx0, -, -, hgr2, hgw2⟩
            have hgb2 := gb_trans hgb hgw2 (.inl rfl)
            have hown2 := Hown.out.kept hgw2 (.inr (fun e => by have := (Hwo.out R e).1; omega))
            have Hown2 := Lib.hid hown2
            clear hown2 hgw2 Hown hgb hgr
            by_cases hv : x = 0
            · subst hv
              go_wp2_with fail
              refine (oneLitAt _ R B (q + 1) [-1, n] 2 (-1) 7 w2 _ hgr2 (by omega) rfl (by omega) (by omega) rfl (by intro x hx; simp at hx; omega) rfl).mono ?_
              rintro e w7 ⟨d, rfl, hd0, hd1, hgr7, hgw7⟩
              have hgb7 := gb_trans hgb2 hgw7 (.inl rfl)
              have hown7 := Hown2.out.kept hgw7 (.inr (fun e => by have := (Hwo.out R e).1; omega))
              obtain ⟨v7, hv7⟩ := own_cell hown7 (j := 1) (by omega) (by simp [flat3_len, ← Hl.out])
              have hf7 := hown7.frozenAt 1
              have hst := (hown7.stored 1 (.int .i64 d)).1
              have hgs := (hown7.stored 1 (.int .i64 d)).2
              have hgb8 := gb_trans hgb7 hgs (.inr (fun g' h' => by cases h'; exact hAg1))
              have hgr8 := hgr7.kept hgs (fun g' h' => by cases h'; omega)
              have Hst := Lib.hid hst
              have Hgb8 := Lib.hid hgb8
              have Hgr8 := Lib.hid hgr8
              clear hst hgb8 hgr8 hown7 hgb7 hgb2 hgw7 hgs Hown2
              go_wp2
              go_ret2
              exact ⟨n, _, (p.1, d, p.2.2) :: ss, rfl, by omega, by omega, by have := Hl.out; simp at this ⊢; omega, by rw [flat3_set1, List.map_set, show ((p.1, d, p.2.2) :: ss).length = l from Hl.out]; exact Hst.out, Hgr8.out.more (by omega), Hgb8.out⟩
            · have hvb : (x == 0) = false := by rw [beq_eq_false_iff_ne]; exact hv
              by_cases hv1 : x = 1
              · subst hv1
                clear hv hvb
                go_wp2_with fail
                refine (oneLitAt _ R B (q + 1) [0, 10] 2 0 10 w2 _ hgr2 (by omega) rfl (by omega) (by omega) rfl (by decide) rfl).mono ?_
                rintro e w7 ⟨d, rfl, hd0, hd1, hgr7, hgw7⟩
                have hgb7 := gb_trans hgb2 hgw7 (.inl rfl)
                have hown7 := Hown2.out.kept hgw7 (.inr (fun e => by have := (Hwo.out R e).1; omega))
                obtain ⟨v7, hv7⟩ := own_cell hown7 (j := 2) (by omega) (by simp [flat3_len, ← Hl.out])
                have hf7 := hown7.frozenAt 2
                have hst := (hown7.stored 2 (.int .i64 d)).1
                have hgs := (hown7.stored 2 (.int .i64 d)).2
                have hgb8 := gb_trans hgb7 hgs (.inr (fun g' h' => by cases h'; exact hAg1))
                have hgr8 := hgr7.kept hgs (fun g' h' => by cases h'; omega)
                have Hst := Lib.hid hst
                have Hgb8 := Lib.hid hgb8
                have Hgr8 := Lib.hid hgr8
                clear hst hgb8 hgr8 hown7 hgb7 hgb2 hgw7 hgs Hown2
                go_wp2
                go_ret2
                exact ⟨n, _, (p.1, p.2.1, d) :: ss, rfl, by omega, by omega, by have := Hl.out; simp at this ⊢; omega, by rw [flat3_set2, List.map_set, show ((p.1, p.2.1, d) :: ss).length = l from Hl.out]; exact Hst.out, Hgr8.out.more (by omega), Hgb8.out⟩
              · have hvb1 : (x == 1) = false := by rw [beq_eq_false_iff_ne]; exact hv1
                by_cases hv2 : x = 2
                · subst hv2
                  clear hv hvb hv1 hvb1
                  go_wp2_with fail
                  refine (oneLitAt _ R B (q + 1) [0, 8] 2 0 8 w2 _ hgr2 (by omega) rfl (by omega) (by omega) rfl (by decide) rfl).mono ?_
                  rintro e w7 ⟨d, rfl, hd0, hd1, hgr7, hgw7⟩
                  have hgb7 := gb_trans hgb2 hgw7 (.inl rfl)
                  have hown7 := Hown2.out.kept hgw7 (.inr (fun e => by have := (Hwo.out R e).1; omega))
                  have Hown7 := Lib.hid hown7
                  clear hown7 hgb2 hgw7 Hown2
                  go_wp2
                  go_ret2
                  exact ⟨d, _, p :: ss, rfl, by omega, by omega, by rw [Hl.out]; omega, by rw [Hl.out]; exact Hown7.out, hgr7.more (by omega), hgb7⟩
                · have hvb2 : (x == 2) = false := by rw [beq_eq_false_iff_ne]; exact hv2
                  clear hv hv1 hv2
                  go_wp2
                  go_ret2
                  exact ⟨n, _, p :: ss, rfl, by omega, by omega, by rw [Hl.out]; omega, by rw [Hl.out]; exact Hown2.out, hgr2.more (by omega), hgb2⟩
end Go.Proofs.Ytkgomgfhhhdnjab
namespace Go.Proofs.Ytkgomgfhhhdnjab
open Go.ChangeShapes Go.WideShapes Go.ChangeAt Go.RowKit
set_option linter.unusedVariables false

set_option maxHeartbeats 400000 in
theorem helpers_any (R B k : Nat) (w : World) (hg : GR w B R k) (hk : k ≤ 90000) :
    Calls Try.prog 87 #[.pointer (some ⟨R, 0, none⟩)] w (OnePost B R k 0 5 w) := by
  go_enter Try.func87, Try.ntmps87
  go_wp2_with fail
  refine (oneLit R B k [2, 3, 1, 4, 2, 3, 0, 5, 1, 2] 10 0 5 w _ hg (by omega) rfl (by omega) (by omega) rfl (by decide)).mono ?_
  rintro e w2 ⟨m, rfl, hm2, hm3, hg2, hgr2⟩
  go_wp2
  go_ret
  exact ⟨m, rfl, hm2, hm3, hg2, hgr2⟩
end Go.Proofs.Ytkgomgfhhhdnjab
namespace Go.Proofs.Ytkgomgfhhhdnjab
open Go.ChangeShapes Go.WideShapes Go.ChangeAt Go.RowKit
set_option linter.unusedVariables false

def DrawnNet (w : World) (e : Ending) (w' : World) : Prop :=
  ∃ n : Int, ∃ A c, ∃ ss : List Str, e = .returned (.tuple #[.int .i64 n, .slice A ss.length c]) ∧ 0 ≤ n ∧ n ≤ 8 ∧ ss.length ≤ 11 ∧ ss.length ≤ c ∧ c ≤ 9223372036854775807 ∧ RdS w' w'.heap.size A ss ∧ Below w.heap.size w w'
def DrawnNetK (w : World) (e : Ending) (w' : World) : Prop :=
  ∃ n : Int, ∃ A c, ∃ ss : List Str, ∃ k : Int, e = .returned (.tuple #[.int .i64 n, .slice A ss.length c, .int .i64 k]) ∧ 0 ≤ n ∧ n ≤ 8 ∧ -1 ≤ k ∧ k ≤ 51 ∧ ss.length ≤ 11 ∧ ss.length ≤ c ∧ c ≤ 9223372036854775807 ∧ RdS w' w'.heap.size A ss ∧ Below w.heap.size w w'
theorem drawNetCover_any (A : Option Addr) (c n : Nat) (bs : List Int) (w : World) (hr : RdB w w.heap.size A bs) (hn : bs.length = n) (hc : n ≤ c) (hm : c ≤ 9223372036854775807) :
    Calls Try.prog 33 #[.slice A n c] w (DrawnNetK w) := by
  have H := Lib.hid (newReader_any A c n bs w hr hn hc hm)
  clear hn
  go_enter Try.func33, Try.ntmps33
  go_wp2_with fail
  refine H.out.mono ?_
  rintro e w1 ⟨rfl, hg1, hnx1⟩
  go_wp2_with fail
  refine (someNet_any w.heap.size w.heap.size 0 w1 hg1 (by omega)).mono ?_
  rintro e w2 ⟨m, v, ss, rfl, hm0, hm8, hl, hown, hg2, hgb2⟩
  have hwo := hown.lt
  have Hwo := Lib.hid hwo
  have Hown := Lib.hid hown
  clear hwo hown
  go_wp2_with fail
  refine (aFar_any w.heap.size w.heap.size (0 + 40) w2 hg2 (by omega)).mono ?_
  rintro e w3 ⟨k, rfl, hk1, hk2, hg3, hgb3⟩
  have hown3 := Hown.out.kept hgb3 (.inr (fun e => by have := (Hwo.out _ e).1; have := hg1.lt; omega))
  obtain ⟨A', c', rfl, hc1, hc2, hrd⟩ := rdS_own hown3 rfl
  go_wp2
  go_ret3
  exact ⟨m, A', c', ss, k, rfl, hm0, hm8, by omega, by omega, hl, hc1, hc2, hrd, hnx1.trans (gb_below (gb_trans hgb2 hgb3 (.inl rfl)) (Nat.le_refl _) hnx1.size)⟩
theorem drawNetApart_any (A : Option Addr) (c n : Nat) (bs : List Int) (w : World) (hr : RdB w w.heap.size A bs) (hn : bs.length = n) (hc : n ≤ c) (hm : c ≤ 9223372036854775807) :
    Calls Try.prog 36 #[.slice A n c] w (DrawnNetK w) := by
  have H := Lib.hid (newReader_any A c n bs w hr hn hc hm)
  clear hn
  go_enter Try.func36, Try.ntmps36
  go_wp2_with fail
  refine H.out.mono ?_
  rintro e w1 ⟨rfl, hg1, hnx1⟩
  go_wp2_with fail
  refine (someNet_any w.heap.size w.heap.size 0 w1 hg1 (by omega)).mono ?_
  rintro e w2 ⟨m, v, ss, rfl, hm0, hm8, hl, hown, hg2, hgb2⟩
  have hwo := hown.lt
  have Hwo := Lib.hid hwo
  have Hown := Lib.hid hown
  clear hwo hown
  go_wp2_with fail
  refine (aFar_any w.heap.size w.heap.size (0 + 40) w2 hg2 (by omega)).mono ?_
  rintro e w3 ⟨k, rfl, hk1, hk2, hg3, hgb3⟩
  have hown3 := Hown.out.kept hgb3 (.inr (fun e => by have := (Hwo.out _ e).1; have := hg1.lt; omega))
  obtain ⟨A', c', rfl, hc1, hc2, hrd⟩ := rdS_own hown3 rfl
  go_wp2
  go_ret3
  exact ⟨m, A', c', ss, k, rfl, hm0, hm8, by omega, by omega, hl, hc1, hc2, hrd, hnx1.trans (gb_below (gb_trans hgb2 hgb3 (.inl rfl)) (Nat.le_refl _) hnx1.size)⟩
theorem drawNetFar_any (A : Option Addr) (c n : Nat) (bs : List Int) (w : World) (hr : RdB w w.heap.size A bs) (hn : bs.length = n) (hc : n ≤ c) (hm : c ≤ 9223372036854775807) :
    Calls Try.prog 38 #[.slice A n c] w (DrawnNetK w) := by
  have H := Lib.hid (newReader_any A c n bs w hr hn hc hm)
  clear hn
  go_enter Try.func38, Try.ntmps38
  go_wp2_with fail
  refine H.out.mono ?_
  rintro e w1 ⟨rfl, hg1, hnx1⟩
  go_wp2_with fail
  refine (someNet_any w.heap.size w.heap.size 0 w1 hg1 (by omega)).mono ?_
  rintro e w2 ⟨m, v, ss, rfl, hm0, hm8, hl, hown, hg2, hgb2⟩
  have hwo := hown.lt
  have Hwo := Lib.hid hwo
  have Hown := Lib.hid hown
  clear hwo hown
  go_wp2_with fail
  refine (helpers_any w.heap.size w.heap.size (0 + 40) w2 hg2 (by omega)).mono ?_
  rintro e w3 ⟨k, rfl, hk1, hk2, hg3, hgb3⟩
  have hown3 := Hown.out.kept hgb3 (.inr (fun e => by have := (Hwo.out _ e).1; have := hg1.lt; omega))
  obtain ⟨A', c', rfl, hc1, hc2, hrd⟩ := rdS_own hown3 rfl
  go_wp2
  go_ret3
  exact ⟨m, A', c', ss, k, rfl, hm0, hm8, by omega, by omega, hl, hc1, hc2, hrd, hnx1.trans (gb_below (gb_trans hgb2 hgb3 (.inl rfl)) (Nat.le_refl _) hnx1.size)⟩
end Go.Proofs.Ytkgomgfhhhdnjab
