/-
  Chapter 5's model, walked: both go.
  Conditions: fewer than 2^20 calls.
-/
import Derived.Test.YthgllpiclaihjaaJJ
namespace Go.Proofs.Ythgllpiclaihjaa
open Go.ChangeShapes Go.WideShapes Go.ChangeAt Go.RowKit
set_option linter.unusedVariables false
set_option maxRecDepth 4000

/-- Where both stand, and how far they went, as the model's both answers. -/
def BothOut (a b : Int) (zs : List Int) (w : World) (e : Ending) (w' : World) : Prop :=
  e = .returned (.tuple #[.slice (some ⟨w.heap.size, 0, none⟩) 2 2, .int .i64 (bwF a b zs)]) ∧ Hid (w'.ownsRow w.heap.size 3 1 (.slice (some ⟨w.heap.size, 0, none⟩) 2 2) 2 [.int .i64 (beL a b zs), .int .i64 (beH a b zs)]) ∧ Hid (Below w.heap.size w w')
set_option maxHeartbeats 3200000 in
theorem sboth_any (a b : Int) (A : Option Addr) (c n : Nat) (zs : List Int) (w : World) (h : CallsIn w A c n zs) (ha : P50 a) (hb : P50 b) (hab : a ≤ b) (h8 : n ≤ 8) (h50 : On50 zs) :
    Calls Try.prog 53 #[.int .i64 a, .int .i64 b, .slice A n c] w (BothOut a b zs w) := by
  have HR := Lib.hid h.rd
  have Hn := Lib.hid h.len
  have H50 : Hid (∀ k x, k < n → zs.getD k 0 = x → P50 x) := fun k x hk hx => h50 x (by rw [← hx]; simp [List.getD, List.getElem?_eq_getElem (show k < zs.length by rw [h.len]; exact hk)])
  have HA0 : Hid (At bthL bthH bthW a b zs 0 0 a b) := ⟨by rw [List.drop_zero]; omega, by rw [List.drop_zero], by rw [List.drop_zero], ha, hb, hab, by omega, by omega⟩
  clear h h50 ha hab hb
  go_enter Try.func53, Try.ntmps53
  go_wp2
  go_loop [0, 1, 8, 9] (fun u v t i => ∃ k : Nat, ∃ t' lo hi : Int, k ≤ n ∧ i = .int .i64 k ∧ t = .int .i64 t' ∧ u = .int .i64 lo ∧ v = .int .i64 hi ∧ Hid (At bthL bthH bthW a b zs k t' lo hi)) (fun _ _ _ i => n - (intOf i).toNat)
  case atStart => exact ⟨0, 0, a, b, Nat.zero_le _, rfl, rfl, rfl, rfl, HA0⟩
  case round =>
    clear HA0
    obtain ⟨k, t', lo, hi, hk, rfl, rfl, rfl, rfl, HA⟩ := hrel
    by_cases hlt : k < n
    · obtain ⟨bx, ox, x, rfl, hbx, Hx, hcx⟩ := HR.out.x (k := k) (by rw [Hn.out]; exact hlt)
      obtain ⟨px0, px1⟩ := H50.out k x hlt Hx.out
      obtain ⟨plo0, plo1⟩ := HA.out.plo
      obtain ⟨phi0, phi1⟩ := HA.out.phi
      have hord := HA.out.ord
      have HA2 := Lib.hid (HA.out.step both_st (by rw [Hn.out]; exact hlt) Hx.out ⟨px0, px1⟩)
      have ht0 := HA.out.t0
      have ht1 := HA.out.t1
      by_cases e1 : x ≤ lo
      · have hl2 : bthL lo hi x = x := by unfold bthL; rw [if_pos e1]
        have hh2 : bthH lo hi x = hi := by unfold bthH; rw [if_pos e1]
        have hd2 : bthW lo hi x = lo - x := by unfold bthW; rw [if_pos e1]
        rw [hl2, hh2, hd2] at HA2
        clear hl2 hh2 hd2
        have hw1 : IntKind.i64.wrap (t' + lo) = t' + lo := IntWalk.i64_in _ (by omega)
        have hw2 : IntKind.i64.wrap (t' + lo - x) = t' + lo - x := IntWalk.i64_in _ (by omega)
        go_wp2
        go_round
        case rel => exact ⟨k + 1, t' + (lo - x), x, hi, by omega, by go_num, by congr 1; omega, rfl, rfl, HA2⟩
        case measure => simp [intOf]; omega
      · by_cases e2 : hi ≤ x
        · have hl2 : bthL lo hi x = lo := by unfold bthL; rw [if_neg e1, if_pos e2]
          have hh2 : bthH lo hi x = x := by unfold bthH; rw [if_neg e1, if_pos e2]
          have hd2 : bthW lo hi x = x - hi := by unfold bthW; rw [if_neg e1, if_pos e2]
          rw [hl2, hh2, hd2] at HA2
          clear hl2 hh2 hd2
          have hw1 : IntKind.i64.wrap (t' + x) = t' + x := IntWalk.i64_in _ (by omega)
          have hw2 : IntKind.i64.wrap (t' + x - hi) = t' + x - hi := IntWalk.i64_in _ (by omega)
          go_wp2
          go_round
          case rel => exact ⟨k + 1, t' + (x - hi), lo, x, by omega, by go_num, by congr 1; omega, rfl, rfl, HA2⟩
          case measure => simp [intOf]; omega
        · have hl2 : bthL lo hi x = lo + min (x - lo) (hi - x) := by unfold bthL; rw [if_neg e1, if_neg e2]
          have hh2 : bthH lo hi x = hi - min (x - lo) (hi - x) := by unfold bthH; rw [if_neg e1, if_neg e2]
          have hd2 : bthW lo hi x = 2 * min (x - lo) (hi - x) := by unfold bthW; rw [if_neg e1, if_neg e2]
          rw [hl2, hh2, hd2] at HA2
          clear hl2 hh2 hd2
          have hw1 : IntKind.i64.wrap (x - lo) = x - lo := IntWalk.i64_in _ (by omega)
          have hw2 : IntKind.i64.wrap (hi - x) = hi - x := IntWalk.i64_in _ (by omega)
          by_cases e3 : x - lo ≤ hi - x
          · rw [Int.min_eq_left e3] at HA2
            obtain ⟨d, Hd⟩ : ∃ d, Hid (x - lo = d) := ⟨_, rfl⟩
            have hd0 : 0 ≤ d ∧ d ≤ 50 := by have := Hd.out; omega
            rw [Hd.out] at HA2 hw1
            have hw3 : IntKind.i64.wrap (2 * d) = 2 * d := IntWalk.i64_in _ (by omega)
            have hw4 : IntKind.i64.wrap (t' + 2 * d) = t' + 2 * d := IntWalk.i64_in _ (by omega)
            have hw5 : IntKind.i64.wrap (lo + d) = lo + d := IntWalk.i64_in _ (by omega)
            have hw6 : IntKind.i64.wrap (hi - d) = hi - d := IntWalk.i64_in _ (by omega)
            go_wp2
            all_goals
              go_round
              case rel => exact ⟨k + 1, t' + 2 * d, lo + d, hi - d, by omega, by go_num, by first | rfl | (have := Hd.out; congr 1; omega), by first | rfl | (have := Hd.out; congr 1; omega), by first | rfl | (have := Hd.out; congr 1; omega), HA2⟩
              case measure => simp [intOf]; omega
          · rw [Int.min_eq_right (by omega)] at HA2
            obtain ⟨d, Hd⟩ : ∃ d, Hid (hi - x = d) := ⟨_, rfl⟩
            have hd0 : 0 ≤ d ∧ d ≤ 50 := by have := Hd.out; omega
            rw [Hd.out] at HA2 hw2
            have hw3 : IntKind.i64.wrap (2 * d) = 2 * d := IntWalk.i64_in _ (by omega)
            have hw4 : IntKind.i64.wrap (t' + 2 * d) = t' + 2 * d := IntWalk.i64_in _ (by omega)
            have hw5 : IntKind.i64.wrap (lo + d) = lo + d := IntWalk.i64_in _ (by omega)
            have hw6 : IntKind.i64.wrap (hi - d) = hi - d := IntWalk.i64_in _ (by omega)
            go_wp2
            all_goals
              go_round
              case rel => exact ⟨k + 1, t' + 2 * d, lo + d, hi - d, by omega, by go_num, by first | rfl | (have := Hd.out; congr 1; omega), by first | rfl | (have := Hd.out; congr 1; omega), by first | rfl | (have := Hd.out; congr 1; omega), HA2⟩
              case measure => simp [intOf]; omega
    · obtain rfl : k = n := by omega
      obtain ⟨e1, e2, e3⟩ := HA.out.done (by rw [Hn.out]; omega)
      rw [bw_it] at e1
      rw [beL_it] at e2
      rw [beH_it] at e3
      have E1 := Lib.hid e1
      have E2 := Lib.hid e2
      have E3 := Lib.hid e3
      have Ho : Hid ((w.alloc (.cells #[.int .i64 lo, .int .i64 hi] 3)).ownsRow w.heap.size 3 1 (.slice (some ⟨w.heap.size, 0, none⟩) 2 2) 2 [.int .i64 lo, .int .i64 hi]) :=
        World.ownsRow_lit _ #[.int .i64 lo, .int .i64 hi] 2 (Nat.le_refl _) (by decide) rfl
      clear e1 e2 e3
      go_wp2
      go_ret2
      refine ⟨by rw [E1.out]; rfl, ?_, (Below.refl _ _).alloc (Nat.le_refl _) _⟩
      rw [E2.out, E3.out]
      exact Ho
set_option maxHeartbeats 800000 in
theorem sWayBoth_ok : JNum 28 bwv := by
  intro a b A c n zs w h
  have H1 := Lib.hid (sValidCalls_any a b A c n zs w _ h.rd h.len (by have := h.most; omega))
  by_cases hv : vcl a b zs = true
  · rw [hv] at H1
    obtain ⟨⟨ha, hab, hb⟩, h8, h50⟩ := vcl_iff.1 hv
    have Hs : Hid (bwF a b zs = bwv a b zs) := by show _ = _; unfold bwv; rw [if_pos hv]
    have H2 := Lib.hid (fun q => sboth_any a b A c n zs (w.drewN q) (h.later (below_drewN (Below.refl _ _) q)) ⟨ha, by omega⟩ ⟨by omega, hb⟩ hab (by rw [← h.len]; exact h8) h50)
    unfold BothOut at H2
    rw [Hs.out] at H2
    clear h hv
    go_enter Try.func28, Try.ntmps28
    go_wp2_with fail
    refine H1.out.mono ?_
    rintro e w1 ⟨rfl, q, rfl⟩
    go_wp2_with fail
    refine (H2.out q).mono ?_
    rintro e w2 ⟨rfl, -, hq⟩
    go_wp2
    go_ret
    exact ⟨rfl, below_from hq.out⟩
  · have hv' : vcl a b zs = false := by simpa using hv
    rw [hv'] at H1
    have Hs : Hid (bwv a b zs = -1) := by show _ = _; unfold bwv; rw [if_neg hv]
    clear h hv hv'
    go_enter Try.func28, Try.ntmps28
    go_wp2_with fail
    refine H1.out.mono ?_
    rintro e w1 ⟨rfl, q, rfl⟩
    go_wp2
    go_ret
    exact ⟨ret_int Hs.out.symm, below_drewN (Below.refl _ _) q⟩
set_option maxHeartbeats 800000 in
theorem sStandBoth_ok : JRow 32 := by
  intro a b A c n zs w h
  have H1 := Lib.hid (sValidCalls_any a b A c n zs w _ h.rd h.len (by have := h.most; omega))
  by_cases hv : vcl a b zs = true
  · rw [hv] at H1
    obtain ⟨⟨ha, hab, hb⟩, h8, h50⟩ := vcl_iff.1 hv
    have hs : sbv a b zs = [beL a b zs, beH a b zs] := by unfold sbv; rw [if_pos hv]
    rw [hs]
    have H2 := Lib.hid (fun q => sboth_any a b A c n zs (w.drewN q) (h.later (below_drewN (Below.refl _ _) q)) ⟨ha, by omega⟩ ⟨by omega, hb⟩ hab (by rw [← h.len]; exact h8) h50)
    unfold BothOut at H2
    clear h hv hs
    go_enter Try.func32, Try.ntmps32
    go_wp2_with fail
    refine H1.out.mono ?_
    rintro e w1 ⟨rfl, q, rfl⟩
    go_wp2_with fail
    refine (H2.out q).mono ?_
    rintro e w2 ⟨rfl, ho, hq⟩
    go_wp2
    go_ret
    exact ⟨_, _, rfl, ho, below_from hq.out⟩
  · have hv' : vcl a b zs = false := by simpa using hv
    rw [hv'] at H1
    have Hs : Hid (sbv a b zs = []) := by show _ = _; unfold sbv; rw [if_neg hv]
    rw [Hs.out]
    clear h hv hv'
    go_enter Try.func32, Try.ntmps32
    go_wp2_with fail
    refine H1.out.mono ?_
    rintro e w1 ⟨rfl, q, rfl⟩
    go_wp2
    go_ret
    exact ⟨_, _, rfl, World.ownsRow_nil _ _ _ _, below_drewN (Below.refl _ _) q⟩
end Go.Proofs.Ythgllpiclaihjaa
