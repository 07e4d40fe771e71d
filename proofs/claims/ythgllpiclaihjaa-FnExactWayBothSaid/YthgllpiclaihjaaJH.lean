/-
  WayGreedy, WayBoth and StandBoth of the program, walked.
  Conditions: fewer than 2^20 calls.
-/
import Derived.Test.YthgllpiclaihjaaJG
namespace Go.Proofs.Ythgllpiclaihjaa
open Go.ChangeShapes Go.WideShapes Go.ChangeAt Go.RowKit
set_option linter.unusedVariables false
set_option maxRecDepth 4000

def gwv (a b : Int) (zs : List Int) : Int := if vcl a b zs = true then gwF a b zs else -1
def bwv (a b : Int) (zs : List Int) : Int := if vcl a b zs = true then bwF a b zs else -1
def sbv (a b : Int) (zs : List Int) : List Int := if vcl a b zs = true then [beL a b zs, beH a b zs] else []

set_option maxHeartbeats 1600000 in
theorem iWayGreedy_ok : JNum 23 gwv := by
  intro a b A c n zs w h
  have H1 := Lib.hid (iValidCalls_ok a b A c n zs w h)
  by_cases hv : vcl a b zs = true
  · rw [hv] at H1
    obtain ⟨⟨ha, hab, hb⟩, h8, h50⟩ := vcl_iff.1 hv
    have Hs : Hid (itW ngL ngH ngW a b zs = gwv a b zs) := by show _ = _; unfold gwv; rw [if_pos hv, gw_it]
    have H2 := Lib.hid (fun W (hW : Below w.heap.size w W) => goToAll_near ngL ngH ngW near_ok near_st a b A c n zs W (h.later hW) ⟨ha, by omega⟩ ⟨by omega, hb⟩ hab (by rw [← h.len]; exact h8) h50)
    unfold GoneAll at H2
    rw [Hs.out] at H2
    generalize itL ngL ngH a b zs = x at H2
    generalize itH ngL ngH a b zs = y at H2
    clear h hv
    go_enter Try.func23, Try.ntmps23
    go_wp2_with fail
    refine H1.out.mono ?_
    rintro e w1 ⟨rfl, hq⟩
    have HQ := Lib.hid hq
    clear hq
    go_wp2_with fail
    refine (H2.out w1 HQ.out).mono ?_
    rintro e w2 ⟨rfl, hq2⟩
    have HB2 := Lib.hid (HQ.out.trans (hq2.mono HQ.out.size))
    clear hq2
    go_wp2
    go_ret
    exact ⟨rfl, HB2.out.alloc HB2.out.size _⟩
  · have hv' : vcl a b zs = false := by simpa using hv
    rw [hv'] at H1
    have Hs : Hid (gwv a b zs = -1) := by show _ = _; unfold gwv; rw [if_neg hv]
    clear h hv hv'
    go_enter Try.func23, Try.ntmps23
    go_wp2_with fail
    refine H1.out.mono ?_
    rintro e w1 ⟨rfl, hq⟩
    go_wp2
    go_ret
    exact ⟨ret_int Hs.out.symm, hq⟩

set_option maxHeartbeats 1600000 in
theorem iWayBoth_ok : JNum 24 bwv := by
  intro a b A c n zs w h
  have H1 := Lib.hid (iValidCalls_ok a b A c n zs w h)
  by_cases hv : vcl a b zs = true
  · rw [hv] at H1
    obtain ⟨⟨ha, hab, hb⟩, h8, h50⟩ := vcl_iff.1 hv
    have Hs : Hid (itW bthL bthH bthW a b zs = bwv a b zs) := by show _ = _; unfold bwv; rw [if_pos hv, bw_it]
    have H2 := Lib.hid (fun W (hW : Below w.heap.size w W) => goToAll_both bthL bthH bthW both_ok both_st a b A c n zs W (h.later hW) ⟨ha, by omega⟩ ⟨by omega, hb⟩ hab (by rw [← h.len]; exact h8) h50)
    unfold GoneAll at H2
    rw [Hs.out] at H2
    generalize itL bthL bthH a b zs = x at H2
    generalize itH bthL bthH a b zs = y at H2
    clear h hv
    go_enter Try.func24, Try.ntmps24
    go_wp2_with fail
    refine H1.out.mono ?_
    rintro e w1 ⟨rfl, hq⟩
    have HQ := Lib.hid hq
    clear hq
    go_wp2_with fail
    refine (H2.out w1 HQ.out).mono ?_
    rintro e w2 ⟨rfl, hq2⟩
    have HB2 := Lib.hid (HQ.out.trans (hq2.mono HQ.out.size))
    clear hq2
    go_wp2
    go_ret
    exact ⟨rfl, HB2.out.alloc HB2.out.size _⟩
  · have hv' : vcl a b zs = false := by simpa using hv
    rw [hv'] at H1
    have Hs : Hid (bwv a b zs = -1) := by show _ = _; unfold bwv; rw [if_neg hv]
    clear h hv hv'
    go_enter Try.func24, Try.ntmps24
    go_wp2_with fail
    refine H1.out.mono ?_
    rintro e w1 ⟨rfl, hq⟩
    go_wp2
    go_ret
    exact ⟨ret_int Hs.out.symm, hq⟩

/-- A row of the call's own. -/
def JRow (F : Nat) : Prop := ∀ (a b : Int) (A : Option Addr) (c n : Nat) (zs : List Int) (w : World), CallsIn w A c n zs →
  Calls Try.prog F #[.int .i64 a, .int .i64 b, .slice A n c] w fun e w' => ∃ A' c', e = .returned (.slice A' (sbv a b zs).length c') ∧ Hid (w'.ownsRow w.heap.size 3 1 (.slice A' (sbv a b zs).length c') (sbv a b zs).length ((sbv a b zs).map (Value.int .i64))) ∧ Hid (Below w.heap.size w w')
set_option maxHeartbeats 1600000 in
theorem iStandBoth_ok : JRow 30 := by
  intro a b A c n zs w h
  have H1 := Lib.hid (iValidCalls_ok a b A c n zs w h)
  by_cases hv : vcl a b zs = true
  · rw [hv] at H1
    obtain ⟨⟨ha, hab, hb⟩, h8, h50⟩ := vcl_iff.1 hv
    have hs : sbv a b zs = [itL bthL bthH a b zs, itH bthL bthH a b zs] := by unfold sbv; rw [if_pos hv, beL_it, beH_it]
    rw [hs]
    have H2 := Lib.hid (fun W (hW : Below w.heap.size w W) => goToAll_both bthL bthH bthW both_ok both_st a b A c n zs W (h.later hW) ⟨ha, by omega⟩ ⟨by omega, hb⟩ hab (by rw [← h.len]; exact h8) h50)
    unfold GoneAll at H2
    clear hs
    generalize itL bthL bthH a b zs = x at H2 ⊢
    generalize itH bthL bthH a b zs = y at H2 ⊢
    generalize itW bthL bthH bthW a b zs = t at H2
    clear h hv
    go_enter Try.func30, Try.ntmps30
    go_wp2_with fail
    refine H1.out.mono ?_
    rintro e w1 ⟨rfl, hq⟩
    have HQ := Lib.hid hq
    clear hq
    go_wp2_with fail
    refine (H2.out w1 HQ.out).mono ?_
    rintro e w2 ⟨rfl, hq2⟩
    have HB2 := Lib.hid (HQ.out.trans (hq2.mono HQ.out.size))
    have hsz : w.heap.size ≤ (w2.alloc (.cells #[.int .i64 x, .int .i64 y] 45)).heap.size := by rw [sz1J]; have := HB2.out.size; omega
    have Ho : Hid (((w2.alloc (.cells #[.int .i64 x, .int .i64 y] 45)).alloc (.cells #[.int .i64 x, .int .i64 y] 3)).ownsRow w.heap.size 3 1 (.slice (some ⟨(w2.alloc (.cells #[.int .i64 x, .int .i64 y] 45)).heap.size, 0, none⟩) 2 2) 2 [.int .i64 x, .int .i64 y]) :=
      World.ownsRow_lit _ #[.int .i64 x, .int .i64 y] 2 hsz (by decide) rfl
    rw [sz1J] at Ho
    clear hq2
    go_wp2
    go_ret
    exact ⟨_, _, rfl, Ho, (HB2.out.alloc HB2.out.size _).alloc hsz _⟩
  · have hv' : vcl a b zs = false := by simpa using hv
    rw [hv'] at H1
    have Hs : Hid (sbv a b zs = []) := by show _ = _; unfold sbv; rw [if_neg hv]
    rw [Hs.out]
    clear h hv hv'
    go_enter Try.func30, Try.ntmps30
    go_wp2_with fail
    refine H1.out.mono ?_
    rintro e w1 ⟨rfl, hq⟩
    go_wp2
    go_ret
    exact ⟨_, _, rfl, World.ownsRow_nil _ _ _ _, hq⟩
end Go.Proofs.Ythgllpiclaihjaa
