/-
  The laws on where both stand, and on work.
  Conditions: none.
-/
import Derived.Test.YthgllpiclaihjaaJQ
import Derived.Test.YthgllpiclaihjaaEL
import Derived.Deep.RegionHeld3
import Derived.BigQuiet
namespace Go.Proofs.Ythgllpiclaihjaa
open Go.ChangeShapes Go.WideShapes Go.ChangeAt Go.RowKit
set_option linter.unusedVariables false
set_option maxRecDepth 4000

/-- Two numbers in a row of the call's own. -/
theorem own_twoJ {w : World} {B c : Nat} {A : Option Addr} {p q : Int} (h : w.ownsRow B 3 1 (.slice A 2 c) 2 [.int .i64 p, .int .i64 q]) : ∃ g, A = some ⟨g, 0, none⟩ ∧ w.cell? ⟨g, 0, none⟩ = some (.int .i64 p) ∧ w.cell? ⟨g, 1, none⟩ = some (.int .i64 q) := by
  obtain ⟨g, cap, he, -, -⟩ := h.form (by omega)
  injection he with h1 h2 h3
  subst h1 h3
  exact ⟨g, rfl, h.cellAt 0 (by omega), h.cellAt 1 (by omega)⟩
theorem rdI_of_ownA {w : World} {B c : Nat} {A : Option Addr} {p q : Int} (h : w.ownsRow B 3 1 (.slice A 2 c) 2 [.int .i64 p, .int .i64 q]) : RdI w w.heap.size A [p, q] := by
  obtain ⟨A', c', he, -, -, hr⟩ := own_slice (zs := [p, q]) h rfl
  injection he with h1 h2 h3
  subst h1
  exact hr
theorem last_is {zs : List Int} {n : Nat} (hn : zs.length = n) (h : 0 < n) : zs = zs.take (n - 1) ++ [zs.getD (n - 1) 0] := by
  have e : zs.getD (n - 1) 0 = zs[n - 1]'(by omega) := by simp [List.getD, List.getElem?_eq_getElem (show n - 1 < zs.length by omega)]
  rw [e, ← List.take_succ_eq_append_getElem (by omega), show n - 1 + 1 = n by omega, List.take_of_length_le (by omega)]

set_option maxHeartbeats 1600000 in
theorem lawWorkOf_walk (A : Option Addr) (c : Nat) (bs : List Int) (w : World) (hr : RdB w w.heap.size A bs) (hcap : bs.length ≤ c) (hm : c ≤ maxLen) :
    Calls Try.prog 8 #[.slice A bs.length c] w fun e w' => e = .returned (.bool true) ∧ Below w.heap.size w w' := by
  unfold maxLen at hm
  by_cases hb : 1048576 < bs.length
  · go_enter Try.func8, Try.ntmps8
    go_wp2
    go_ret
    exact ⟨rfl, Below.refl _ _⟩
  · have HD := Lib.hid (drawWorkOf_any A c bs.length bs w hr rfl hcap hm)
    have HWI := Lib.hid iWorkOf_ok
    have HWS := Lib.hid sWorkOf_ok
    have HSI := Lib.hid iStandBoth_ok
    have HAI := Lib.hid iWayAhead_ok
    have HBI := Lib.hid iWayBoth_ok
    go_enter Try.func8, Try.ntmps8
    go_wp2_with fail
    refine HD.out.mono ?_
    rintro e w1 ⟨a, b, A1, c1, n, x, y, zs, rfl, h9, N1, HA1, HB1⟩
    clear HD hr hb hcap hm
    have hcw := N1.out.cap
    have hbe : ∀ x : Int, (x == x) = true := fun x => by simp
    have hbn : ∀ x : Int, (x != x) = false := fun x => by simp
    obtain ⟨o, Ho⟩ : ∃ o, Hid (wkv a b zs x y = o) := ⟨_, rfl⟩
    go_wp2_with fail
    refine (HWI.out a b x y _ _ _ zs w1 N1.out).mono ?_
    rintro e w2 ⟨rfl, hq⟩
    rw [Ho.out]
    have N2 := Lib.hid (N1.out.later hq)
    have HB2 := Lib.hid (HB1.out.trans (hq.mono HB1.out.size))
    clear hq
    go_wp2_with fail
    refine (HWS.out a b x y _ _ _ zs w2 N2.out).mono ?_
    rintro e w3 ⟨rfl, hq⟩
    rw [Ho.out]
    have N3 := Lib.hid (N2.out.later hq)
    have HB3 := Lib.hid (HB2.out.trans (hq.mono HB2.out.size))
    clear hq
    by_cases ha : o < 0
    · go_wp2_with fail
      refine (HWS.out a b x y _ _ _ zs w3 N3.out).mono ?_
      rintro e w4 ⟨rfl, hq⟩
      rw [Ho.out]
      have N4 := Lib.hid (N3.out.later hq)
      have HB4 := Lib.hid (HB3.out.trans (hq.mono HB3.out.size))
      clear hq
      go_wp2
      go_ret
      exact ⟨rfl, HB4.out⟩
    · obtain ⟨hv, hxy⟩ := wkv_valid (x := x) (y := y) (a := a) (b := b) (zs := zs) (by rw [Ho.out]; exact ha)
      obtain ⟨⟨ha0, hab, hb0⟩, h8, h50⟩ := vcl_iff.1 hv
      have hbe0 := be_in zs a b hab
      have hbe1 := be_bd zs a b h50 ha0 hab hb0
      have f1 : wav a b zs ≤ o := by
        rw [← Ho.out, wav_is hv, wkv_is hv hxy]
        exact lw_mono (toB_nonneg x y) zs a b
      have f2 : wkv a b zs (beL a b zs) (beH a b zs) ≤ bwv a b zs := by
        rw [bwv_is hv, wkv_is hv (vst_iff.2 ⟨hbe1.1, hbe0, hbe1.2⟩)]
        have h1 := lw_bw (toB_lip (beL a b zs) (beH a b zs)) zs a b hab
        rw [toB_here] at h1
        omega
      have hS : Hid (∀ w1, CallsIn w1 A1 c1 n zs → Calls Try.prog 30 #[.int .i64 a, .int .i64 b, .slice A1 n c1] w1 fun e w' => ∃ A' c', e = .returned (.slice A' 2 c') ∧ Hid (w'.ownsRow w1.heap.size 3 1 (.slice A' 2 c') 2 [.int .i64 (beL a b zs), .int .i64 (beH a b zs)]) ∧ Hid (Below w1.heap.size w1 w')) := fun w1 h1 => by
        have h2 := HSI.out a b A1 c1 n zs w1 h1
        rw [sbv_is hv] at h2
        exact h2
      obtain ⟨p, Hp⟩ : ∃ p, Hid (beL a b zs = p) := ⟨_, rfl⟩
      obtain ⟨q, Hq⟩ : ∃ q, Hid (beH a b zs = q) := ⟨_, rfl⟩
      obtain ⟨v, Hv⟩ : ∃ v, Hid (wav a b zs = v) := ⟨_, rfl⟩
      obtain ⟨d, Hd⟩ : ∃ d, Hid (bwv a b zs = d) := ⟨_, rfl⟩
      rw [Hp.out, Hq.out] at hS f2
      obtain ⟨u, Hu⟩ : ∃ u, Hid (wkv a b zs p q = u) := ⟨_, rfl⟩
      rw [Hu.out, Hd.out] at f2
      rw [Hv.out] at f1
      clear hv hxy ha0 hab hb0 h8 h50 hbe0 hbe1
      go_wp2_with fail
      refine (hS.out w3 N3.out).mono ?_
      rintro e w4 ⟨A4, c4, rfl, ho4, hb4⟩
      obtain ⟨g, rfl, cp, cq⟩ := own_twoJ ho4.out
      have hgl := World.block_lt_of_cell? w4 _ cp
      have N4 := Lib.hid (N3.out.later hb4.out)
      have HB4 := Lib.hid (HB3.out.trans (hb4.out.mono HB3.out.size))
      have hc42 : 2 ≤ c4 := by
        obtain ⟨A', c', he, h1, -, -⟩ := own_sliceN ho4.out
        injection he with _ _ he3
        omega
      have K : Hid (∀ W, Below w4.heap.size w4 W → W.cell? ⟨g, 0, none⟩ = some (.int .i64 p) ∧ W.cell? ⟨g, 1, none⟩ = some (.int .i64 q)) := fun W h => ⟨(h.cell (p := ⟨g, 0, none⟩) hgl).trans cp, (h.cell (p := ⟨g, 1, none⟩) hgl).trans cq⟩
      have HA := Lib.hid (fun W (h : Below w4.heap.size w4 W) => HAI.out a b A1 c1 n zs W (N4.out.later h))
      have HW := Lib.hid (fun W (h : Below w4.heap.size w4 W) => HWI.out a b p q A1 c1 n zs W (N4.out.later h))
      have HBo := Lib.hid (fun W (h : Below w4.heap.size w4 W) => HBI.out a b A1 c1 n zs W (N4.out.later h))
      rw [Hv.out] at HA
      rw [Hu.out] at HW
      rw [Hd.out] at HBo
      have hd1 : decide (v ≤ o) = true := decide_eq_true f1
      have hd2 : decide (u ≤ d) = true := decide_eq_true f2
      clear ho4 hb4 hS HSI
      go_wp2
      go_region_held3 (fun w' => w'.cell? ⟨g, 0, none⟩ = some (.int .i64 p) ∧ w'.cell? ⟨g, 1, none⟩ = some (.int .i64 q))
        (first
          | go_keep
          | exact K.out _ hba
          | exact K.out _ hbw
          | exact K.out _ hbb)
        (first
          | (go_at_call 21
             refine (HA.out _ (Below.drew (Below.refl _ _))).mono ?_
             rintro e wa ⟨rfl, hqa⟩
             have hba : Below w4.heap.size w4 wa := belowJ hqa)
          | (go_at_call 34
             refine (HW.out _ hba).mono ?_
             rintro e ww ⟨rfl, hqw⟩
             have hbw : Below w4.heap.size w4 ww := hba.trans (hqw.mono hba.size))
          | (go_at_call 24
             refine (HBo.out _ hbw).mono ?_
             rintro e wb ⟨rfl, hqb⟩
             have hbb : Below w4.heap.size w4 wb := hbw.trans (hqb.mono hbw.size)))
      go_wp2
      go_ret
      exact ⟨rfl, HB4.out.trans (hbb.mono HB4.out.size)⟩
end Go.Proofs.Ythgllpiclaihjaa
