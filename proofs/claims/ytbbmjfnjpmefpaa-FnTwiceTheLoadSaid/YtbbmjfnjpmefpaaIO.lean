/-
  The law FnTwiceTheLoad, walked.
  Conditions: none.
-/
import Derived.Test.YtbbmjfnjpmefpaaIN
namespace Go.Proofs.Ytbbmjfnjpmefpaa
open Go.ChangeShapes Go.WideShapes Go.ChangeAt Go.RowKit
set_option linter.unusedVariables false
set_option maxRecDepth 4000

def LostIs (a d k : Int) (x y : Nat) : Prop := vbz a d k = true ∧ bzL a.toNat d.toNat k.toNat = (x, y)
theorem lost_any (a d k : Int) : ∃ (x y : Nat) (t : Bool), Hid (∀ W, Calls Try.prog 17 #[.int .i64 a, .int .i64 d, .int .i64 k] W (FrT x y t W)) ∧ Hid (∀ W, Calls Try.prog 19 #[.int .i64 a, .int .i64 d, .int .i64 k] W (FrT x y t W)) ∧ Hid (t = true → LostIs a d k x y) ∧ x ≤ 60000000 ∧ y ≤ 60000000 := by
  by_cases hv : vbz a d k = true
  · obtain ⟨a, d, k, rfl, rfl, rfl, ha, hd, hd1, hk⟩ := vbz_nat hv
    obtain ⟨x, y, Hxy⟩ : ∃ x y, Hid (bzL a d k = (x, y)) := ⟨_, _, rfl⟩
    obtain ⟨b1, b2, b3, b4⟩ := lost_bd ha hd hd1 hk Hxy.out
    exact ⟨x, y, true, fun W => iLostStep_yes a d k x y W ha hd hd1 hk Hxy.out, fun W => sLostStep_yes a d k x y W ha hd hd1 hk Hxy.out, fun _ => ⟨hv, Hxy.out⟩, b1, b3⟩
  · have hv' : vbz a d k = false := by simpa using hv
    exact ⟨0, 0, false, fun W => iLostStep_no a d k W hv', fun W => sLostStep_no a d k W hv', fun h => (Bool.noConfusion h), by omega, by omega⟩
theorem twice_le {a d k : Int} {x y u v : Nat} (h1 : LostIs a d k x y) (h2 : LostIs (2 * a) d k u v) : x * v ≤ u * y := by
  have g1 := vbz_iff.1 h1.1
  have g2 := vbz_iff.1 h2.1
  have h := bzL_twice a.toNat (by omega) d.toNat (by omega) (by omega) k.toNat (by omega)
  have e := h2.2
  rw [show (2 * a).toNat = 2 * a.toNat by omega] at e
  rw [h1.2, e] at h
  exact h
theorem both_eq {a d k : Int} {x y u v : Nat} (h1 : LostIs a d k x y) (h2 : LostIs (2 * a) (2 * d) k u v) : u = x ∧ v = y := by
  have g1 := vbz_iff.1 h1.1
  have g2 := vbz_iff.1 h2.1
  have h := bzL_both a.toNat (by omega) d.toNat (by omega) (by omega) k.toNat (by omega)
  have e := h2.2
  rw [show (2 * a).toNat = 2 * a.toNat by omega, show (2 * d).toNat = 2 * d.toNat by omega, h, h1.2] at e
  injection e with e1 e2
  exact ⟨e1.symm, e2.symm⟩

set_option maxHeartbeats 6400000 in
theorem lawTwiceTheLoad_walk (A : Option Addr) (c : Nat) (zs : List Int) (w : World) (hr : RdB w w.heap.size A zs) (hc : zs.length ≤ c) (hm : c ≤ 9223372036854775807) :
    Calls Try.prog 7 #[.slice A zs.length c] w fun e w' => e = .returned (.bool true) ∧ Below w.heap.size w w' := by
  by_cases hb : 1048576 < zs.length
  · go_enter Try.func7, Try.ntmps7
    go_wp2
    go_ret
    exact ⟨rfl, Below.refl _ _⟩
  · have H := Lib.hid (drawLostStep_any A c zs.length zs w hr rfl hc hm)
    clear hr
    go_enter Try.func7, Try.ntmps7
    go_wp2_with fail
    refine H.out.mono ?_
    rintro e w0 ⟨a, d, k, rfl, hbd, hb0⟩
    have HB0 := Lib.hid hb0
    have Hbd := Lib.hid hbd
    clear hb0 hbd
    have hA := Hbd.out.1
    have hD := Hbd.out.2.1
    obtain ⟨x, y, t1, HI, HS, H1, x1, y1⟩ := lost_any a d k
    obtain ⟨u, v, t2, HI2, -, H2, u1, v1⟩ := lost_any (2 * a) d k
    obtain ⟨p, q, t3, HI3, -, H3, p1, q1'⟩ := lost_any (2 * a) (2 * d) k
    have e1 := neqB_same (x : Int) (y : Int)
    have e2 : (t1 != t1) = false := by simp
    go_wp2_with fail
    refine (HI.out _).mono ?_
    rintro e w1 ⟨rfl, hb1⟩
    obtain ⟨W1, r1, HW1, Hr1, Hc1, HB1, Hs1⟩ := boxedB (x : Int) (y : Int) hb1
    clear hb1
    go_wp2_with fail
    rw [HW1.out, Hr1.out]
    refine (HS.out _).mono ?_
    rintro e w2 ⟨rfl, hb2⟩
    obtain ⟨W2, r2, HW2, Hr2, Hc2, HB2, Hs2⟩ := boxedB (x : Int) (y : Int) hb2
    have hk1 : W2.heap[r1]? = some (.cells #[.int .i64 (x : Int), .int .i64 (y : Int)] 26 (0, 0)) := keptB (n := 0) Hc1.out HB2.out Hs1.out
    obtain ⟨q0, q1, -, -⟩ := frac_cells hk1
    have Hk1 := Lib.hid hk1
    clear hk1 hb2
    rw [← HW2.out] at q0 q1
    go_wp2_with fail
    rw [HW2.out]
    clear q0 q1 e1 e2
    refine (HI.out _).mono ?_
    rintro e w3 ⟨rfl, hb3⟩
    obtain ⟨W3, r3, HW3, Hr3, Hc3, HB3, Hs3⟩ := boxedB (x : Int) (y : Int) hb3
    clear hb3
    go_wp2_with fail
    rw [HW3.out, Hr3.out]
    refine (HI2.out _).mono ?_
    rintro e w4 ⟨rfl, hb4⟩
    obtain ⟨W4, r4, HW4, Hr4, Hc4, HB4, Hs4⟩ := boxedB (u : Int) (v : Int) hb4
    have Hk3 : Hid (W4.heap[r3]? = some (.cells #[.int .i64 (x : Int), .int .i64 (y : Int)] 26 (0, 0))) := keptB (n := 0) Hc3.out HB4.out Hs3.out
    clear hb4
    go_wp2_with fail
    rw [HW4.out, Hr4.out]
    refine (HI3.out _).mono ?_
    rintro e w5 ⟨rfl, hb5⟩
    obtain ⟨W5, r5, HW5, Hr5, Hc5, HB5, Hs5⟩ := boxedB (p : Int) (q : Int) hb5
    obtain ⟨q0, q1, -, -⟩ := frac_cells ((HB5.out.block r3 (by have := HB4.out.size; have := Hs3.out; omega)).trans Hk3.out)
    obtain ⟨q2, q3, -, -⟩ := frac_cells ((HB5.out.block r4 (by have := Hs4.out; omega)).trans Hc4.out)
    rw [← HW5.out] at q0 q1 q2 q3
    have Hz : Hid (Below w.heap.size w W5) := by
      have z1 := HB0.out.trans (HB1.out.mono HB0.out.size)
      have z2 := z1.trans (HB2.out.mono z1.size)
      have z3 := z2.trans (HB3.out.mono z2.size)
      have z4 := z3.trans (HB4.out.mono z3.size)
      exact z4.trans (HB5.out.mono z4.size)
    clear hb5
    cases t1
    · go_wp2
      rw [HW5.out]
      go_ret
      exact ⟨rfl, Hz.out⟩
    · cases t2
      · go_wp2
        rw [HW5.out]
        go_ret
        exact ⟨rfl, Hz.out⟩
      · obtain ⟨m, Hm⟩ : ∃ m, Hid (x * v = m) := ⟨_, rfl⟩
        obtain ⟨n, Hn⟩ : ∃ n, Hid (u * y = n) := ⟨_, rfl⟩
        have hmn : m ≤ n := by rw [← Hm.out, ← Hn.out]; exact twice_le (H1.out rfl) (H2.out rfl)
        have hn1 : n ≤ 3600000000000000 := by rw [← Hn.out]; exact Nat.mul_le_mul u1 y1
        have f1 : (x : Int) * (v : Int) = (m : Int) := by rw [← Hm.out]; push_cast; rfl
        have f2 : (u : Int) * (y : Int) = (n : Int) := by rw [← Hn.out]; push_cast; rfl
        cases t3
        · go_wp2
          rw [HW5.out]
          go_ret
          exact ⟨rfl, Hz.out⟩
        · obtain ⟨g1, g2⟩ := both_eq (H1.out rfl) (H3.out rfl)
          subst g1 g2
          have e3 := eqlB_same (p : Int) (q : Int)
          go_wp2
          rw [HW5.out]
          go_ret
          exact ⟨rfl, Hz.out⟩
end Go.Proofs.Ytbbmjfnjpmefpaa
