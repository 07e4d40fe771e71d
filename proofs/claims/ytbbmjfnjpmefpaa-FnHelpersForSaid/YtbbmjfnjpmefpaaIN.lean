/-
  The law FnLostStep, walked.
  Conditions: none.
-/
import Derived.Test.YtbbmjfnjpmefpaaIM
namespace Go.Proofs.Ytbbmjfnjpmefpaa
open Go.ChangeShapes Go.WideShapes Go.ChangeAt Go.RowKit
set_option linter.unusedVariables false
set_option maxRecDepth 4000

/-- What the fraction of one helper more is, whether there is one or not. -/
theorem lost_next {a d k x y : Nat} (ha : a < 11) (hd : d < 11) (hd1 : 1 ≤ d) (hk : k < 6) (h : bzL a d k = (x, y)) :
    ∃ (u v : Nat) (t : Bool), Hid (∀ W, Calls Try.prog 17 #[.int .i64 a, .int .i64 d, .int .i64 ((k : Int) + 1)] W (FrT u v t W)) ∧ Hid (t = true → u * y ≤ x * v) ∧ u ≤ 60000000 ∧ v ≤ 60000000 := by
  by_cases h5 : k < 5
  · obtain ⟨u, v, Huv⟩ : ∃ u v, Hid (bzL a d (k + 1) = (u, v)) := ⟨_, _, rfl⟩
    obtain ⟨b1, b2, b3, b4⟩ := lost_bd ha hd hd1 (by omega : k + 1 < 6) Huv.out
    refine ⟨u, v, true, fun W => ?_, fun _ => ?_, b1, b3⟩
    · have := iLostStep_yes a d (k + 1) u v W ha hd hd1 (by omega) Huv.out
      rw [show ((k + 1 : Nat) : Int) = (k : Int) + 1 by push_cast; rfl] at this
      exact this
    · have := bzL_less a ha d hd hd1 k h5
      rw [Huv.out, h] at this
      exact this
  · refine ⟨0, 0, false, fun W => iLostStep_no a d ((k : Int) + 1) W ?_, fun h => (Bool.noConfusion h), by omega, by omega⟩
    by_cases g : vbz (a : Int) (d : Int) ((k : Int) + 1) = true
    · have := vbz_iff.1 g; omega
    · simpa using g

set_option maxHeartbeats 3200000 in
theorem lawLostStep_walk (A : Option Addr) (c : Nat) (zs : List Int) (w : World) (hr : RdB w w.heap.size A zs) (hc : zs.length ≤ c) (hm : c ≤ 9223372036854775807) :
    Calls Try.prog 4 #[.slice A zs.length c] w fun e w' => e = .returned (.bool true) ∧ Below w.heap.size w w' := by
  by_cases hb : 1048576 < zs.length
  · go_enter Try.func4, Try.ntmps4
    go_wp2
    go_ret
    exact ⟨rfl, Below.refl _ _⟩
  · have H := Lib.hid (drawLostStep_any A c zs.length zs w hr rfl hc hm)
    clear hr
    go_enter Try.func4, Try.ntmps4
    go_wp2_with fail
    refine H.out.mono ?_
    rintro e w0 ⟨a, d, k, rfl, hbd, hb0⟩
    have HB0 := Lib.hid hb0
    have Hbd := Lib.hid hbd
    clear hb0 hbd
    by_cases hv : vbz a d k = true
    · obtain ⟨a, d, k, rfl, rfl, rfl, ha, hd, hd1, hk⟩ := vbz_nat hv
      obtain ⟨x, y, Hxy⟩ : ∃ x y, Hid (bzL a d k = (x, y)) := ⟨_, _, rfl⟩
      obtain ⟨b1, b2, b3, b4⟩ := lost_bd ha hd hd1 hk Hxy.out
      have HI := Lib.hid (fun W => iLostStep_yes a d k x y W ha hd hd1 hk Hxy.out)
      have HS := Lib.hid (fun W => sLostStep_yes a d k x y W ha hd hd1 hk Hxy.out)
      have HA := Lib.hid (fun W => iBusyShare_yes a d k k x y W ha hd hd1 hk (Nat.le_refl _) ((bzL_bz a ha d hd hd1 k hk).symm.trans Hxy.out))
      obtain ⟨u, v, t, HN, Hle, c1, c2⟩ := lost_next ha hd hd1 hk Hxy.out
      have e1 := neqB_same (x : Int) (y : Int)
      clear hv
      go_wp2_with fail
      refine (HI.out _).mono ?_
      rintro e w1 ⟨rfl, hb1⟩
      obtain ⟨W1, r1, HW1, Hr1, Hc1, HB1, Hs1⟩ := boxedB (x : Int) (y : Int) hb1
      clear hb1
      go_wp2_with fail
      rw [HW1.out, Hr1.out]
      refine (HS.out _).mono ?_
      rintro e w2 ⟨rfl, hb2⟩
      obtain ⟨W2, r2, HW2, Hr2, Hc2, HB2, Hs2⟩ := boxedB (x : Int) (y : Int) hb2
      have hk1 : W2.heap[r1]? = some (.cells #[.int .i64 (x : Int), .int .i64 (y : Int)] 26 (0, 0)) := keptB (n := 0) Hc1.out HB2.out Hs1.out
      obtain ⟨q0, q1, -, -⟩ := frac_cells hk1
      have Hk1 := Lib.hid hk1
      clear hk1 hb2
      rw [← HW2.out] at q0 q1
      go_wp2_with fail
      rw [HW2.out]
      clear q0 q1 e1
      refine (HA.out _).mono ?_
      rintro e w3 ⟨rfl, hb3⟩
      obtain ⟨W3, r3, HW3, Hr3, Hc3, HB3, Hs3⟩ := boxedB (x : Int) (y : Int) hb3
      have Hk3 : Hid (W3.heap[r1]? = some (.cells #[.int .i64 (x : Int), .int .i64 (y : Int)] 26 (0, 0))) := (HB3.out.block r1 (by have := HB2.out.size; have := Hs1.out; omega)).trans Hk1.out
      have Hr13 : Hid (r1 < W3.heap.size) := by have := HB2.out.size; have := HB3.out.size; have := Hs1.out; show r1 < _; omega
      have Hr33 : Hid (r3 < W3.heap.size) := by have := Hs3.out; show r3 < _; omega
      have hbW : Hid (Below w.heap.size w W3) := ((HB0.out.trans (HB1.out.mono HB0.out.size)).trans (HB2.out.mono (by have := HB1.out.size; have := HB0.out.size; omega))).trans (HB3.out.mono (by have := HB1.out.size; have := HB0.out.size; have := HB2.out.size; omega))
      clear hb3
      go_wp2_with fail
      rw [HW3.out, Hr3.out]
      refine (HN.out _).mono ?_
      rintro e w4 ⟨rfl, hb4⟩
      obtain ⟨W4, r4, HW4, Hr4, Hc4, HB4, Hs4⟩ := boxedB (u : Int) (v : Int) hb4
      obtain ⟨q0, q1, -, -⟩ := frac_cells ((HB4.out.block r1 Hr13.out).trans Hk3.out)
      obtain ⟨q2, q3, -, -⟩ := frac_cells ((HB4.out.block r3 Hr33.out).trans Hc3.out)
      rw [← HW4.out] at q0 q1 q2 q3
      have Hz : Hid (Below w.heap.size w W4) := hbW.out.trans (HB4.out.mono hbW.out.size)
      have e2 := eqlB_same (x : Int) (y : Int)
      clear hb4
      cases t
      · go_wp2
        rw [HW4.out]
        go_ret
        exact ⟨rfl, Hz.out⟩
      · obtain ⟨m, Hm⟩ : ∃ m, Hid (u * y = m) := ⟨_, rfl⟩
        obtain ⟨n, Hn⟩ : ∃ n, Hid (x * v = n) := ⟨_, rfl⟩
        have hmn : m ≤ n := by rw [← Hm.out, ← Hn.out]; exact Hle.out rfl
        have hn1 : n ≤ 3600000000000000 := by rw [← Hn.out]; exact Nat.mul_le_mul b1 c2
        have p1 : (u : Int) * (y : Int) = (m : Int) := by rw [← Hm.out]; push_cast; rfl
        have p2 : (x : Int) * (v : Int) = (n : Int) := by rw [← Hn.out]; push_cast; rfl
        go_wp2
        rw [HW4.out]
        go_ret
        exact ⟨rfl, Hz.out⟩
    · have hv' : vbz a d k = false := by simpa using hv
      have HI := Lib.hid (fun W => iLostStep_no a d k W hv')
      have HS := Lib.hid (fun W => sLostStep_no a d k W hv')
      have e1 := neqB_same 0 0
      have e2 := eqlB_same 0 0
      clear hv hv'
      go_wp2_with fail
      refine (HI.out _).mono ?_
      rintro e w1 ⟨rfl, hb1⟩
      obtain ⟨W1, r1, HW1, Hr1, Hc1, HB1, Hs1⟩ := boxedB 0 0 hb1
      clear hb1
      go_wp2_with fail
      rw [HW1.out, Hr1.out]
      refine (HS.out _).mono ?_
      rintro e w2 ⟨rfl, hb2⟩
      obtain ⟨W2, r2, HW2, Hr2, Hc2, HB2, Hs2⟩ := boxedB 0 0 hb2
      have hk1 : W2.heap[r1]? = some (.cells #[.int .i64 0, .int .i64 0] 26 (0, 0)) := keptB (n := 0) Hc1.out HB2.out Hs1.out
      obtain ⟨q0, q1, -, -⟩ := frac_cells hk1
      have Hk1 := Lib.hid hk1
      clear hk1 hb2
      rw [← HW2.out] at q0 q1
      go_wp2
      rw [HW2.out]
      go_ret
      exact ⟨rfl, (HB0.out.trans (HB1.out.mono HB0.out.size)).trans (HB2.out.mono (by have := HB1.out.size; have := HB0.out.size; omega))⟩
end Go.Proofs.Ytbbmjfnjpmefpaa
