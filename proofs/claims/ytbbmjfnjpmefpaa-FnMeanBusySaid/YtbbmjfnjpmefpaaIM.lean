/-
  The laws FnMeanBusy, FnLostStep and FnTwiceTheLoad, walked.
  Conditions: none.
-/
import Derived.Test.YtbbmjfnjpmefpaaIK
import Derived.Test.YtbbmjfnjpmefpaaIL
namespace Go.Proofs.Ytbbmjfnjpmefpaa
open Go.ChangeShapes Go.WideShapes Go.ChangeAt Go.RowKit
set_option linter.unusedVariables false
set_option maxRecDepth 4000

theorem eqlB_same (x y : Int) (w : World) : (binOp .eql 26 (.agg #[.int .i64 x, .int .i64 y]) (.agg #[.int .i64 x, .int .i64 y])).run Try.prog w = .ok (.bool true) w := by
  rw [run_eql_struct]
  simp [go_sem]
theorem neqB_same (x y : Int) (w : World) : (binOp .neq 26 (.agg #[.int .i64 x, .int .i64 y]) (.agg #[.int .i64 x, .int .i64 y])).run Try.prog w = .ok (.bool false) w := by
  rw [run_neq_struct]
  simp [go_sem]

set_option maxHeartbeats 1600000 in
theorem lawMeanBusy_walk (A : Option Addr) (c : Nat) (zs : List Int) (w : World) (hr : RdB w w.heap.size A zs) (hc : zs.length ≤ c) (hm : c ≤ 9223372036854775807) :
    Calls Try.prog 5 #[.slice A zs.length c] w fun e w' => e = .returned (.bool true) ∧ Below w.heap.size w w' := by
  have HE1 := Lib.hid eqlB_same
  by_cases hb : 1048576 < zs.length
  · go_enter Try.func5, Try.ntmps5
    go_wp2
    go_ret
    exact ⟨rfl, Below.refl _ _⟩
  · have H := Lib.hid (drawMeanBusy_any A c zs.length zs w hr rfl hc hm)
    clear hr
    go_enter Try.func5, Try.ntmps5
    go_wp2_with fail
    refine H.out.mono ?_
    rintro e w0 ⟨a, d, k, rfl, hbd, hb0⟩
    have HB0 := Lib.hid hb0
    have Hbd := Lib.hid hbd
    clear hb0 hbd
    by_cases hv : vbz a d k = true
    · obtain ⟨a, d, k, rfl, rfl, rfl, ha, hd, hd1, hk⟩ := vbz_nat hv
      obtain ⟨x, y, Hxy⟩ : ∃ x y, Hid (bzM a d k = (x, y)) := ⟨_, _, rfl⟩
      have HI := Lib.hid (fun W => iMeanBusy_yes a d k x y W ha hd hd1 hk Hxy.out)
      have HS := Lib.hid (fun W => sMeanBusy_yes a d k x y W ha hd hd1 hk Hxy.out)
      have e1 := neqB_same (x : Int) (y : Int)
      clear hv
      go_wp2_with fail
      refine (HI.out _).mono ?_
      rintro e w1 ⟨rfl, hb1⟩
      obtain ⟨W1, r1, HW1, Hr1, Hc1, HB1, Hs1⟩ := boxedB (x : Int) (y : Int) hb1
      clear hb1
      go_wp2_with fail
      rw [HW1.out, Hr1.out]
      refine (HS.out _).mono ?_
      rintro e w2 ⟨rfl, hb2⟩
      obtain ⟨W2, r2, HW2, Hr2, Hc2, HB2, Hs2⟩ := boxedB (x : Int) (y : Int) hb2
      have hk1 : W2.heap[r1]? = some (.cells #[.int .i64 (x : Int), .int .i64 (y : Int)] 26 (0, 0)) := keptB (n := 0) Hc1.out HB2.out Hs1.out
      obtain ⟨q0, q1, -, -⟩ := frac_cells hk1
      have Hk1 := Lib.hid hk1
      clear hk1 hb2
      rw [← HW2.out] at q0 q1
      obtain ⟨u, v, Huv⟩ : ∃ u v, Hid (bzL a d k = (u, v)) := ⟨_, _, rfl⟩
      obtain ⟨b1, b2, b3, b4⟩ := lost_bd ha hd hd1 hk Huv.out
      have HL := Lib.hid (fun W => iLostStep_yes a d k u v W ha hd hd1 hk Huv.out)
      obtain ⟨z, Hz⟩ : ∃ z, Hid (v - u = z) := ⟨_, rfl⟩
      obtain ⟨m, Hm⟩ : ∃ m, Hid (a * z = m) := ⟨_, rfl⟩
      obtain ⟨n, Hn⟩ : ∃ n, Hid (d * v = n) := ⟨_, rfl⟩
      have Hf : Hid (frz m n = (x, y)) := by
        have h := bzM_load a ha d hd hd1 k hk
        rw [Hxy.out, Huv.out] at h
        show frz m n = _
        rw [h]
        show _ = frz (a * (v - u)) (d * v)
        rw [Hz.out, Hm.out, Hn.out]
      have hz : z ≤ 60000000 := by rw [← Hz.out]; omega
      have hm1 : m ≤ 600000000 := by rw [← Hm.out]; exact Nat.mul_le_mul (by omega : a ≤ 10) hz
      have hn1 : n ≤ 600000000 := by rw [← Hn.out]; exact Nat.mul_le_mul (by omega : d ≤ 10) b3
      have hn2 : 1 ≤ n := by rw [← Hn.out]; exact Nat.mul_pos hd1 b2
      have HF := Lib.hid (fun W => lFrac_any m n x y W (by omega) (by omega) hn2 Hf.out)
      have p0 : (v : Int) - (u : Int) = (z : Int) := by rw [← Hz.out]; omega
      have p1 : (a : Int) * (z : Int) = (m : Int) := by rw [← Hm.out]; push_cast; rfl
      have p2 : (d : Int) * (v : Int) = (n : Int) := by rw [← Hn.out]; push_cast; rfl
      go_wp2_with fail
      rw [HW2.out]
      clear q0 q1 e1
      refine (HL.out _).mono ?_
      rintro e w3 ⟨rfl, hb3⟩
      obtain ⟨W3, r3, HW3, Hr3, Hc3, HB3, Hs3⟩ := boxedB (u : Int) (v : Int) hb3
      have hk3 : W3.heap[r1]? = some (.cells #[.int .i64 (x : Int), .int .i64 (y : Int)] 26 (0, 0)) := (HB3.out.block r1 (by have := HB2.out.size; have := Hs1.out; omega)).trans Hk1.out
      have hr13 : r1 < W3.heap.size := by have := HB2.out.size; have := HB3.out.size; have := Hs1.out; omega
      have hr33 : r3 < W3.heap.size := by have := Hs3.out; omega
      have K : Hid (∀ W, Below W3.heap.size W3 W → W.cell? ⟨r1, 0, none⟩ = some (.int .i64 x) ∧ W.cell? ⟨r1, 1, none⟩ = some (.int .i64 y) ∧ W.cell? ⟨r3, 0, none⟩ = some (.int .i64 u) ∧ W.cell? ⟨r3, 1, none⟩ = some (.int .i64 v)) := fun W h =>
        ⟨(frac_cells ((h.block r1 hr13).trans hk3)).1, (frac_cells ((h.block r1 hr13).trans hk3)).2.1, (frac_cells ((h.block r3 hr33).trans Hc3.out)).1, (frac_cells ((h.block r3 hr33).trans Hc3.out)).2.1⟩
      obtain ⟨q0, q1, q2, q3⟩ := K.out W3 (Below.refl _ _)
      have e2 := eqlB_same (x : Int) (y : Int)
      have hbW : Hid (Below w.heap.size w W3) := ((HB0.out.trans (HB1.out.mono HB0.out.size)).trans (HB2.out.mono (by have := HB1.out.size; have := HB0.out.size; omega))).trans (HB3.out.mono (by have := HB1.out.size; have := HB0.out.size; have := HB2.out.size; omega))
      clear hk3 hb3
      have w0' : IntKind.i64.wrap (z : Int) = (z : Int) := IntWalk.i64_in _ (by omega)
      have w1' : IntKind.i64.wrap (m : Int) = (m : Int) := IntWalk.i64_in _ (by omega)
      have w2' : IntKind.i64.wrap (n : Int) = (n : Int) := IntWalk.i64_in _ (by omega)
      go_wp2
      rw [HW3.out, Hr3.out]
      go_region_held3 (fun w' => w'.cell? ⟨r1, 0, none⟩ = some (.int .i64 x) ∧ w'.cell? ⟨r1, 1, none⟩ = some (.int .i64 y) ∧ w'.cell? ⟨r3, 0, none⟩ = some (.int .i64 u) ∧ w'.cell? ⟨r3, 1, none⟩ = some (.int .i64 v))
        (first
          | go_keep
          | exact K.out _ hbf)
        (first
          | (go_at_call 15
             refine (HF.out _).mono ?_
             rintro e wf ⟨rfl, hqf⟩
             have hbf : Below W3.heap.size W3 wf := belowd hqf))
      go_wp2
      go_ret
      exact ⟨rfl, hbW.out.trans (hbf.mono hbW.out.size)⟩
    · have hv' : vbz a d k = false := by simpa using hv
      have HI := Lib.hid (fun W => iMeanBusy_no a d k W hv')
      have HS := Lib.hid (fun W => sMeanBusy_no a d k W hv')
      have e1 := neqB_same 0 0
      have e2 := eqlB_same 0 0
      clear hv hv'
      go_wp2_with fail
      refine (HI.out _).mono ?_
      rintro e w1 ⟨rfl, hb1⟩
      obtain ⟨W1, r1, HW1, Hr1, Hc1, HB1, Hs1⟩ := boxedB 0 0 hb1
      clear hb1
      go_wp2_with fail
      rw [HW1.out, Hr1.out]
      refine (HS.out _).mono ?_
      rintro e w2 ⟨rfl, hb2⟩
      obtain ⟨W2, r2, HW2, Hr2, Hc2, HB2, Hs2⟩ := boxedB 0 0 hb2
      have hk1 : W2.heap[r1]? = some (.cells #[.int .i64 0, .int .i64 0] 26 (0, 0)) := keptB (n := 0) Hc1.out HB2.out Hs1.out
      obtain ⟨q0, q1, -, -⟩ := frac_cells hk1
      have Hk1 := Lib.hid hk1
      clear hk1 hb2
      rw [← HW2.out] at q0 q1
      go_wp2
      rw [HW2.out]
      go_ret
      exact ⟨rfl, (HB0.out.trans (HB1.out.mono HB0.out.size)).trans (HB2.out.mono (by have := HB1.out.size; have := HB0.out.size; omega))⟩
end Go.Proofs.Ytbbmjfnjpmefpaa
