/-
  The law FnBusyShare, walked.
  Conditions: none.
-/
import Derived.Test.YtbbmjfnjpmefpaaIM
namespace Go.Proofs.Ytbbmjfnjpmefpaa
open Go.ChangeShapes Go.WideShapes Go.ChangeAt Go.RowKit
set_option linter.unusedVariables false
set_option maxRecDepth 4000

set_option maxHeartbeats 1600000 in
theorem plusOf_any (p q u v x y : Nat) (w : World) (hp : p ≤ 60000000) (hq : q ≤ 60000000) (hu : u ≤ 60000000) (hv : v ≤ 60000000) (q1 : 1 ≤ q) (v1 : 1 ≤ v) (h : plz (p, q) (u, v) = (x, y)) :
    Calls Try.prog 16 #[.agg #[.int .i64 p, .int .i64 q], .agg #[.int .i64 u, .int .i64 v]] w (FrA x y w) := by
  obtain ⟨m, Hm⟩ : ∃ m, Hid (p * v = m) := ⟨_, rfl⟩
  obtain ⟨n, Hn⟩ : ∃ n, Hid (u * q = n) := ⟨_, rfl⟩
  obtain ⟨s, Hs⟩ : ∃ s, Hid (q * v = s) := ⟨_, rfl⟩
  have Hf : Hid (frz (m + n) s = (x, y)) := by show frz (m + n) s = _; rw [← Hm.out, ← Hn.out, ← Hs.out]; exact h
  have hm : m ≤ 3600000000000000 := by rw [← Hm.out]; exact Nat.mul_le_mul hp hv
  have hn : n ≤ 3600000000000000 := by rw [← Hn.out]; exact Nat.mul_le_mul hu hq
  have hs : s ≤ 3600000000000000 := by rw [← Hs.out]; exact Nat.mul_le_mul hq hv
  have hs1 : 1 ≤ s := by rw [← Hs.out]; exact Nat.mul_pos q1 v1
  have p1 : (p : Int) * (v : Int) = (m : Int) := by rw [← Hm.out]; push_cast; rfl
  have p2 : (u : Int) * (q : Int) = (n : Int) := by rw [← Hn.out]; push_cast; rfl
  have p3 : (q : Int) * (v : Int) = (s : Int) := by rw [← Hs.out]; push_cast; rfl
  have HF := Lib.hid (fun W => lFrac_any (m + n) s x y W (by omega) (by omega) hs1 Hf.out)
  rw [show ((m + n : Nat) : Int) = (m : Int) + (n : Int) by push_cast; rfl] at HF
  obtain ⟨g, Hg⟩ : ∃ g, Hid (w.heap.size + 1 + 1 = g) := ⟨_, rfl⟩
  obtain ⟨W, HW⟩ : ∃ W, Hid (((w.alloc (.cells #[.int .i64 p, .int .i64 q] 26)).alloc (.cells #[.int .i64 u, .int .i64 v] 26)).alloc (.cells #[.int .i64 0, .int .i64 0] 26) = W) := ⟨_, rfl⟩
  have hsz : ((w.alloc (.cells #[.int .i64 p, .int .i64 q] 26)).alloc (.cells #[.int .i64 u, .int .i64 v] 26)).heap.size = g := by rw [size_alloc1, size_alloc1]; exact Hg.out
  have Hh : Hid (W.heap[g]? = some (.cells #[.int .i64 0, .int .i64 0] 26 (0, 0))) := by rw [← HW.out, ← hsz]; exact heap_alloc_new _ _
  have HB : Hid (Below w.heap.size w W) := by rw [← HW.out]; exact (((Below.refl _ _).alloc (Nat.le_refl _) _).alloc (by rw [size_alloc1]; omega) _).alloc (by rw [size_alloc1, size_alloc1]; omega) _
  have Hgl : Hid (g < W.heap.size) := by rw [← HW.out]; show g < (World.alloc _ _).heap.size; rw [size_alloc1, hsz]; omega
  clear hsz h
  go_enter Try.func16, Try.ntmps16
  go_wp2_with fail
  rw [HW.out]
  refine (HF.out _).mono ?_
  rintro e w4 ⟨rfl, hb4⟩
  have Hb4 := Lib.hid hb4
  clear hb4
  have Hh4 : Hid (w4.heap[g]? = some (.cells #[.int .i64 0, .int .i64 0] 26 (0, 0))) := (Hb4.out.block g Hgl.out).trans Hh.out
  obtain ⟨c2, c3, f2, f3⟩ := frac_cells Hh4.out
  have Hz : Hid (Below w.heap.size w ((w4.setCell ⟨g, 0, none⟩ (.int .i64 x)).setCell ⟨g, 1, none⟩ (.int .i64 y))) :=
    ((HB.out.trans (Hb4.out.mono HB.out.size)).setCell (by have := Hg.out; simp; omega) _).setCell (by have := Hg.out; simp; omega) _
  rw [Hg.out]
  go_wp2
  exact bodyPost_ret (v := .agg #[.int .i64 x, .int .i64 y]) (by simp [results, Try.results16, go_sem, c2, c3]) rfl ⟨rfl, Hz.out⟩

/-- The shares of the first i numbers are added up in block r. -/
def AddRel (a d k r : Nat) (W : World) (s : Value) (wr : World) : Prop :=
  ∃ i p q : Nat, s = .int .i64 i ∧ i ≤ k + 1 ∧ Hid (bzT a d k i = (p, q)) ∧ Hid (wr.heap[r]? = some (.cells #[.int .i64 p, .int .i64 q] 26 (0, 0))) ∧ Below r W wr
theorem heap_lt {w : World} {r : Nat} {o : Obj} (h : w.heap[r]? = some o) : r < w.heap.size := by
  rcases Nat.lt_or_ge r w.heap.size with hh | hh
  · exact hh
  · rw [Array.getElem?_eq_none hh] at h; cases h
set_option maxHeartbeats 6400000 in
theorem lawBusyShare_walk (A : Option Addr) (c : Nat) (zs : List Int) (w : World) (hr : RdB w w.heap.size A zs) (hc : zs.length ≤ c) (hm : c ≤ 9223372036854775807) :
    Calls Try.prog 3 #[.slice A zs.length c] w fun e w' => e = .returned (.bool true) ∧ Below w.heap.size w w' := by
  by_cases hb : 1048576 < zs.length
  · go_enter Try.func3, Try.ntmps3
    go_wp2
    go_ret
    exact ⟨rfl, Below.refl _ _⟩
  · have H := Lib.hid (drawBusyShare_any A c zs.length zs w hr rfl hc hm)
    clear hr
    go_enter Try.func3, Try.ntmps3
    go_wp2_with fail
    refine H.out.mono ?_
    rintro e w0 ⟨a, d, k, j, rfl, -, -, hb0⟩
    have HB0 := Lib.hid hb0
    clear hb0 H
    by_cases hv : (vbz a d k && (decide (0 ≤ j) && decide (j ≤ k))) = true
    · have hv1 := hv
      rw [Bool.and_eq_true, Bool.and_eq_true, decide_eq_true_eq, decide_eq_true_eq] at hv1
      obtain ⟨a, d, k, rfl, rfl, rfl, ha, hd, hd1, hk⟩ := vbz_nat hv1.1
      obtain ⟨j, rfl⟩ := Int.eq_ofNat_of_zero_le hv1.2.1
      have hjk : j ≤ k := by have := hv1.2.2; omega
      obtain ⟨x, y, Hxy⟩ : ∃ x y, Hid (bzB a d k j = (x, y)) := ⟨_, _, rfl⟩
      have HI := Lib.hid (fun W => iBusyShare_yes a d k j x y W ha hd hd1 hk hjk Hxy.out)
      have HS := Lib.hid (fun W => sBusyShare_yes a d k j x y W ha hd hd1 hk hjk Hxy.out)
      have HF0 : Hid (∀ W, Calls Try.prog 15 #[.int .i64 0, .int .i64 1] W fun e w' => e = .returned (.agg #[.int .i64 0, .int .i64 1]) ∧ Below W.heap.size W w') := fun W => lFrac_any 0 1 0 1 W (by omega) (by omega) (by omega) frz_zero
      have HF1 : Hid (∀ W, Calls Try.prog 15 #[.int .i64 1, .int .i64 1] W fun e w' => e = .returned (.agg #[.int .i64 1, .int .i64 1]) ∧ Below W.heap.size W w') := fun W => lFrac_any 1 1 1 1 W (by omega) (by omega) (by omega) frz_one
      have e1 := neqB_same (x : Int) (y : Int)
      clear hv hv1
      go_wp2_with fail
      refine (HI.out _).mono ?_
      rintro e w1 ⟨rfl, hb1⟩
      obtain ⟨W1, r1, HW1, Hr1, Hc1, HB1, Hs1⟩ := boxedB (x : Int) (y : Int) hb1
      clear hb1
      go_wp2_with fail
      rw [HW1.out, Hr1.out]
      refine (HS.out _).mono ?_
      rintro e w2 ⟨rfl, hb2⟩
      obtain ⟨W2, r2, HW2, Hr2, Hc2, HB2, Hs2⟩ := boxedB (x : Int) (y : Int) hb2
      have hk1 : W2.heap[r1]? = some (.cells #[.int .i64 (x : Int), .int .i64 (y : Int)] 26 (0, 0)) := keptB (n := 0) Hc1.out HB2.out Hs1.out
      obtain ⟨q0, q1, -, -⟩ := frac_cells hk1
      have Hk1 := Lib.hid hk1
      clear hk1 hb2
      rw [← HW2.out] at q0 q1
      go_wp2_with fail
      rw [HW2.out]
      clear q0 q1 e1
      refine (HF0.out _).mono ?_
      rintro e w3 ⟨rfl, hb3⟩
      have HB3 := Lib.hid hb3
      clear hb3
      obtain ⟨r3, Hr3⟩ : ∃ r3, Hid (w3.heap.size = r3) := ⟨_, rfl⟩
      have Hr13 : Hid (r1 < r3) := by have := HB2.out.size; have := HB3.out.size; have := Hs1.out; have := Hr3.out; show r1 < r3; omega
      have Hk3 : Hid (w3.heap[r1]? = some (.cells #[.int .i64 (x : Int), .int .i64 (y : Int)] 26 (0, 0))) := (HB3.out.block r1 (heap_lt Hk1.out)).trans Hk1.out
      have hbW : Hid (Below w.heap.size w w3) := ((HB0.out.trans (HB1.out.mono HB0.out.size)).trans (HB2.out.mono (by have := HB1.out.size; have := HB0.out.size; omega))).trans (HB3.out.mono (by have := HB1.out.size; have := HB0.out.size; have := HB2.out.size; omega))
      go_wp2
      rw [Hr3.out]
      go_loopw [12] (fun s wr => AddRel a d k r3 w3 s wr) (fun s _ => k + 1 - (intOf s).toNat)
      case atStart => exact ⟨0, 0, 1, rfl, by omega, rfl, by rw [← Hr3.out]; exact heap_alloc_new w3 _, by rw [← Hr3.out]; exact (Below.refl _ _).alloc (Nat.le_refl _) _⟩
      case round =>
        obtain ⟨i, p, q, rfl, hi, Hpq, Hc, hb⟩ := hrel
        have Hb := Lib.hid hb
        clear hb
        have Hrl := Lib.hid (heap_lt Hc.out)
        have hT := bzT_bd a ha d hd hd1 k hk i (by omega)
        rw [Hpq.out] at hT
        obtain ⟨g1, g2, g3⟩ := hT
        by_cases hlt : i ≤ k
        · obtain ⟨u, v, Huv⟩ : ∃ u v, Hid (bzB a d k i = (u, v)) := ⟨_, _, rfl⟩
          have hB := bzB_bd a ha d hd hd1 k hk i (by omega)
          rw [Huv.out] at hB
          obtain ⟨g4, g5, g6⟩ := hB
          obtain ⟨x1, y1, Hn⟩ : ∃ x1 y1, Hid (plz (p, q) (u, v) = (x1, y1)) := ⟨_, _, rfl⟩
          have Hn1 : Hid (bzT a d k (i + 1) = (x1, y1)) := by
            show plz (bzT a d k i) (bzB a d k i) = _
            rw [Hpq.out, Huv.out]
            exact Hn.out
          have HA := Lib.hid (fun W => iBusyShare_yes a d k i u v W ha hd hd1 hk hlt Huv.out)
          have HP := Lib.hid (fun W => plusOf_any p q u v x1 y1 W g1 g3 g4 g6 g2 g5 Hn.out)
          go_wp2_with fail
          refine (HA.out _).mono ?_
          rintro e w4 ⟨rfl, hb4⟩
          obtain ⟨W4, r4, HW4, Hr4, Hc4, HB4, Hs4⟩ := boxedB (u : Int) (v : Int) hb4
          have Hc5 : Hid (W4.heap[r3]? = some (.cells #[.int .i64 (p : Int), .int .i64 (q : Int)] 26 (0, 0))) := (HB4.out.block r3 Hrl.out).trans Hc.out
          obtain ⟨c0, c1, -, -⟩ := frac_cells Hc5.out
          rw [← HW4.out] at c0 c1
          clear hb4
          go_wp2_with fail
          rw [HW4.out]
          refine (HP.out _).mono ?_
          rintro e w5 ⟨rfl, hb5⟩
          have Hc6 : Hid (w5.heap[r3]? = some (.cells #[.int .i64 (p : Int), .int .i64 (q : Int)] 26 (0, 0))) := (hb5.block r3 (heap_lt Hc5.out)).trans Hc5.out
          have Hb5 : Hid (Below r3 w3 w5) := (Hb.out.trans (HB4.out.mono (Nat.le_of_lt Hrl.out))).trans (hb5.mono (Nat.le_of_lt (heap_lt Hc5.out)))
          clear c0 c1 hb5
          obtain ⟨c0, c1, f0, f1⟩ := frac_cells Hc6.out
          go_wp2
          go_roundw
          case rel => exact ⟨i + 1, x1, y1, by go_num, by omega, Hn1, set_frac Hc6.out, (Hb5.out.setCell (Nat.le_refl _) _).setCell (Nat.le_refl _) _⟩
          case measure => simp [intOf]; omega
        · obtain rfl : i = k + 1 := by omega
          have hone := (Hpq.out.symm.trans (bzT_one a ha d hd hd1 k hk))
          injection hone with ho1 ho2
          subst ho1 ho2
          have Hc' : Hid (wr.heap[r3]? = some (.cells #[.int .i64 1, .int .i64 1] 26 (0, 0))) := Hc
          obtain ⟨u, v, Huv⟩ : ∃ u v, Hid (bzL a d k = (u, v)) := ⟨_, _, rfl⟩
          have HL := Lib.hid (fun W => iLostStep_yes a d k u v W ha hd hd1 hk Huv.out)
          have HA := Lib.hid (fun W => iBusyShare_yes a d k k u v W ha hd hd1 hk (Nat.le_refl _) ((bzL_bz a ha d hd hd1 k hk).symm.trans Huv.out))
          go_wp2_with fail
          refine (HL.out _).mono ?_
          rintro e w4 ⟨rfl, hb4⟩
          obtain ⟨W4, r4, HW4, Hr4, Hc4, HB4, Hs4⟩ := boxedB (u : Int) (v : Int) hb4
          clear hb4
          go_wp2_with fail
          rw [HW4.out, Hr4.out]
          refine (HA.out _).mono ?_
          rintro e w5 ⟨rfl, hb5⟩
          obtain ⟨W5, r5, HW5, Hr5, Hc5, HB5, Hs5⟩ := boxedB (u : Int) (v : Int) hb5
          clear hb5
          have Hk1' : Hid (W5.heap[r1]? = some (.cells #[.int .i64 (x : Int), .int .i64 (y : Int)] 26 (0, 0))) :=
            (HB5.out.block r1 (by have := HB4.out.size; have := Hrl.out; have := Hr13.out; omega)).trans ((HB4.out.block r1 (by have := Hrl.out; have := Hr13.out; omega)).trans ((Hb.out.block r1 Hr13.out).trans Hk3.out))
          have Hk3' : Hid (W5.heap[r3]? = some (.cells #[.int .i64 1, .int .i64 1] 26 (0, 0))) :=
            (HB5.out.block r3 (by have := HB4.out.size; have := Hrl.out; omega)).trans ((HB4.out.block r3 Hrl.out).trans Hc'.out)
          have Hk4' : Hid (W5.heap[r4]? = some (.cells #[.int .i64 (u : Int), .int .i64 (v : Int)] 26 (0, 0))) := keptB (n := 0) Hc4.out HB5.out Hs4.out
          have Hz : Hid (Below w.heap.size w W5) := by
            have z1 := hbW.out.trans (Hb.out.mono (by have := hbW.out.size; have := Hr3.out; omega))
            have z2 := z1.trans (HB4.out.mono z1.size)
            exact z2.trans (HB5.out.mono z2.size)
          have K : Hid (∀ W, Below W5.heap.size W5 W → W.cell? ⟨r1, 0, none⟩ = some (.int .i64 x) ∧ W.cell? ⟨r3, 0, none⟩ = some (.int .i64 1) ∧ W.cell? ⟨r3, 1, none⟩ = some (.int .i64 1) ∧ W.cell? ⟨r4, 0, none⟩ = some (.int .i64 u) ∧ W.cell? ⟨r4, 1, none⟩ = some (.int .i64 v) ∧ W.cell? ⟨r5, 0, none⟩ = some (.int .i64 u) ∧ W.cell? ⟨r5, 1, none⟩ = some (.int .i64 v)) := fun W h =>
            ⟨(frac_cells ((h.block r1 (heap_lt Hk1'.out)).trans Hk1'.out)).1, (frac_cells ((h.block r3 (heap_lt Hk3'.out)).trans Hk3'.out)).1, (frac_cells ((h.block r3 (heap_lt Hk3'.out)).trans Hk3'.out)).2.1,
             (frac_cells ((h.block r4 (heap_lt Hk4'.out)).trans Hk4'.out)).1, (frac_cells ((h.block r4 (heap_lt Hk4'.out)).trans Hk4'.out)).2.1, (frac_cells ((h.block r5 (heap_lt Hc5.out)).trans Hc5.out)).1, (frac_cells ((h.block r5 (heap_lt Hc5.out)).trans Hc5.out)).2.1⟩
          obtain ⟨q0, q1, q2, q3, q4, q5, q6⟩ := K.out W5 (Below.refl _ _)
          have e2 := eqlB_same (u : Int) (v : Int)
          have e3 := eqlB_same 1 1
          have t0 : decide ((x : Int) ≥ 0) = true := decide_eq_true (by omega)
          have t1 : (0 : Int) ≤ (x : Int) := by omega
          go_wp2
          rw [HW5.out, Hr5.out]
          go_region_held3 (fun w' => w'.cell? ⟨r1, 0, none⟩ = some (.int .i64 x) ∧ w'.cell? ⟨r3, 0, none⟩ = some (.int .i64 1) ∧ w'.cell? ⟨r3, 1, none⟩ = some (.int .i64 1) ∧ w'.cell? ⟨r4, 0, none⟩ = some (.int .i64 u) ∧ w'.cell? ⟨r4, 1, none⟩ = some (.int .i64 v) ∧ w'.cell? ⟨r5, 0, none⟩ = some (.int .i64 u) ∧ w'.cell? ⟨r5, 1, none⟩ = some (.int .i64 v))
            (first
              | go_keep
              | exact K.out _ hbf)
            (first
              | (go_at_call 15
                 refine (HF1.out _).mono ?_
                 rintro e wf ⟨rfl, hqf⟩
                 have hbf : Below W5.heap.size W5 wf := belowd hqf))
          go_wp2
          go_ret
          exact ⟨rfl, Hz.out.trans (hbf.mono Hz.out.size)⟩
    · have hv' : (vbz a d k && (decide (0 ≤ j) && decide (j ≤ k))) = false := by simpa using hv
      have HI := Lib.hid (fun W => iBusyShare_no a d k j W hv')
      have HS := Lib.hid (fun W => sBusyShare_no a d k j W hv')
      have e1 := neqB_same 0 0
      have e2 := eqlB_same 0 0
      clear hv hv'
      go_wp2_with fail
      refine (HI.out _).mono ?_
      rintro e w1 ⟨rfl, hb1⟩
      obtain ⟨W1, r1, HW1, Hr1, Hc1, HB1, Hs1⟩ := boxedB 0 0 hb1
      clear hb1
      go_wp2_with fail
      rw [HW1.out, Hr1.out]
      refine (HS.out _).mono ?_
      rintro e w2 ⟨rfl, hb2⟩
      obtain ⟨W2, r2, HW2, Hr2, Hc2, HB2, Hs2⟩ := boxedB 0 0 hb2
      have hk1 : W2.heap[r1]? = some (.cells #[.int .i64 0, .int .i64 0] 26 (0, 0)) := keptB (n := 0) Hc1.out HB2.out Hs1.out
      obtain ⟨q0, q1, -, -⟩ := frac_cells hk1
      have Hk1 := Lib.hid hk1
      clear hk1 hb2
      rw [← HW2.out] at q0 q1
      go_wp2
      rw [HW2.out]
      go_ret
      exact ⟨rfl, (HB0.out.trans (HB1.out.mono HB0.out.size)).trans (HB2.out.mono (by have := HB1.out.size; have := HB0.out.size; omega))⟩
end Go.Proofs.Ytbbmjfnjpmefpaa
