/-
  The program's BusyShare and MeanBusy, walked; what a function that answers a fraction must answer.
  Conditions: none.
-/
import Derived.Test.YtbbmjfnjpmefpaaIE
import Derived.Deep.RegionHeld3
namespace Go.Proofs.Ytbbmjfnjpmefpaa
open Go.ChangeShapes Go.WideShapes Go.ChangeAt Go.RowKit
set_option linter.unusedVariables false
set_option maxRecDepth 4000

/-- A load and helpers that may be. -/
def vbz (a d k : Int) : Bool := decide (0 ≤ a) && (decide (a ≤ 10) && (decide (1 ≤ d) && (decide (d ≤ 10) && (decide (0 ≤ k) && decide (k ≤ 5)))))
theorem vbz_iff {a d k : Int} : vbz a d k = true ↔ (0 ≤ a ∧ a ≤ 10) ∧ (1 ≤ d ∧ d ≤ 10) ∧ 0 ≤ k ∧ k ≤ 5 := by unfold vbz; simp; omega
theorem vbz_nat {a d k : Int} (h : vbz a d k = true) : ∃ a' d' k' : Nat, a = a' ∧ d = d' ∧ k = k' ∧ a' < 11 ∧ d' < 11 ∧ 1 ≤ d' ∧ k' < 6 := by
  obtain ⟨⟨h1, h2⟩, ⟨h3, h4⟩, h5, h6⟩ := vbz_iff.1 h
  exact ⟨a.toNat, d.toNat, k.toNat, by omega, by omega, by omega, by omega, by omega, by omega, by omega⟩
theorem vbz_of {a d k : Nat} (ha : a < 11) (hd : d < 11) (h1 : 1 ≤ d) (hk : k < 6) : vbz a d k = true := vbz_iff.2 (by omega)

theorem validBusy_any (a d k : Int) (w : World) :
    Calls Try.prog 31 #[.int .i64 a, .int .i64 d, .int .i64 k] w fun e w' => e = .returned (.bool (vbz a d k)) ∧ w = w' := by
  by_cases h1 : 0 ≤ a
  · by_cases h2 : a ≤ 10
    · by_cases h3 : 1 ≤ d
      · by_cases h4 : d ≤ 10
        · by_cases h5 : 0 ≤ k
          · by_cases h6 : k ≤ 5
            all_goals
              go_enter Try.func31, Try.ntmps31
              go_wp2
              go_ret
              exact ⟨ret_bool (by unfold vbz; simp; omega), rfl⟩
          · go_enter Try.func31, Try.ntmps31
            go_wp2
            go_ret
            exact ⟨ret_bool (by unfold vbz; simp; omega), rfl⟩
        · go_enter Try.func31, Try.ntmps31
          go_wp2
          go_ret
          exact ⟨ret_bool (by unfold vbz; simp; omega), rfl⟩
      · go_enter Try.func31, Try.ntmps31
        go_wp2
        go_ret
        exact ⟨ret_bool (by unfold vbz; simp; omega), rfl⟩
    · go_enter Try.func31, Try.ntmps31
      go_wp2
      go_ret
      exact ⟨ret_bool (by unfold vbz; simp; omega), rfl⟩
  · go_enter Try.func31, Try.ntmps31
    go_wp2
    go_ret
    exact ⟨ret_bool (by unfold vbz; simp; omega), rfl⟩

theorem bzS_congr {f g : Nat → Nat} {n : Nat} (h : ∀ i, i < n → f i = g i) : bzS f n = bzS g n := by
  induction n with
  | zero => rfl
  | succ n ih => show bzS f n + f n = bzS g n + g n; rw [ih (fun i hi => h i (by omega)), h n (by omega)]
/-- A fraction and true, or nothing and false. -/
def FrT (x y : Int) (t : Bool) (w : World) (e : Ending) (w' : World) : Prop := e = .returned (.tuple #[.agg #[.int .i64 x, .int .i64 y], .bool t]) ∧ Below w.heap.size w w'
def Fr3No (F : Nat) : Prop := ∀ (a d k : Int) (w : World), vbz a d k = false → Calls Try.prog F #[.int .i64 a, .int .i64 d, .int .i64 k] w (FrT 0 0 false w)
def Fr3Yes (F : Nat) (ans : Nat → Nat → Nat → Nat × Nat) : Prop := ∀ (a d k x y : Nat) (w : World), a < 11 → d < 11 → 1 ≤ d → k < 6 → ans a d k = (x, y) →
  Calls Try.prog F #[.int .i64 a, .int .i64 d, .int .i64 k] w (FrT x y true w)
def Fr4No (F : Nat) : Prop := ∀ (a d k j : Int) (w : World), (vbz a d k && (decide (0 ≤ j) && decide (j ≤ k))) = false → Calls Try.prog F #[.int .i64 a, .int .i64 d, .int .i64 k, .int .i64 j] w (FrT 0 0 false w)
def Fr4Yes (F : Nat) : Prop := ∀ (a d k j x y : Nat) (w : World), a < 11 → d < 11 → 1 ≤ d → k < 6 → j ≤ k → bzB a d k j = (x, y) →
  Calls Try.prog F #[.int .i64 a, .int .i64 d, .int .i64 k, .int .i64 j] w (FrT x y true w)

set_option maxHeartbeats 800000 in
theorem iBusyShare_no : Fr4No 13 := by
  intro a d k j w h
  have H1 := Lib.hid (fun W => validBusy_any a d k W)
  by_cases hv : vbz a d k = true
  · rw [hv] at H1 h
    rw [Bool.true_and] at h
    clear hv
    by_cases hj : j < 0
    · clear h
      go_enter Try.func13, Try.ntmps13
      go_wp2_with fail
      refine (H1.out _).mono ?_
      rintro e w' ⟨rfl, rfl⟩
      go_wp2
      exact bodyPost_ret (v := .tuple #[.agg #[.int .i64 0, .int .i64 0], .bool false]) (by simp [results, Try.results13, go_sem]) rfl ⟨rfl, (Below.refl _ _).alloc (Nat.le_refl _) _⟩
    · have hk : k < j := by simp at h; omega
      clear h
      go_enter Try.func13, Try.ntmps13
      go_wp2_with fail
      refine (H1.out _).mono ?_
      rintro e w' ⟨rfl, rfl⟩
      go_wp2
      exact bodyPost_ret (v := .tuple #[.agg #[.int .i64 0, .int .i64 0], .bool false]) (by simp [results, Try.results13, go_sem]) rfl ⟨rfl, (Below.refl _ _).alloc (Nat.le_refl _) _⟩
  · have hv' : vbz a d k = false := by simpa using hv
    rw [hv'] at H1
    clear h hv hv'
    go_enter Try.func13, Try.ntmps13
    go_wp2_with fail
    refine (H1.out _).mono ?_
    rintro e w' ⟨rfl, rfl⟩
    go_wp2
    exact bodyPost_ret (v := .tuple #[.agg #[.int .i64 0, .int .i64 0], .bool false]) (by simp [results, Try.results13, go_sem]) rfl ⟨rfl, (Below.refl _ _).alloc (Nat.le_refl _) _⟩

set_option maxHeartbeats 1600000 in
theorem iBusyShare_yes : Fr4Yes 13 := by
  intro a d k j x y w ha hd h1 hk hj hxy
  have H1 := Lib.hid (fun W => validBusy_any a d k W)
  rw [vbz_of ha hd h1 hk] at H1
  obtain ⟨p, Hp⟩ : ∃ p, Hid (w.heap.size = p) := ⟨_, rfl⟩
  obtain ⟨W, HW⟩ : ∃ W, Hid (w.alloc (.cells #[.int .i64 0, .int .i64 0] 26) = W) := ⟨_, rfl⟩
  have Hh : Hid (W.heap[p]? = some (.cells #[.int .i64 0, .int .i64 0] 26 (0, 0))) := by rw [← HW.out, ← Hp.out]; exact heap_alloc_new w _
  have HB : Hid (Below w.heap.size w W) := by rw [← HW.out]; exact (Below.refl _ _).alloc (Nat.le_refl _) _
  have Hpl : Hid (p < W.heap.size) := by rw [← HW.out, ← Hp.out]; show _ < (w.alloc _).heap.size; rw [size_alloc1]; omega
  have H2 := Lib.hid (busyStates_any a d k W ha hd h1 hk)
  have HE := Lib.hid (bzI_eq a ha d hd h1 k hk)
  have HWb := Lib.hid (bzW_bd a ha d hd h1 k hk)
  have HSb := Lib.hid (bzS_bd a ha d hd h1 k hk)
  have HSp := Lib.hid (bzS_pos a ha d hd h1 k hk)
  go_enter Try.func13, Try.ntmps13
  go_wp2_with fail
  rw [HW.out, Hp.out]
  refine (H1.out _).mono ?_
  rintro e w' ⟨rfl, rfl⟩
  go_wp2_with fail
  refine H2.out.mono ?_
  rintro e w1 ⟨b, c, rfl, hc1, hc2, hbW, HS, hb1⟩
  have hw1 := hb1.size
  have Hb1 := Lib.hid hb1
  have Hh1 : Hid (w1.heap[p]? = some (.cells #[.int .i64 0, .int .i64 0] 26 (0, 0))) := (hb1.block p Hpl.out).trans Hh.out
  obtain ⟨u, Hu⟩ : ∃ u, Hid (bzI a d k j = u) := ⟨_, rfl⟩
  obtain ⟨v, Hv⟩ : ∃ v, Hid (bzS (bzI a d k) (k + 1) = v) := ⟨_, rfl⟩
  have hc : bzS (bzI a d k) (k + 1) = bzS (bzW a d k) (k + 1) := bzS_congr HE.out
  have Hf : Hid (frz u v = (x, y)) := by show frz u v = _; rw [← Hu.out, ← Hv.out, HE.out j (by omega), hc]; exact hxy
  have hu : u ≤ 12000000 := by rw [← Hu.out, HE.out j (by omega)]; exact HWb.out j (by omega)
  have hv0 : v ≤ 60000000 := by rw [← Hv.out, hc]; exact (HSb.out (k + 1) (by omega)).1
  have hv1 : 1 ≤ v := by rw [← Hv.out, hc]; exact HSp.out
  have hcell : w1.cell? ⟨b, j * 2 + 1, none⟩ = some (.int .i64 u) := by rw [← Hu.out]; exact (HS.out.2 j (by omega)).2
  have hbl := HS.out.1
  have hbp : b ≠ p := by have := Hpl.out; omega
  have HA := Lib.hid (fun W (h : Below w1.heap.size w1 W) => allWeight_any b (k + 1) c (bzI a d k) W (HS.out.below h) (by omega) hc1 hc2 (fun i hi => by rw [bzS_congr (fun m hm => HE.out m (by omega))]; have := (HSb.out i (by omega)).1; omega))
  rw [Hv.out] at HA
  have HF := Lib.hid (fun W => iFrac_any u v x y W (by omega) (by omega) hv1 Hf.out)
  have K : Hid (∀ W, Below w1.heap.size w1 W → W.cell? ⟨b, j * 2 + 1, none⟩ = some (.int .i64 u)) := fun W h => (h.cell (p := ⟨b, j * 2 + 1, none⟩) hbl).trans hcell
  have KP : Hid (∀ W, Below w1.heap.size w1 W → W.heap[p]? = some (.cells #[.int .i64 0, .int .i64 0] 26 (0, 0))) := fun W h => (h.block p (by have := Hpl.out; omega)).trans Hh1.out
  clear hc hb1 hxy
  have KS : Hid (∀ (W : World) (u0 u1 : Value), W.cell? ⟨b, j * 2 + 1, none⟩ = some (.int .i64 u) → ((W.setCell ⟨p, 0, none⟩ u0).setCell ⟨p, 1, none⟩ u1).cell? ⟨b, j * 2 + 1, none⟩ = some (.int .i64 u)) := fun W u0 u1 h => by
    rw [World.cell?_setCell_other _ ⟨p, 1, none⟩ _ _ (by intro e; injection e with e1 e2; exact hbp e1.symm), World.cell?_setCell_other _ ⟨p, 0, none⟩ _ _ (by intro e; injection e with e1 e2; exact hbp e1.symm)]
    exact h
  have i0 : (0 : Int) ≤ (j : Int) := by omega
  have i1 : (j : Int) < (k : Int) + 1 := by omega
  go_wp2
  go_region_held3 (fun w' => w'.cell? ⟨b, j * 2 + 1, none⟩ = some (.int .i64 u))
    (first
      | go_keep
      | exact K.out _ hba
      | exact K.out _ hbf
      | exact KS.out _ _ _ (K.out _ hbf))
    (first
      | (go_at_call 34
         refine (HA.out _ (Below.drew (Below.refl _ _))).mono ?_
         rintro e wa ⟨rfl, hqa⟩
         have hba : Below w1.heap.size w1 wa := belowd hqa)
      | (go_at_call 33
         refine (HF.out _).mono ?_
         rintro e wf ⟨rfl, hqf⟩
         have hbf : Below w1.heap.size w1 wf := hba.trans (hqf.mono hba.size)
         have q0 : wf.cell? ⟨p, 0, none⟩ = some (.int .i64 0) := by simp [World.cell?, KP.out _ hbf]
         have q1 : wf.cell? ⟨p, 1, none⟩ = some (.int .i64 0) := by simp [World.cell?, KP.out _ hbf]
         have g0 : wf.frozen? ⟨p, 0, none⟩ = false := by simp [World.frozen?, KP.out _ hbf]
         have g1 : wf.frozen? ⟨p, 1, none⟩ = false := by simp [World.frozen?, KP.out _ hbf]))
  go_wp2
  have Hz : Hid (Below w.heap.size w ((wf.setCell ⟨p, 0, none⟩ (.int .i64 x)).setCell ⟨p, 1, none⟩ (.int .i64 y))) :=
    (((HB.out.trans (Hb1.out.mono HB.out.size)).trans (hbf.mono (by have := HB.out.size; omega))).setCell (by have := Hp.out; simp; omega) _).setCell (by have := Hp.out; simp; omega) _
  exact bodyPost_ret (v := .tuple #[.agg #[.int .i64 x, .int .i64 y], .bool true]) (by simp [results, Try.results13, go_sem, q0, q1]) rfl ⟨rfl, Hz.out⟩

theorem iMeanBusy_no : Fr3No 21 := by
  intro a d k w h
  have H1 := Lib.hid (fun W => validBusy_any a d k W)
  rw [h] at H1
  clear h
  go_enter Try.func21, Try.ntmps21
  go_wp2_with fail
  refine (H1.out _).mono ?_
  rintro e w' ⟨rfl, rfl⟩
  go_wp2
  exact bodyPost_ret (v := .tuple #[.agg #[.int .i64 0, .int .i64 0], .bool false]) (by simp [results, Try.results21, go_sem]) rfl ⟨rfl, (Below.refl _ _).alloc (Nat.le_refl _) _⟩
set_option maxHeartbeats 1600000 in
theorem iMeanBusy_yes : Fr3Yes 21 bzM := by
  intro a d k x y w ha hd h1 hk hxy
  have H1 := Lib.hid (fun W => validBusy_any a d k W)
  rw [vbz_of ha hd h1 hk] at H1
  obtain ⟨p, Hp⟩ : ∃ p, Hid (w.heap.size = p) := ⟨_, rfl⟩
  obtain ⟨W, HW⟩ : ∃ W, Hid (w.alloc (.cells #[.int .i64 0, .int .i64 0] 26) = W) := ⟨_, rfl⟩
  have Hh : Hid (W.heap[p]? = some (.cells #[.int .i64 0, .int .i64 0] 26 (0, 0))) := by rw [← HW.out, ← Hp.out]; exact heap_alloc_new w _
  have HB : Hid (Below w.heap.size w W) := by rw [← HW.out]; exact (Below.refl _ _).alloc (Nat.le_refl _) _
  have Hpl : Hid (p < W.heap.size) := by rw [← HW.out, ← Hp.out]; show _ < (w.alloc _).heap.size; rw [size_alloc1]; omega
  have H2 := Lib.hid (busyStates_any a d k W ha hd h1 hk)
  have HE := Lib.hid (bzI_eq a ha d hd h1 k hk)
  have HSb := Lib.hid (bzS_bd a ha d hd h1 k hk)
  have HSp := Lib.hid (bzS_pos a ha d hd h1 k hk)
  obtain ⟨u, Hu⟩ : ∃ u, Hid (bzS (fun i => i * bzI a d k i) (k + 1) = u) := ⟨_, rfl⟩
  obtain ⟨v, Hv⟩ : ∃ v, Hid (bzS (bzI a d k) (k + 1) = v) := ⟨_, rfl⟩
  have hc : bzS (bzI a d k) (k + 1) = bzS (bzW a d k) (k + 1) := bzS_congr HE.out
  have hcu : ∀ n, n ≤ k + 1 → bzS (fun i => i * bzI a d k i) n = bzS (fun i => i * bzW a d k i) n := fun n hn => bzS_congr (fun i hi => by show i * _ = i * _; rw [HE.out i (by omega)])
  have Hf : Hid (frz u v = (x, y)) := by show frz u v = _; rw [← Hu.out, ← Hv.out, hcu _ (Nat.le_refl _), hc]; exact hxy
  have hu : u ≤ 300000000 := by rw [← Hu.out, hcu _ (Nat.le_refl _)]; exact (HSb.out (k + 1) (by omega)).2
  have hv0 : v ≤ 60000000 := by rw [← Hv.out, hc]; exact (HSb.out (k + 1) (by omega)).1
  have hv1 : 1 ≤ v := by rw [← Hv.out, hc]; exact HSp.out
  have HF := Lib.hid (fun W => iFrac_any u v x y W (by omega) (by omega) hv1 Hf.out)
  have HcuH := Lib.hid hcu
  clear hxy hc hcu
  go_enter Try.func21, Try.ntmps21
  go_wp2_with fail
  rw [HW.out, Hp.out]
  refine (H1.out _).mono ?_
  rintro e w' ⟨rfl, rfl⟩
  go_wp2_with fail
  refine H2.out.mono ?_
  rintro e w1 ⟨b, c, rfl, hc1, hc2, hbW, HS, hb1⟩
  have hterm : ∀ i, i < k + 1 → i * bzI a d k i ≤ 300000000 := fun i hi => by
    have h2 := (HSb.out (i + 1) (by omega)).2
    have h3 : bzS (fun m => m * bzW a d k m) (i + 1) = bzS (fun m => m * bzW a d k m) i + i * bzW a d k i := rfl
    rw [HE.out i hi]
    omega
  have H3 := Lib.hid (sumMean_any b (k + 1) c (bzI a d k) (fun i => i * bzI a d k i) w1 HS.out (by omega) hc1 hc2 (fun i hi => by rw [HcuH.out i hi]; exact (HSb.out i (by omega)).2)
    (fun i W hi => work_any i (bzI a d k i) _ W (hterm i hi) rfl))
  rw [Hu.out] at H3
  have Hb1 := Lib.hid hb1
  clear hb1 hterm
  go_wp2_with fail
  refine H3.out.mono ?_
  rintro e w2 ⟨rfl, hb2⟩
  have HA := Lib.hid (allWeight_any b (k + 1) c (bzI a d k) w2 (HS.out.below hb2) (by omega) hc1 hc2 (fun i hi => by rw [bzS_congr (fun m hm => HE.out m (by omega))]; have := (HSb.out i (by omega)).1; omega))
  rw [Hv.out] at HA
  have Hb2 : Hid (Below W.heap.size W w2) := Hb1.out.trans (hb2.mono Hb1.out.size)
  clear hb2
  go_wp2_with fail
  refine HA.out.mono ?_
  rintro e w3 ⟨rfl, hb3⟩
  have Hb3 : Hid (Below W.heap.size W w3) := Hb2.out.trans (hb3.mono Hb2.out.size)
  clear hb3
  go_wp2_with fail
  refine (HF.out _).mono ?_
  rintro e w4 ⟨rfl, hb4⟩
  have Hb4 : Hid (Below W.heap.size W w4) := Hb3.out.trans (hb4.mono Hb3.out.size)
  clear hb4
  have Hh4 : Hid (w4.heap[p]? = some (.cells #[.int .i64 0, .int .i64 0] 26 (0, 0))) := (Hb4.out.block p Hpl.out).trans Hh.out
  have q0 : w4.cell? ⟨p, 0, none⟩ = some (.int .i64 0) := by simp [World.cell?, Hh4.out]
  have q1 : w4.cell? ⟨p, 1, none⟩ = some (.int .i64 0) := by simp [World.cell?, Hh4.out]
  have g0 : w4.frozen? ⟨p, 0, none⟩ = false := by simp [World.frozen?, Hh4.out]
  have g1 : w4.frozen? ⟨p, 1, none⟩ = false := by simp [World.frozen?, Hh4.out]
  have Hz : Hid (Below w.heap.size w ((w4.setCell ⟨p, 0, none⟩ (.int .i64 x)).setCell ⟨p, 1, none⟩ (.int .i64 y))) :=
    ((HB.out.trans (Hb4.out.mono HB.out.size)).setCell (by have := Hp.out; simp; omega) _).setCell (by have := Hp.out; simp; omega) _
  go_wp2
  exact bodyPost_ret (v := .tuple #[.agg #[.int .i64 x, .int .i64 y], .bool true]) (by simp [results, Try.results21, go_sem, q0, q1]) rfl ⟨rfl, Hz.out⟩
end Go.Proofs.Ytbbmjfnjpmefpaa
