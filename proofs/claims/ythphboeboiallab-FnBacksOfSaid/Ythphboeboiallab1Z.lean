/-
  MeanReached of the program, walked.
  Conditions: fewer than 2^20 numbers.
-/
import Derived.Test.Ythphboeboiallab1Y
import Derived.Test.YthphboeboiallabIC
import Derived.Deep.RegionHeld3
namespace Go.Proofs.Ythphboeboiallab
open Go.ChangeShapes Go.WideShapes Go.ChangeAt Go.RowKit
set_option linter.unusedVariables false
set_option maxRecDepth 4000

/-- What MeanReached answers. -/
def okM (zs ss : List Int) (far u d : Int) : Bool := vbB zs ss far && chB u d
def mrQ (zs ss : List Int) (far u d : Int) : Nat × Nat := if okM zs ss far u d = true then mnB (nrF far) u.toNat d.toNat zs ss else (0, 0)
theorem okM_get {zs ss : List Int} {far u d : Int} (h : okM zs ss far u d = true) : vbB zs ss far = true ∧ ∃ U D : Nat, u = U ∧ d = D ∧ U ≤ D ∧ 1 ≤ D ∧ D ≤ 10 := by
  simp only [okM, Bool.and_eq_true] at h
  exact ⟨h.1, chB_get h.2⟩
theorem mrQ_yes {zs ss : List Int} {far : Int} {U D : Nat} (h : okM zs ss far U D = true) : mrQ zs ss far U D = mnB (nrF far) U D zs ss := by
  unfold mrQ; rw [if_pos h]; rfl
theorem mrQ_no {zs ss : List Int} {far u d : Int} (h : okM zs ss far u d = false) : mrQ zs ss far u d = (0, 0) := by unfold mrQ; rw [if_neg (by simp [h])]
def FrM (x y : Nat) (ok : Bool) (w : World) (e : Ending) (w' : World) : Prop := e = .returned (.tuple #[.agg #[.int .i64 (x : Int), .int .i64 (y : Int)], .bool ok]) ∧ Below w.heap.size w w'
/-- The contract. -/
def MnC (F : Nat) : Prop := ∀ (A A' : Option Addr) (c c' n m : Nat) (zs ss : List Int) (far u d : Int) (w : World), PIn w A c n zs → PIn w A' c' m ss → PartQ w A' m c' ss →
  Calls Try.prog F #[.slice A n c, .slice A' m c', .int .i64 far, .agg #[.int .i64 u, .int .i64 d]] w (FrM (mrQ zs ss far u d).1 (mrQ zs ss far u d).2 (okM zs ss far u d) w)
theorem partQ_nil (w : World) : PartQ w none 0 0 [] := ⟨RdI.nil _ _ _, rfl, fun _ => ⟨rfl, rfl⟩, fun a h => by cases h⟩
theorem frac_cells {W : World} {p ty : Nat} {u d : Int} {fz : Nat × Nat} (h : W.heap[p]? = some (.cells #[.int .i64 u, .int .i64 d] ty fz)) : W.cell? ⟨p, 0, none⟩ = some (.int .i64 u) ∧ W.cell? ⟨p, 1, none⟩ = some (.int .i64 d) := by
  refine ⟨?_, ?_⟩ <;> exact (cell_of_row _ _ _ _ _ _ h).trans rfl
set_option maxHeartbeats 1600000 in
theorem iMeanReached_no (A A' : Option Addr) (c c' n m : Nat) (zs ss : List Int) (far u d : Int) (w : World) (h : PIn w A c n zs) (h' : PIn w A' c' m ss) (hv : okM zs ss far u d = false) :
    Calls Try.prog 18 #[.slice A n c, .slice A' m c', .int .i64 far, .agg #[.int .i64 u, .int .i64 d]] w (FrM 0 0 false w) := by
  have hb1 : Below w.heap.size w ((w.alloc (.cells #[.int .i64 u, .int .i64 d] 30)).alloc (.cells #[.int .i64 0, .int .i64 0] 30)) := ((Below.refl _ _).alloc (Nat.le_refl _) _).alloc (by rw [size_alloc1]; omega) _
  have p1 : ((w.alloc (.cells #[.int .i64 u, .int .i64 d] 30)).alloc (.cells #[.int .i64 0, .int .i64 0] 30)).heap[w.heap.size]? = some (.cells #[.int .i64 u, .int .i64 d] 30 (0, 0)) := by
    rw [heap_alloc_old _ _ (by rw [size_alloc1]; omega)]; exact heap_alloc_new _ _
  have q1 : ((w.alloc (.cells #[.int .i64 u, .int .i64 d] 30)).alloc (.cells #[.int .i64 0, .int .i64 0] 30)).heap[w.heap.size + 1]? = some (.cells #[.int .i64 0, .int .i64 0] 30 (0, 0)) := by
    have := heap_alloc_new (w.alloc (.cells #[.int .i64 u, .int .i64 d] 30)) (.cells #[.int .i64 0, .int .i64 0] 30)
    rw [size_alloc1] at this; exact this
  obtain ⟨w1, Hw1⟩ : ∃ w1, Hid ((w.alloc (.cells #[.int .i64 u, .int .i64 d] 30)).alloc (.cells #[.int .i64 0, .int .i64 0] 30) = w1) := ⟨_, rfl⟩
  rw [Hw1.out] at hb1 p1 q1
  obtain ⟨pb, Hpb⟩ : ∃ pb, Hid (w.heap.size = pb) := ⟨_, rfl⟩
  rw [Hpb.out] at p1 q1
  have HV := Lib.hid (iBacks_any A A' c c' n m zs ss far w1 (h.later hb1) (h'.later hb1))
  have HC := Lib.hid (iChance_any u d w1)
  obtain ⟨a0, a1⟩ := frac_cells p1
  have HB1 := Lib.hid hb1
  have P1 := Lib.hid p1
  have Q1 := Lib.hid q1
  clear h h' hb1 p1 q1
  by_cases h1 : vbB zs ss far = true
  · have h2 : chB u d = false := by unfold okM at hv; rw [h1] at hv; simpa using hv
    rw [h1] at HV
    rw [h2] at HC
    clear h1 h2 hv
    go_enter Try.func18, Try.ntmps18
    go_wp2_with fail
    rw [Hw1.out, Hpb.out]
    refine HV.out.mono ?_
    rintro e w2 ⟨rfl, rfl⟩
    go_wp2_with fail
    refine HC.out.mono ?_
    rintro e w2 ⟨rfl, hb2⟩
    have q2 := (hb2.block _ (row_lt Q1.out)).trans Q1.out
    obtain ⟨b0, b1⟩ := frac_cells q2
    have f0 := frozen_of_row _ (pb + 1) 0 _ _ q2
    have f1 := frozen_of_row _ (pb + 1) 1 _ _ q2
    have Q2 := Lib.hid q2
    have HB2 : Hid (Below w.heap.size w w2) := HB1.out.trans (hb2.mono HB1.out.size)
    clear q2 hb2
    go_wp2
    have hz : Below w.heap.size w ((w2.setCell ⟨pb + 1, 0, none⟩ (.int .i64 0)).setCell ⟨pb + 1, 1, none⟩ (.int .i64 0)) := (HB2.out.setCell (by show _ ≤ pb + 1; rw [Hpb.out]; omega) _).setCell (by show _ ≤ pb + 1; rw [Hpb.out]; omega) _
    have hz' := Lib.hid hz
    clear hz
    exact bodyPost_ret (v := .tuple #[.agg #[.int .i64 0, .int .i64 0], .bool false]) (by simp [results, Try.results18, go_sem, b0, b1]) rfl ⟨rfl, hz'.out⟩
  · have h1' : vbB zs ss far = false := by simpa using h1
    rw [h1'] at HV
    clear h1 h1' hv HC
    go_enter Try.func18, Try.ntmps18
    go_wp2_with fail
    rw [Hw1.out, Hpb.out]
    refine HV.out.mono ?_
    rintro e w2 ⟨rfl, rfl⟩
    obtain ⟨b0, b1⟩ := frac_cells Q1.out
    have f0 := frozen_of_row _ (pb + 1) 0 _ _ Q1.out
    have f1 := frozen_of_row _ (pb + 1) 1 _ _ Q1.out
    go_wp2
    have hz : Below w.heap.size w ((w1.setCell ⟨pb + 1, 0, none⟩ (.int .i64 0)).setCell ⟨pb + 1, 1, none⟩ (.int .i64 0)) := (HB1.out.setCell (by show _ ≤ pb + 1; rw [Hpb.out]; omega) _).setCell (by show _ ≤ pb + 1; rw [Hpb.out]; omega) _
    have hz' := Lib.hid hz
    clear hz
    exact bodyPost_ret (v := .tuple #[.agg #[.int .i64 0, .int .i64 0], .bool false]) (by simp [results, Try.results18, go_sem, b0, b1]) rfl ⟨rfl, hz'.out⟩
theorem rc_le {nr : Int → Int → Bool} {U D : Nat} {zs ss : List Int} (hD : D ≤ 10) (hz : zs.length ≤ 10) (hs : ss.length ≤ 4) : rcB nr U D zs ss ≤ 100000 := by
  have h1 : rcB nr U D zs ss ≤ zs.length * D ^ ss.length := wB_le zs ss
  have h2 := pow_le4 hD hs
  have h3 : zs.length * D ^ ss.length ≤ 10 * 10000 := Nat.mul_le_mul hz h2
  omega
set_option maxHeartbeats 3200000 in
theorem iMeanReached_yes (A A' : Option Addr) (c c' n m U D : Nat) (zs ss : List Int) (far : Int) (w : World) (h : PIn w A c n zs) (h' : PIn w A' c' m ss) (hp : PartQ w A' m c' ss) (hv : vbB zs ss far = true) (hU : U ≤ D) (hD1 : 1 ≤ D) (hD : D ≤ 10) :
    Calls Try.prog 18 #[.slice A n c, .slice A' m c', .int .i64 far, .agg #[.int .i64 (U : Int), .int .i64 (D : Int)]] w (FrM (mnB (nrF far) U D zs ss).1 (mnB (nrF far) U D zs ss).2 true w) := by
  obtain ⟨v1, v2, v3, v4, v5⟩ := vbB_get hv
  have hn10 : zs.length ≤ 10 := vh_len v1
  have hm4 : m ≤ 4 := by rw [← h'.len]; exact v3
  obtain ⟨x, Hx⟩ : ∃ x, Hid (rcB (nrF far) U D zs ss = x) := ⟨_, rfl⟩
  obtain ⟨y, Hy⟩ : ∃ y, Hid (D ^ m = y) := ⟨_, rfl⟩
  have hx : x ≤ 100000 := by rw [← Hx.out]; exact rc_le hD hn10 v3
  have hy : y ≤ 10000 := by rw [← Hy.out]; exact pow_le4 hD hm4
  have hy1 : 1 ≤ y := by rw [← Hy.out]; exact Nat.pow_pos hD1
  obtain ⟨p, q, Hpq⟩ : ∃ p q, Hid (frz x y = (p, q)) := ⟨_, _, rfl⟩
  have hE : mnB (nrF far) U D zs ss = (p, q) := by unfold mnB; rw [h'.len, Hx.out, Hy.out]; exact Hpq.out
  rw [hE]
  have hb1 : Below w.heap.size w ((w.alloc (.cells #[.int .i64 (U : Int), .int .i64 (D : Int)] 30)).alloc (.cells #[.int .i64 0, .int .i64 0] 30)) := ((Below.refl _ _).alloc (Nat.le_refl _) _).alloc (by rw [size_alloc1]; omega) _
  have p1 : ((w.alloc (.cells #[.int .i64 (U : Int), .int .i64 (D : Int)] 30)).alloc (.cells #[.int .i64 0, .int .i64 0] 30)).heap[w.heap.size]? = some (.cells #[.int .i64 (U : Int), .int .i64 (D : Int)] 30 (0, 0)) := by
    rw [heap_alloc_old _ _ (by rw [size_alloc1]; omega)]; exact heap_alloc_new _ _
  have q1 : ((w.alloc (.cells #[.int .i64 (U : Int), .int .i64 (D : Int)] 30)).alloc (.cells #[.int .i64 0, .int .i64 0] 30)).heap[w.heap.size + 1]? = some (.cells #[.int .i64 0, .int .i64 0] 30 (0, 0)) := by
    have := heap_alloc_new (w.alloc (.cells #[.int .i64 (U : Int), .int .i64 (D : Int)] 30)) (.cells #[.int .i64 0, .int .i64 0] 30)
    rw [size_alloc1] at this; exact this
  obtain ⟨w1, Hw1⟩ : ∃ w1, Hid ((w.alloc (.cells #[.int .i64 (U : Int), .int .i64 (D : Int)] 30)).alloc (.cells #[.int .i64 0, .int .i64 0] 30) = w1) := ⟨_, rfl⟩
  rw [Hw1.out] at hb1 p1 q1
  obtain ⟨pb, Hpb⟩ : ∃ pb, Hid (w.heap.size = pb) := ⟨_, rfl⟩
  rw [Hpb.out] at p1 q1
  have HV := Lib.hid (iBacks_any A A' c c' n m zs ss far w1 (h.later hb1) (h'.later hb1))
  rw [hv] at HV
  have HC := Lib.hid (iChance_any (U : Int) (D : Int) w1)
  have hch : chB (U : Int) (D : Int) = true := by simp [chB]; omega
  rw [hch] at HC
  obtain ⟨a0, a1⟩ := frac_cells p1
  have HB1 := Lib.hid hb1
  have P1 := Lib.hid p1
  have Q1 := Lib.hid q1
  have HP := Lib.hid h
  have HPP := Lib.hid hp
  have Hvv := Lib.hid hv
  have Hasc := Lib.hid (vh_asc v2)
  have Hlm := Lib.hid h'.len
  clear h h' hp hb1 p1 q1 hch hv v1 v2 v3 v4 v5 hE
  go_enter Try.func18, Try.ntmps18
  go_wp2_with fail
  rw [Hw1.out, Hpb.out]
  refine HV.out.mono ?_
  rintro e w2 ⟨rfl, rfl⟩
  go_wp2_with fail
  refine HC.out.mono ?_
  rintro e w2 ⟨rfl, hb2⟩
  have p2 := (hb2.block _ (row_lt P1.out)).trans P1.out
  have HB2 : Hid (Below w.heap.size w w2) := HB1.out.trans (hb2.mono HB1.out.size)
  have Q2 : Hid (w2.heap[pb + 1]? = some (.cells #[.int .i64 0, .int .i64 0] 30 (0, 0))) := (hb2.block _ (row_lt Q1.out)).trans Q1.out
  obtain ⟨e0, e1⟩ := frac_cells p2
  clear hb2 p2 a0 a1 HC HV
  go_wp2_with fail
  refine (watchOver_any (U : Int) (D : Int) far A n c w2).mono ?_
  rintro e w3 ⟨rfl, hb3⟩
  have HB3 : Hid (Below w.heap.size w w3) := HB2.out.trans (hb3.mono HB2.out.size)
  have Q3 : Hid (w3.heap[pb + 1]? = some (.cells #[.int .i64 0, .int .i64 0] 30 (0, 0))) := (hb3.block _ (row_lt Q2.out)).trans Q2.out
  have HW := Lib.hid (with_any (U : Int) (D : Int) far A none A' n c 0 0 m c' [] ss w3 (partQ_nil w3) (HPP.out.later HB3.out) (by omega))
  rw [List.nil_append, srt_id Hasc.out] at HW
  unfold WtA at HW
  rw [Hlm.out] at HW
  unfold wtC at HW ⊢
  clear hb3 e0 e1
  go_wp2_with fail
  refine HW.out.mono ?_
  rintro e w4 ⟨A4, c4, rfl, ho4, hb4⟩
  have hb5 : Below w4.heap.size w4 (w4.alloc (.cells (wtC (U : Int) (D : Int) A n c far A4 m c4) 59)) := (Below.refl _ _).alloc (Nat.le_refl _) _
  have g5 : (w4.alloc (.cells (wtC (U : Int) (D : Int) A n c far A4 m c4) 59)).heap[w4.heap.size]? = some (.cells (wtC (U : Int) (D : Int) A n c far A4 m c4) 59 (0, 0)) := heap_alloc_new _ _
  obtain ⟨w5, Hw5⟩ : ∃ w5, Hid (w4.alloc (.cells (wtC (U : Int) (D : Int) A n c far A4 m c4) 59) = w5) := ⟨_, rfl⟩
  rw [Hw5.out] at hb5 g5
  obtain ⟨pw, Hpw⟩ : ∃ pw, Hid (w4.heap.size = pw) := ⟨_, rfl⟩
  rw [Hpw.out] at g5
  have hbw5 : Below w.heap.size w w5 := HB3.out.trans ((hb4.out.trans (hb5.mono hb4.out.size)).mono HB3.out.size)
  have Q5 : Hid (w5.heap[pb + 1]? = some (.cells #[.int .i64 0, .int .i64 0] 30 (0, 0))) := (hb5.block _ (by have := row_lt Q3.out; have := hb4.out.size; omega)).trans ((hb4.out.block _ (row_lt Q3.out)).trans Q3.out)
  have hp5 : PIn w5 A4 c4 m ss := by
    obtain ⟨A6, c6, e6, h6, h7, h8⟩ := own_slice (ownN_below ho4.out hb5) Hlm.out
    injection e6 with e6 _ e7
    subst e6 e7
    exact ⟨h8, Hlm.out, ⟨h6, h7⟩, by omega⟩
  have HPin5 := Lib.hid hp5
  have HRe := Lib.hid (fun W (hW : Below w5.heap.size w5 W) => reached_any U D m n c c4 far A A4 zs ss W ((HP.out.later hbw5).later hW) (hp5.later hW) Hvv.out hU hD)
  rw [Hx.out] at HRe
  have HCa := Lib.hid (fun W => icases_any U D m W hD hm4)
  rw [Hy.out] at HCa
  have HF := Lib.hid (fun W => iFrac_any x y p q W (by omega) (by omega) hy1 Hpq.out)
  have K : Hid (∀ W, Below w5.heap.size w5 W → W.cell? ⟨pw, 0, none⟩ = some (.int .i64 (U : Int)) ∧ W.cell? ⟨pw, 1, none⟩ = some (.int .i64 (D : Int)) ∧ W.cell? ⟨pw, 2, none⟩ = some (.slice A n c) ∧ W.cell? ⟨pw, 3, none⟩ = some (.int .i64 far) ∧ W.cell? ⟨pw, 4, none⟩ = some (.slice A4 m c4)) := fun W hW => wtC_cells ((hW.block _ (row_lt g5)).trans g5)
  have KQ : Hid (∀ W, Below w5.heap.size w5 W → W.heap[pb + 1]? = some (.cells #[.int .i64 0, .int .i64 0] 30 (0, 0))) := fun W hW => (hW.block _ (row_lt Q5.out)).trans Q5.out
  have hpp : pb + 1 ≠ pw := by have := row_lt Q3.out; have := hb4.out.size; have := Hpw.out; omega
  have KS : Hid (∀ (W : World) (u0 u1 : Value), (W.cell? ⟨pw, 0, none⟩ = some (.int .i64 (U : Int)) ∧ W.cell? ⟨pw, 1, none⟩ = some (.int .i64 (D : Int)) ∧ W.cell? ⟨pw, 2, none⟩ = some (.slice A n c) ∧ W.cell? ⟨pw, 3, none⟩ = some (.int .i64 far) ∧ W.cell? ⟨pw, 4, none⟩ = some (.slice A4 m c4)) →
      ((W.setCell ⟨pb + 1, 0, none⟩ u0).setCell ⟨pb + 1, 1, none⟩ u1).cell? ⟨pw, 0, none⟩ = some (.int .i64 (U : Int)) ∧ ((W.setCell ⟨pb + 1, 0, none⟩ u0).setCell ⟨pb + 1, 1, none⟩ u1).cell? ⟨pw, 1, none⟩ = some (.int .i64 (D : Int)) ∧ ((W.setCell ⟨pb + 1, 0, none⟩ u0).setCell ⟨pb + 1, 1, none⟩ u1).cell? ⟨pw, 2, none⟩ = some (.slice A n c) ∧ ((W.setCell ⟨pb + 1, 0, none⟩ u0).setCell ⟨pb + 1, 1, none⟩ u1).cell? ⟨pw, 3, none⟩ = some (.int .i64 far) ∧ ((W.setCell ⟨pb + 1, 0, none⟩ u0).setCell ⟨pb + 1, 1, none⟩ u1).cell? ⟨pw, 4, none⟩ = some (.slice A4 m c4)) := fun W u0 u1 hh => by
    have hq : ∀ j, ((W.setCell ⟨pb + 1, 0, none⟩ u0).setCell ⟨pb + 1, 1, none⟩ u1).cell? ⟨pw, j, none⟩ = W.cell? ⟨pw, j, none⟩ := fun j => by
      rw [World.cell?_setCell_other _ ⟨pb + 1, 1, none⟩ _ _ (by intro e; injection e with e1 e2; exact hpp e1), World.cell?_setCell_other _ ⟨pb + 1, 0, none⟩ _ _ (by intro e; injection e with e1 e2; exact hpp e1)]
    rw [hq, hq, hq, hq, hq]
    exact hh
  have HBw5 := Lib.hid hbw5
  have HK5 := Lib.hid (K.out w5 (Below.refl _ _))
  obtain ⟨k0, k1, k2, k3, k4⟩ := HK5.out
  unfold wtC at Hw5 HRe
  clear ho4 hb4 hb5 g5 hbw5 hp5 HW HP HPP
  go_wp2
  rw [Hw5.out, Hpw.out]
  go_region_held3 (fun W' => W'.cell? ⟨pw, 0, none⟩ = some (.int .i64 (U : Int)) ∧ W'.cell? ⟨pw, 1, none⟩ = some (.int .i64 (D : Int)) ∧ W'.cell? ⟨pw, 2, none⟩ = some (.slice A n c) ∧ W'.cell? ⟨pw, 3, none⟩ = some (.int .i64 far) ∧ W'.cell? ⟨pw, 4, none⟩ = some (.slice A4 m c4))
    (first
      | go_keep
      | exact HK5.out
      | exact K.out _ hba
      | exact K.out _ hbc
      | exact K.out _ hbf
      | exact KS.out _ _ _ (K.out _ hbf))
    (first
      | (go_at_call 47
         refine (HRe.out _ (Below.drew (Below.refl _ _))).mono ?_
         rintro e wa ⟨rfl, hqa⟩
         have hba : Below w5.heap.size w5 wa := belowd hqa)
      | (go_at_call 48
         refine (HCa.out _).mono ?_
         rintro e wc ⟨rfl, hqc⟩
         have hbc : Below w5.heap.size w5 wc := hba.trans (hqc.mono hba.size))
      | (go_at_call 46
         refine (HF.out _).mono ?_
         rintro e wf ⟨rfl, hqf⟩
         have hbf : Below w5.heap.size w5 wf := hbc.trans (hqf.mono hbc.size)
         have q0 : wf.cell? ⟨pb + 1, 0, none⟩ = some (.int .i64 0) := by simp [World.cell?, KQ.out _ hbf]
         have q1 : wf.cell? ⟨pb + 1, 1, none⟩ = some (.int .i64 0) := by simp [World.cell?, KQ.out _ hbf]
         have g0 : wf.frozen? ⟨pb + 1, 0, none⟩ = false := by simp [World.frozen?, KQ.out _ hbf]
         have g1 : wf.frozen? ⟨pb + 1, 1, none⟩ = false := by simp [World.frozen?, KQ.out _ hbf]))
  go_wp2
  have hz : Below w.heap.size w ((wf.setCell ⟨pb + 1, 0, none⟩ (.int .i64 (p : Int))).setCell ⟨pb + 1, 1, none⟩ (.int .i64 (q : Int))) :=
    ((HBw5.out.trans (hbf.mono HBw5.out.size)).setCell (by show _ ≤ pb + 1; rw [Hpb.out]; omega) _).setCell (by show _ ≤ pb + 1; rw [Hpb.out]; omega) _
  exact bodyPost_ret (v := .tuple #[.agg #[.int .i64 (p : Int), .int .i64 (q : Int)], .bool true]) (by simp [results, Try.results18, go_sem, q0, q1]) rfl ⟨rfl, hz⟩
theorem iMeanReached_ok : MnC 18 := by
  intro A A' c c' n m zs ss far u d w h h' hp
  by_cases hv : okM zs ss far u d = true
  · obtain ⟨h1, U, D, rfl, rfl, h2, h3, h4⟩ := okM_get hv
    rw [mrQ_yes hv, hv]
    exact iMeanReached_yes A A' c c' n m U D zs ss far w h h' hp h1 h2 h3 h4
  · have hv' : okM zs ss far u d = false := by simpa using hv
    rw [mrQ_no hv', hv']
    exact iMeanReached_no A A' c c' n m zs ss far u d w h h' hv'
end Go.Proofs.Ythphboeboiallab
