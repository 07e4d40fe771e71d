/-
  MeanReached, validSpread and better of the model, walked.
  Conditions: as each theorem states.
-/
import Derived.Test.Ythphboeboiallab1MB
import Derived.Test.Ythphboeboiallab1V
namespace Go.Proofs.Ythphboeboiallab
open Go.ChangeShapes Go.WideShapes Go.ChangeAt Go.RowKit
set_option linter.unusedVariables false
set_option maxRecDepth 4000

set_option maxHeartbeats 3200000 in
theorem sMeanReached_ok : MnC 19 := by
  intro A A' c c' n m zs ss far u d w h h' _
  have hb1 : Below w.heap.size w ((w.alloc (.cells #[.int .i64 u, .int .i64 d] 30)).alloc (.cells #[.int .i64 0, .int .i64 0] 30)) := ((Below.refl _ _).alloc (Nat.le_refl _) _).alloc (by rw [size_alloc1]; omega) _
  have p1 : ((w.alloc (.cells #[.int .i64 u, .int .i64 d] 30)).alloc (.cells #[.int .i64 0, .int .i64 0] 30)).heap[w.heap.size]? = some (.cells #[.int .i64 u, .int .i64 d] 30 (0, 0)) := by
    rw [heap_alloc_old _ _ (by rw [size_alloc1]; omega)]; exact heap_alloc_new _ _
  have q1 : ((w.alloc (.cells #[.int .i64 u, .int .i64 d] 30)).alloc (.cells #[.int .i64 0, .int .i64 0] 30)).heap[w.heap.size + 1]? = some (.cells #[.int .i64 0, .int .i64 0] 30 (0, 0)) := by
    have := heap_alloc_new (w.alloc (.cells #[.int .i64 u, .int .i64 d] 30)) (.cells #[.int .i64 0, .int .i64 0] 30)
    rw [size_alloc1] at this; exact this
  obtain ⟨w1, Hw1⟩ : ∃ w1, Hid ((w.alloc (.cells #[.int .i64 u, .int .i64 d] 30)).alloc (.cells #[.int .i64 0, .int .i64 0] 30) = w1) := ⟨_, rfl⟩
  rw [Hw1.out] at hb1 p1 q1
  obtain ⟨pb, Hpb⟩ : ∃ pb, Hid (w.heap.size = pb) := ⟨_, rfl⟩
  rw [Hpb.out] at p1 q1
  have HV := Lib.hid (sBack_any A A' c c' n m zs ss far u d w1 (h.later hb1) (h'.later hb1))
  obtain ⟨a0, a1⟩ := frac_cells p1
  have HB1 := Lib.hid hb1
  have P1 := Lib.hid p1
  have Q1 := Lib.hid q1
  clear hb1 p1 q1
  by_cases hv : okM zs ss far u d = true
  · obtain ⟨hvb, U, D, rfl, rfl, hU, hD1, hD⟩ := okM_get hv
    obtain ⟨v1, v2, v3, v4, v5⟩ := vbB_get hvb
    rw [mrQ_yes hv, hv]
    rw [hv] at HV
    have hm4 : m ≤ 4 := by rw [← h'.len]; exact v3
    obtain ⟨x, Hx⟩ : ∃ x, Hid (rcB (nrF far) U D zs ss = x) := ⟨_, rfl⟩
    obtain ⟨y, Hy⟩ : ∃ y, Hid (D ^ m = y) := ⟨_, rfl⟩
    have hx : x ≤ 100000 := by rw [← Hx.out]; exact rc_le hD (vh_len v1) v3
    have hy : y ≤ 10000 := by rw [← Hy.out]; exact pow_le4 hD hm4
    have hy1 : 1 ≤ y := by rw [← Hy.out]; exact Nat.pow_pos hD1
    obtain ⟨p, q, Hpq⟩ : ∃ p q, Hid (frz x y = (p, q)) := ⟨_, _, rfl⟩
    have hE : mnB (nrF far) U D zs ss = (p, q) := by unfold mnB; rw [h'.len, Hx.out, Hy.out]; exact Hpq.out
    rw [hE]
    have HRe := Lib.hid (fun W (hW : Below w.heap.size w W) => sReached_any U D m n c c' far A A' zs ss W (h.later hW) (h'.later hW) v1 v2 hm4 hU hD)
    rw [Hx.out] at HRe
    have HCa := Lib.hid (fun W => spower_any D m W hD hm4)
    rw [Hy.out] at HCa
    have HF := Lib.hid (fun W => sFrac_any x y p q W (by omega) (by omega) hy1 Hpq.out)
    clear h h' hv hvb v1 v2 v3 v4 v5 hE
    go_enter Try.func19, Try.ntmps19
    go_wp2_with fail
    rw [Hw1.out, Hpb.out]
    refine HV.out.mono ?_
    rintro e w2 ⟨rfl, hb2⟩
    have HB2 : Hid (Below w.heap.size w w2) := HB1.out.trans (hb2.mono HB1.out.size)
    have P2 : Hid (w2.heap[pb]? = some (.cells #[.int .i64 (U : Int), .int .i64 (D : Int)] 30 (0, 0))) := (hb2.block _ (row_lt P1.out)).trans P1.out
    have Q2 : Hid (w2.heap[pb + 1]? = some (.cells #[.int .i64 0, .int .i64 0] 30 (0, 0))) := (hb2.block _ (row_lt Q1.out)).trans Q1.out
    have K : Hid (∀ W, Below w2.heap.size w2 W → W.cell? ⟨pb, 0, none⟩ = some (.int .i64 (U : Int)) ∧ W.cell? ⟨pb, 1, none⟩ = some (.int .i64 (D : Int))) := fun W hW => frac_cells ((hW.block _ (row_lt P2.out)).trans P2.out)
    have KQ : Hid (∀ W, Below w2.heap.size w2 W → W.heap[pb + 1]? = some (.cells #[.int .i64 0, .int .i64 0] 30 (0, 0))) := fun W hW => (hW.block _ (row_lt Q2.out)).trans Q2.out
    have KS : Hid (∀ (W : World) (u0 u1 : Value), (W.cell? ⟨pb, 0, none⟩ = some (.int .i64 (U : Int)) ∧ W.cell? ⟨pb, 1, none⟩ = some (.int .i64 (D : Int))) →
        ((W.setCell ⟨pb + 1, 0, none⟩ u0).setCell ⟨pb + 1, 1, none⟩ u1).cell? ⟨pb, 0, none⟩ = some (.int .i64 (U : Int)) ∧ ((W.setCell ⟨pb + 1, 0, none⟩ u0).setCell ⟨pb + 1, 1, none⟩ u1).cell? ⟨pb, 1, none⟩ = some (.int .i64 (D : Int))) := fun W u0 u1 hh => by
      have hq : ∀ j, ((W.setCell ⟨pb + 1, 0, none⟩ u0).setCell ⟨pb + 1, 1, none⟩ u1).cell? ⟨pb, j, none⟩ = W.cell? ⟨pb, j, none⟩ := fun j => by
        rw [World.cell?_setCell_other _ ⟨pb + 1, 1, none⟩ _ _ (by intro e; injection e with e1 e2; omega), World.cell?_setCell_other _ ⟨pb + 1, 0, none⟩ _ _ (by intro e; injection e with e1 e2; omega)]
      rw [hq, hq]
      exact hh
    have HK2 := Lib.hid (K.out w2 (Below.refl _ _))
    have hRe2 := Lib.hid (fun W (hW : Below w2.heap.size w2 W) => HRe.out W (HB2.out.trans (hW.mono HB2.out.size)))
    obtain ⟨k0, k1⟩ := HK2.out
    clear hb2 a0 a1 HV HRe
    go_wp2
    go_region_held3 (fun W' => W'.cell? ⟨pb, 0, none⟩ = some (.int .i64 (U : Int)) ∧ W'.cell? ⟨pb, 1, none⟩ = some (.int .i64 (D : Int)))
      (first
        | go_keep
        | exact HK2.out
        | exact K.out _ hba
        | exact K.out _ hbf
        | exact KS.out _ _ _ (K.out _ hbf))
      (first
        | (go_at_call 50
           refine (hRe2.out _ (Below.drew (Below.refl _ _))).mono ?_
           rintro e wa ⟨rfl, hqa⟩
           have hba : Below w2.heap.size w2 wa := belowd hqa)
        | (go_at_call 51
           refine (HCa.out _).mono ?_
           rintro e wc ⟨rfl, rfl⟩)
        | (go_at_call 49
           refine (HF.out _).mono ?_
           rintro e wf ⟨rfl, hqf⟩
           have hbf : Below w2.heap.size w2 wf := hba.trans (hqf.mono hba.size)
           have q0 : wf.cell? ⟨pb + 1, 0, none⟩ = some (.int .i64 0) := by simp [World.cell?, KQ.out _ hbf]
           have q1 : wf.cell? ⟨pb + 1, 1, none⟩ = some (.int .i64 0) := by simp [World.cell?, KQ.out _ hbf]
           have g0 : wf.frozen? ⟨pb + 1, 0, none⟩ = false := by simp [World.frozen?, KQ.out _ hbf]
           have g1 : wf.frozen? ⟨pb + 1, 1, none⟩ = false := by simp [World.frozen?, KQ.out _ hbf]))
    go_wp2
    have hz : Below w.heap.size w ((wf.setCell ⟨pb + 1, 0, none⟩ (.int .i64 (p : Int))).setCell ⟨pb + 1, 1, none⟩ (.int .i64 (q : Int))) :=
      ((HB2.out.trans (hbf.mono HB2.out.size)).setCell (by show _ ≤ pb + 1; rw [Hpb.out]; omega) _).setCell (by show _ ≤ pb + 1; rw [Hpb.out]; omega) _
    exact bodyPost_ret (v := .tuple #[.agg #[.int .i64 (p : Int), .int .i64 (q : Int)], .bool true]) (by simp [results, Try.results19, go_sem, q0, q1]) rfl ⟨rfl, hz⟩
  · have hv' : okM zs ss far u d = false := by simpa using hv
    rw [mrQ_no hv', hv']
    rw [hv'] at HV
    clear h h' hv hv'
    go_enter Try.func19, Try.ntmps19
    go_wp2_with fail
    rw [Hw1.out, Hpb.out]
    refine HV.out.mono ?_
    rintro e w2 ⟨rfl, hb2⟩
    have q2 := (hb2.block _ (row_lt Q1.out)).trans Q1.out
    obtain ⟨b0, b1⟩ := frac_cells q2
    have f0 := frozen_of_row _ (pb + 1) 0 _ _ q2
    have f1 := frozen_of_row _ (pb + 1) 1 _ _ q2
    have HB2 : Hid (Below w.heap.size w w2) := HB1.out.trans (hb2.mono HB1.out.size)
    clear q2 hb2
    go_wp2
    have hz : Below w.heap.size w ((w2.setCell ⟨pb + 1, 0, none⟩ (.int .i64 0)).setCell ⟨pb + 1, 1, none⟩ (.int .i64 0)) := (HB2.out.setCell (by show _ ≤ pb + 1; rw [Hpb.out]; omega) _).setCell (by show _ ≤ pb + 1; rw [Hpb.out]; omega) _
    have hz' := Lib.hid hz
    clear hz
    exact bodyPost_ret (v := .tuple #[.agg #[.int .i64 0, .int .i64 0], .bool false]) (by simp [results, Try.results19, go_sem, b0, b1]) rfl ⟨rfl, hz'.out⟩
theorem vsB_eq (zs : List Int) (k far u d : Int) : vsB zs k far u d = (okM zs [] far u d && ((decide (1 ≤ (zs.length : Int)) && decide ((zs.length : Int) ≤ 7)) && (decide (0 ≤ k) && decide (k ≤ 4)))) := by
  have e1 : decide (1 ≤ (zs.length : Int)) = decide (1 ≤ zs.length) := by simp only [decide_eq_decide]; omega
  have e2 : decide ((zs.length : Int) ≤ 7) = decide (zs.length ≤ 7) := by simp only [decide_eq_decide]; omega
  rw [e1, e2]
  unfold vsB okM vbB
  rw [show vh [] = true from rfl]
  simp only [List.length_nil, Nat.zero_le, decide_true, Bool.true_and]
  cases vh zs <;> cases vfar far <;> cases chB u d <;> cases decide (1 ≤ zs.length) <;> cases decide (zs.length ≤ 7) <;> cases decide (0 ≤ k) <;> cases decide (k ≤ 4) <;> rfl
set_option maxHeartbeats 800000 in
theorem sSpread_any (A : Option Addr) (c n : Nat) (zs : List Int) (k far u d : Int) (w : World) (h : PIn w A c n zs) :
    Calls Try.prog 56 #[.slice A n c, .int .i64 k, .int .i64 far, .agg #[.int .i64 u, .int .i64 d]] w fun e w' => e = .returned (.bool (vsB zs k far u d)) ∧ Below w.heap.size w w' := by
  have hb1 : Below w.heap.size w (w.alloc (.cells #[.int .i64 u, .int .i64 d] 30)) := (Below.refl _ _).alloc (Nat.le_refl _) _
  have p1 : (w.alloc (.cells #[.int .i64 u, .int .i64 d] 30)).heap[w.heap.size]? = some (.cells #[.int .i64 u, .int .i64 d] 30 (0, 0)) := heap_alloc_new _ _
  obtain ⟨w1, Hw1⟩ : ∃ w1, Hid (w.alloc (.cells #[.int .i64 u, .int .i64 d] 30) = w1) := ⟨_, rfl⟩
  rw [Hw1.out] at hb1 p1
  obtain ⟨pb, Hpb⟩ : ∃ pb, Hid (w.heap.size = pb) := ⟨_, rfl⟩
  rw [Hpb.out] at p1
  obtain ⟨a0, a1⟩ := frac_cells p1
  have H1 := Lib.hid (sBack_any A none c 0 n 0 zs [] far u d w1 (h.later hb1) ⟨RdI.nil _ _ _, rfl, ⟨Nat.le_refl _, by omega⟩, by omega⟩)
  have H2 := Lib.hid (fun W => inRange_any (n : Int) 1 7 W)
  have H3 := Lib.hid (fun W => inRange_any k 0 4 W)
  have HE := Lib.hid (vsB_eq zs k far u d)
  rw [h.len] at HE
  have HB1 := Lib.hid hb1
  obtain ⟨b1, h1⟩ : ∃ b, okM zs [] far u d = b := ⟨_, rfl⟩
  obtain ⟨b2, h2⟩ : ∃ b, (decide (1 ≤ (n : Int)) && decide ((n : Int) ≤ 7)) = b := ⟨_, rfl⟩
  obtain ⟨b3, h3⟩ : ∃ b, (decide (0 ≤ k) && decide (k ≤ 4)) = b := ⟨_, rfl⟩
  rw [h1] at H1 HE
  rw [h2] at H2 HE
  rw [h3] at H3 HE
  rw [HE.out]
  clear h hb1 p1 h1 h2 h3 HE
  cases b1
  · go_enter Try.func56, Try.ntmps56
    go_wp2_with fail
    rw [Hw1.out, Hpb.out]
    refine H1.out.mono ?_
    rintro e w2 ⟨rfl, hb2⟩
    have HB2 : Hid (Below w.heap.size w w2) := HB1.out.trans (hb2.mono HB1.out.size)
    clear hb2
    go_wp2
    go_ret
    exact ⟨ret_bool (by simp), HB2.out⟩
  · cases b2
    · go_enter Try.func56, Try.ntmps56
      go_wp2_with fail
      rw [Hw1.out, Hpb.out]
      refine H1.out.mono ?_
      rintro e w2 ⟨rfl, hb2⟩
      have HB2 : Hid (Below w.heap.size w w2) := HB1.out.trans (hb2.mono HB1.out.size)
      clear hb2
      go_wp2_with fail
      refine (H2.out _).mono ?_
      rintro e w3 ⟨rfl, rfl⟩
      go_wp2
      go_ret
      exact ⟨ret_bool (by simp), HB2.out⟩
    · go_enter Try.func56, Try.ntmps56
      go_wp2_with fail
      rw [Hw1.out, Hpb.out]
      refine H1.out.mono ?_
      rintro e w2 ⟨rfl, hb2⟩
      have HB2 : Hid (Below w.heap.size w w2) := HB1.out.trans (hb2.mono HB1.out.size)
      clear hb2
      go_wp2_with fail
      refine (H2.out _).mono ?_
      rintro e w3 ⟨rfl, rfl⟩
      go_wp2_with fail
      refine (H3.out _).mono ?_
      rintro e w3 ⟨rfl, rfl⟩
      go_wp2
      go_ret
      exact ⟨ret_bool (by simp), HB2.out⟩
set_option maxHeartbeats 1600000 in
theorem better_any (U D k n c ca cb : Nat) (far : Int) (A Aa Ab : Option Addr) (zs sa sb : List Int) (w : World) (h0 : PIn w A c n zs) (ha : PIn w Aa ca k sa) (hb : PIn w Ab cb k sb) (hz : vh zs = true) (hsa : vh sa = true) (hsb : vh sb = true) (hk4 : k ≤ 4) (hU : U ≤ D) (hD : D ≤ 10) :
    Calls Try.prog 58 #[.slice A n c, .slice Aa k ca, .slice Ab k cb, .int .i64 far, .agg #[.int .i64 (U : Int), .int .i64 (D : Int)]] w fun e w' => e = .returned (.bool (decide (rcB (nrF far) U D zs sb < rcB (nrF far) U D zs sa))) ∧ Below w.heap.size w w' := by
  have hb1 : Below w.heap.size w (w.alloc (.cells #[.int .i64 (U : Int), .int .i64 (D : Int)] 30)) := (Below.refl _ _).alloc (Nat.le_refl _) _
  have p1 : (w.alloc (.cells #[.int .i64 (U : Int), .int .i64 (D : Int)] 30)).heap[w.heap.size]? = some (.cells #[.int .i64 (U : Int), .int .i64 (D : Int)] 30 (0, 0)) := heap_alloc_new _ _
  obtain ⟨w1, Hw1⟩ : ∃ w1, Hid (w.alloc (.cells #[.int .i64 (U : Int), .int .i64 (D : Int)] 30) = w1) := ⟨_, rfl⟩
  rw [Hw1.out] at hb1 p1
  obtain ⟨pb, Hpb⟩ : ∃ pb, Hid (w.heap.size = pb) := ⟨_, rfl⟩
  rw [Hpb.out] at p1
  have HA := Lib.hid (fun W (hW : Below w1.heap.size w1 W) => sReached_any U D k n c ca far A Aa zs sa W ((h0.later hb1).later hW) ((ha.later hb1).later hW) hz hsa hk4 hU hD)
  have HBb := Lib.hid (fun W (hW : Below w1.heap.size w1 W) => sReached_any U D k n c cb far A Ab zs sb W ((h0.later hb1).later hW) ((hb.later hb1).later hW) hz hsb hk4 hU hD)
  have HB1 := Lib.hid hb1
  have K : Hid (∀ W, Below w1.heap.size w1 W → W.cell? ⟨pb, 0, none⟩ = some (.int .i64 (U : Int)) ∧ W.cell? ⟨pb, 1, none⟩ = some (.int .i64 (D : Int))) := fun W hW => frac_cells ((hW.block _ (row_lt p1)).trans p1)
  have HK1 := Lib.hid (K.out w1 (Below.refl _ _))
  obtain ⟨k0, k1⟩ := HK1.out
  generalize rcB (nrF far) U D zs sa = x at HA ⊢
  generalize rcB (nrF far) U D zs sb = y at HBb ⊢
  clear h0 ha hb hz hsa hsb hb1 p1
  go_enter Try.func58, Try.ntmps58
  go_wp2
  rw [Hw1.out, Hpb.out]
  go_region_held3 (fun W' => W'.cell? ⟨pb, 0, none⟩ = some (.int .i64 (U : Int)) ∧ W'.cell? ⟨pb, 1, none⟩ = some (.int .i64 (D : Int)))
    (first
      | go_keep
      | exact HK1.out
      | exact K.out _ hba
      | exact K.out _ hbc)
    (first
      | (go_at_call 50
         with_reducible refine (HA.out _ (Below.drew (Below.refl _ _))).mono ?_
         rintro e wa ⟨rfl, hqa⟩
         have hba : Below w1.heap.size w1 wa := belowd hqa)
      | (go_at_call 50
         with_reducible refine (HBb.out _ hba).mono ?_
         rintro e wc ⟨rfl, hqc⟩
         have hbc : Below w1.heap.size w1 wc := hba.trans (hqc.mono hba.size)))
  have HBz : Hid (Below w.heap.size w wc) := HB1.out.trans (hbc.mono HB1.out.size)
  go_wp2
  go_ret
  exact ⟨ret_bool (by simp), HBz.out⟩
end Go.Proofs.Ythphboeboiallab
