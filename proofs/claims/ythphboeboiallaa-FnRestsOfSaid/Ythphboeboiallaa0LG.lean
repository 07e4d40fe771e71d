/-
  FnRestsOf, walked.
  Conditions: as the theorem states.
-/
import Derived.Test.Ythphboeboiallaa0LF
import Derived.Test.Ythphboeboiallaa0MC
namespace Go.Proofs.Ythphboeboiallaa
open Go.ChangeShapes Go.WideShapes Go.ChangeAt Go.RowKit
set_option linter.unusedVariables false
set_option maxRecDepth 4000

def RoRel (L : Nat) (w : World) (i : Value) (wr : World) : Prop := ∃ j : Nat, j ≤ L ∧ i = .int .i64 (j : Int) ∧ Hid (Below w.heap.size w wr)
set_option maxHeartbeats 3200000 in
theorem lawRestsOf_walk (A : Option Addr) (c : Nat) (bs : List Int) (w : World) (hr : RdB w w.heap.size A bs) (hcap : bs.length ≤ c) (hm : c ≤ maxLen) :
    Calls Try.prog 7 #[.slice A bs.length c] w fun e w' => e = .returned (.bool true) ∧ Below w.heap.size w w' := by
  unfold maxLen at hm
  obtain ⟨n0, Hn⟩ : ∃ n, Hid (bs.length = n) := ⟨_, rfl⟩
  rw [Hn.out] at hcap ⊢
  have HD := Lib.hid (drawRestsOf_any A c n0 bs w hr Hn.out hcap (by omega))
  have HR0 := Lib.hid iIsRest_ok
  clear hr
  by_cases hb : 1048576 < n0
  · go_enter Try.func7, Try.ntmps7
    go_wp2
    go_ret
    exact ⟨rfl, Below.refl _ _⟩
  · go_enter Try.func7, Try.ntmps7
    go_wp2_with fail
    refine HD.out.mono ?_
    rintro e w1 ⟨n, k, rfl, hn0, hn10, hk1, hk5, hb1⟩
    have B1 := Lib.hid hb1.out
    clear hb1 HD hb hcap hm
    obtain ⟨z, -, -, hm7, hll⟩ := rsQ_bd n k
    have Hat := Lib.hid (fun j => rsQ_at (n := n) (k := k) (j := j))
    have HI := Lib.hid (fun W => iRestsOf_ok n k W (WalkArith.wf_i64 (by omega)) (WalkArith.wf_i64 (by omega)))
    have HS := Lib.hid (fun W => sRestsOf_ok n k W (WalkArith.wf_i64 (by omega)) (WalkArith.wf_i64 (by omega)))
    have H2 : Hid (1 ≤ n → n ≤ 9 → k = 2 → (n.tmod 2 = 0 ∧ n % 2 = 0 ∧ (rsQ n k).length = 3) ∨ (n.tmod 2 = 1 ∧ n % 2 = 1 ∧ (rsQ n k).length = 1)) := fun a b e => by rw [e]; exact rsQ_two a b
    have H3 : Hid (∀ j, j < (rsQ n k).length → rtQ n (cI ((rsQ n k).getD j [])) = true) := fun j hj => by
      obtain ⟨N, K, rfl, rfl, a1, a9, a2, a4, e, hmem, hK⟩ := rsQ_at hj
      obtain ⟨s1, s2, s3⟩ := rsS_mem a1 a9 a2 a4 hmem
      rw [rtQ_yes s1 (by omega)]; exact s3
    have H4 : Hid (∀ j, j + 1 < (rsQ n k).length → lsS ((rsQ n k).getD j []) ((rsQ n k).getD (j + 1) []) = true) := fun j hj => by
      obtain ⟨N, K, rfl, rfl, a1, a9, a2, a4, e, hmem, hK⟩ := rsQ_at hj
      rw [e] at hj ⊢
      exact rsS_chain a1 a9 a2 a4 hj
    obtain ⟨Ls, HLs⟩ : ∃ Ls, Hid (rsQ n k = Ls) := ⟨_, rfl⟩
    rw [HLs.out] at HI HS hm7 Hat H2 H3 H4
    obtain ⟨L, HL⟩ : ∃ m, Hid (Ls.length = m) := ⟨_, rfl⟩
    rw [HL.out] at hm7 Hat H2 H3 H4
    have Hl7 : Hid (∀ j, j < L → (cI (Ls.getD j [])).length ≤ 7) := fun j hj => by
      obtain ⟨N, K, -, -, -, -, -, h4, -, -, hK⟩ := Hat.out j hj
      rw [cI_length, hK]; omega
    clear hll
    go_wp2_with fail
    refine (HI.out w1).mono ?_
    intro e w2 hq
    obtain ⟨A2, c2, VR2, rfl, O2, T2, q2⟩ := tab_uni HL.out hq
    have B2 := Lib.hid (B1.out.trans (q2.mono B1.out.size))
    have HO2 := Lib.hid O2
    have HT2 := Lib.hid T2
    clear hq O2 T2 q2
    go_wp2_with fail
    refine (HS.out w2).mono ?_
    intro e w3 hq
    obtain ⟨A3, c3, VR3, rfl, O3, T3, q3⟩ := tab_uni HL.out hq
    have B3 := Lib.hid (B2.out.trans (q3.mono B2.out.size))
    have HO32 := Lib.hid (HO2.out.below q3)
    have HT32 := Lib.hid (HT2.out.below q3)
    have HO3 := Lib.hid O3
    have HT3 := Lib.hid T3
    clear hq O3 T3 q3
    go_wp2_with fail
    refine (eqLR_below w3 _ _ L c2 c3 A2 A3 VR2 VR3 _ HO32.out HT32.out HO3.out HT3.out hm7 Hl7.out).mono ?_
    rintro e w4 ⟨rfl, q4⟩
    have B4 := Lib.hid (B3.out.trans (q4.mono B3.out.size))
    have HO4 := Lib.hid (HO32.out.below q4)
    have HT4 := Lib.hid (HT32.out.below q4)
    clear q4 HO2 HT2 HO32 HT32 HO3 HT3
    by_cases h1 : n < 1
    · have g1 : decide (n < 1) = true := decide_eq_true (by omega)
      go_wp2_with fail
      refine (HS.out w4).mono ?_
      intro e w5 hq
      obtain ⟨A5, c5, VR5, rfl, O5, T5, q5⟩ := tab_uni HL.out hq
      have B5 := Lib.hid (B4.out.trans (q5.mono B4.out.size))
      have HO45 := Lib.hid (HO4.out.below q5)
      have HT45 := Lib.hid (HT4.out.below q5)
      have HO5 := Lib.hid O5
      have HT5 := Lib.hid T5
      clear hq O5 T5 q5
      go_wp2_with fail
      refine (eqLR_below w5 _ _ L c2 c5 A2 A5 VR2 VR5 _ HO45.out HT45.out HO5.out HT5.out hm7 Hl7.out).mono ?_
      rintro e w6 ⟨rfl, q6⟩
      have B6 := Lib.hid (B5.out.trans (q6.mono B5.out.size))
      clear q6
      go_wp2
      go_ret
      exact ⟨rfl, B6.out⟩
    · have f1 : decide (n < 1) = false := decide_eq_false (by omega)
      by_cases h9 : 9 < n
      · have g1 : decide (n > 9) = true := decide_eq_true (by omega)
        have g2 : decide (9 < n) = true := decide_eq_true (by omega)
        go_wp2_with fail
        refine (HS.out w4).mono ?_
        intro e w5 hq
        obtain ⟨A5, c5, VR5, rfl, O5, T5, q5⟩ := tab_uni HL.out hq
        have B5 := Lib.hid (B4.out.trans (q5.mono B4.out.size))
        have HO45 := Lib.hid (HO4.out.below q5)
        have HT45 := Lib.hid (HT4.out.below q5)
        have HO5 := Lib.hid O5
        have HT5 := Lib.hid T5
        clear hq O5 T5 q5
        go_wp2_with fail
        refine (eqLR_below w5 _ _ L c2 c5 A2 A5 VR2 VR5 _ HO45.out HT45.out HO5.out HT5.out hm7 Hl7.out).mono ?_
        rintro e w6 ⟨rfl, q6⟩
        have B6 := Lib.hid (B5.out.trans (q6.mono B5.out.size))
        clear q6
        go_wp2
        go_ret
        exact ⟨rfl, B6.out⟩
      · have f2 : decide (n > 9) = false := decide_eq_false (by omega)
        have f3 : decide (9 < n) = false := decide_eq_false (by omega)
        by_cases h2 : k < 2
        · have g1 : decide (k < 2) = true := decide_eq_true (by omega)
          go_wp2_with fail
          refine (HS.out w4).mono ?_
          intro e w5 hq
          obtain ⟨A5, c5, VR5, rfl, O5, T5, q5⟩ := tab_uni HL.out hq
          have B5 := Lib.hid (B4.out.trans (q5.mono B4.out.size))
          have HO45 := Lib.hid (HO4.out.below q5)
          have HT45 := Lib.hid (HT4.out.below q5)
          have HO5 := Lib.hid O5
          have HT5 := Lib.hid T5
          clear hq O5 T5 q5
          go_wp2_with fail
          refine (eqLR_below w5 _ _ L c2 c5 A2 A5 VR2 VR5 _ HO45.out HT45.out HO5.out HT5.out hm7 Hl7.out).mono ?_
          rintro e w6 ⟨rfl, q6⟩
          have B6 := Lib.hid (B5.out.trans (q6.mono B5.out.size))
          clear q6
          go_wp2
          go_ret
          exact ⟨rfl, B6.out⟩
        · have f4 : decide (k < 2) = false := decide_eq_false (by omega)
          by_cases h4 : 4 < k
          · have g1 : decide (k > 4) = true := decide_eq_true (by omega)
            have g2 : decide (4 < k) = true := decide_eq_true (by omega)
            go_wp2_with fail
            refine (HS.out w4).mono ?_
            intro e w5 hq
            obtain ⟨A5, c5, VR5, rfl, O5, T5, q5⟩ := tab_uni HL.out hq
            have B5 := Lib.hid (B4.out.trans (q5.mono B4.out.size))
            have HO45 := Lib.hid (HO4.out.below q5)
            have HT45 := Lib.hid (HT4.out.below q5)
            have HO5 := Lib.hid O5
            have HT5 := Lib.hid T5
            clear hq O5 T5 q5
            go_wp2_with fail
            refine (eqLR_below w5 _ _ L c2 c5 A2 A5 VR2 VR5 _ HO45.out HT45.out HO5.out HT5.out hm7 Hl7.out).mono ?_
            rintro e w6 ⟨rfl, q6⟩
            have B6 := Lib.hid (B5.out.trans (q6.mono B5.out.size))
            clear q6
            go_wp2
            go_ret
            exact ⟨rfl, B6.out⟩
          · have f5 : decide (k > 4) = false := decide_eq_false (by omega)
            have f6 : decide (4 < k) = false := decide_eq_false (by omega)
            have H2n := Lib.hid (H2.out (by omega) (by omega))
            clear H2
            go_wp2
            go_loopw [6] (fun i wr => RoRel L w4 i wr) (fun i _ => L - (intOf i).toNat)
            case atStart => exact ⟨0, Nat.zero_le _, rfl, Below.refl _ _⟩
            case round =>
              obtain ⟨j, hj, rfl, HB⟩ := hrel
              by_cases hlt : j < L
              · obtain ⟨N, K, -, hkK, -, -, -, -, -, -, hK⟩ := Hat.out j hlt
                have HOr := Lib.hid (HO4.out.below HB.out)
                have HTr := Lib.hid (HT4.out.below HB.out)
                obtain ⟨g, A1, c1, m1, rfl, hgl, hcg, hp⟩ := row_read HOr.out HTr.out HL.out hlt (by have := Hl7.out j hlt; rw [cI_length] at this; omega)
                have hmk : ((m1 : Int) != k) = false := by have := hp.len; rw [cI_length] at this; simp; omega
                have Hgl := Lib.hid hgl
                have HPj := Lib.hid hp
                have Hcg := Lib.hid hcg
                have HIR : Hid (∀ V, Below wr.heap.size wr V → Calls Try.prog 30 #[.int .i64 n, .slice A1 m1 c1] V fun e w' => e = .returned (.bool true) ∧ Below V.heap.size V w') := fun V hV => by
                  have := HR0.out n A1 c1 m1 _ V (HPj.out.later hV)
                  rw [H3.out j hlt] at this
                  exact this
                rcases Nat.eq_zero_or_pos j with hj0 | hj0
                · have KS : Hid (∀ V, Below wr.heap.size wr V → V.cell? ⟨g, j, none⟩ = some (.slice A1 m1 c1)) := fun V hV => (hV.cell (p := ⟨g, j, none⟩) Hgl.out).trans Hcg.out
                  have g1 : decide ((j : Int) > 0) = false := decide_eq_false (by omega)
                  have g2 : decide (0 < j) = false := decide_eq_false (by omega)
                  have g3 : decide (0 < (j : Int)) = false := decide_eq_false (by omega)
                  clear hkK hK hp hgl hj0
                  go_wp2
                  refine wp_region_held_drew (S := fun W' => W'.cell? ⟨g, j, none⟩ = some (.slice A1 m1 c1)) (by kernel_rfl) Hcg.out (fun hHeld => ?_)
                  refine wpAnyH_take (i := 0) (v := ?_) rfl (by kernel_rfl) (by kernel_rfl) (by kernel_rfl) (fun _ _ _ h => h) (Or.inl ⟨by rfl, ?_⟩) (by assumption) ?_
                  rotate_left
                  · intro W' hSw
                    simp only [List.getElem_toArray, List.getElem_cons_zero]
                    go_simp
                    all_goals (with_reducible rfl)
                  try simp only [Act.put, List.getElem_toArray, List.getElem_cons_zero, List.setIfInBounds_toArray, List.set_cons_zero, List.set_cons_succ]
                  refine wpAnyH_take (i := 1) (v := ?_) rfl (by kernel_rfl) (by kernel_rfl) (by kernel_rfl) (fun _ _ _ h => h) (Or.inl ⟨by rfl, ?_⟩) (by assumption) ?_
                  rotate_left
                  · intro W' hSw
                    simp only [List.getElem_toArray, List.getElem_cons_succ, List.getElem_cons_zero]
                    go_simp
                    all_goals (with_reducible rfl)
                  try simp only [Act.put, List.getElem_toArray, List.getElem_cons_succ, List.getElem_cons_zero, List.setIfInBounds_toArray, List.set_cons_zero, List.set_cons_succ]
                  refine wpAnyH_take (i := 2) (v := ?_) rfl (by kernel_rfl) (by kernel_rfl) (by kernel_rfl) (fun _ _ _ h => h) (Or.inl ⟨by rfl, ?_⟩) (by assumption) ?_
                  rotate_left
                  · intro W' hSw
                    simp only [List.getElem_toArray, List.getElem_cons_succ, List.getElem_cons_zero]
                    go_simp
                    all_goals (with_reducible rfl)
                  try simp only [Act.put, List.getElem_toArray, List.getElem_cons_succ, List.getElem_cons_zero, List.setIfInBounds_toArray, List.set_cons_zero, List.set_cons_succ]
                  refine wpAnyH_take (i := 3) (v := ?_) rfl (by kernel_rfl) (by kernel_rfl) (by kernel_rfl) (fun _ _ _ h => h) (Or.inl ⟨by rfl, ?_⟩) (by assumption) ?_
                  rotate_left
                  · intro W' hSw
                    simp only [List.getElem_toArray, List.getElem_cons_succ, List.getElem_cons_zero]
                    go_simp
                    all_goals (with_reducible rfl)
                  try simp only [Act.put, List.getElem_toArray, List.getElem_cons_succ, List.getElem_cons_zero, List.setIfInBounds_toArray, List.set_cons_zero, List.set_cons_succ]
                  refine wpAnyH_take (i := 4) (v := ?_) rfl (by kernel_rfl) (by kernel_rfl) (by kernel_rfl) (fun _ _ _ h => h) (Or.inl ⟨by rfl, ?_⟩) (by assumption) ?_
                  rotate_left
                  · intro W' hSw
                    simp only [List.getElem_toArray, List.getElem_cons_succ, List.getElem_cons_zero]
                    go_simp
                    all_goals (with_reducible rfl)
                  try simp only [Act.put, List.getElem_toArray, List.getElem_cons_succ, List.getElem_cons_zero, List.setIfInBounds_toArray, List.set_cons_zero, List.set_cons_succ]
                  refine wpAnyH_ready (rs := [5]) (by kernel_rfl) (by simp) ?_
                  refine AllReadyH.cons rfl (fun K hK => ?_) AllReadyH.nil
                  simp only [List.getElem_toArray, List.getElem_cons_succ, List.getElem_cons_zero]
                  go_simp
                  go_at_call 30
                  refine (HIR.out _ (by first | exact Below.refl _ _ | exact (Below.refl _ _).drew)).mono ?_
                  rintro e w8 ⟨rfl, hb8'⟩
                  have hb8 : Below wr.heap.size wr w8 := (by first | exact hb8' | exact (Below.refl wr.heap.size wr).drew.trans hb8')
                  refine hK.out _ _ (KS.out _ hb8) (fun hHeld2 => ?_)
                  clear hK K
                  try simp only [Act.put, List.getElem_toArray, List.getElem_cons_succ, List.getElem_cons_zero, List.setIfInBounds_toArray, List.set_cons_zero, List.set_cons_succ]
                  refine wpAnyH_take (i := 6) (v := ?_) rfl (by kernel_rfl) (by kernel_rfl) (by kernel_rfl) (fun _ _ _ h => h) (Or.inl ⟨by rfl, ?_⟩) (by assumption) ?_
                  rotate_left
                  · intro W' hSw
                    simp only [List.getElem_toArray, List.getElem_cons_succ, List.getElem_cons_zero]
                    go_simp
                    all_goals (with_reducible rfl)
                  try simp only [Act.put, List.getElem_toArray, List.getElem_cons_succ, List.getElem_cons_zero, List.setIfInBounds_toArray, List.set_cons_zero, List.set_cons_succ]
                  refine wpAnyH_take (i := 7) (v := ?_) rfl (by kernel_rfl) (by kernel_rfl) (by kernel_rfl) (fun _ _ _ h => h) (Or.inl ⟨by rfl, ?_⟩) (by assumption) ?_
                  rotate_left
                  · intro W' hSw
                    simp only [List.getElem_toArray, List.getElem_cons_succ, List.getElem_cons_zero]
                    go_simp
                    all_goals (with_reducible rfl)
                  try simp only [Act.put, List.getElem_toArray, List.getElem_cons_succ, List.getElem_cons_zero, List.setIfInBounds_toArray, List.set_cons_zero, List.set_cons_succ]
                  refine wpAnyH_take (i := 8) (v := ?_) rfl (by kernel_rfl) (by kernel_rfl) (by kernel_rfl) (fun _ _ _ h => h) (Or.inl ⟨by rfl, ?_⟩) (by assumption) ?_
                  rotate_left
                  · intro W' hSw
                    simp only [List.getElem_toArray, List.getElem_cons_succ, List.getElem_cons_zero]
                    go_simp
                    all_goals (with_reducible rfl)
                  try simp only [Act.put, List.getElem_toArray, List.getElem_cons_succ, List.getElem_cons_zero, List.setIfInBounds_toArray, List.set_cons_zero, List.set_cons_succ]
                  refine wpAnyH_take (i := 9) (v := ?_) rfl (by kernel_rfl) (by kernel_rfl) (by kernel_rfl) (fun _ _ _ h => h) (Or.inl ⟨by rfl, ?_⟩) (by assumption) ?_
                  rotate_left
                  · intro W' hSw
                    simp only [List.getElem_toArray, List.getElem_cons_succ, List.getElem_cons_zero]
                    go_simp
                    all_goals (with_reducible rfl)
                  try simp only [Act.put, List.getElem_toArray, List.getElem_cons_succ, List.getElem_cons_zero, List.setIfInBounds_toArray, List.set_cons_zero, List.set_cons_succ]
                  refine wpAnyH_take (i := 10) (v := ?_) rfl (by kernel_rfl) (by kernel_rfl) (by kernel_rfl) (fun _ _ _ h => h) (Or.inl ⟨by rfl, ?_⟩) (by assumption) ?_
                  rotate_left
                  · intro W' hSw
                    simp only [List.getElem_toArray, List.getElem_cons_succ, List.getElem_cons_zero]
                    go_simp
                    all_goals (with_reducible rfl)
                  try simp only [Act.put, List.getElem_toArray, List.getElem_cons_succ, List.getElem_cons_zero, List.setIfInBounds_toArray, List.set_cons_zero, List.set_cons_succ]
                  refine wpAnyH_take (i := 11) (v := ?_) rfl (by kernel_rfl) (by kernel_rfl) (by kernel_rfl) (fun _ _ _ h => h) (Or.inl ⟨by rfl, ?_⟩) (by assumption) ?_
                  rotate_left
                  · intro W' hSw
                    simp only [List.getElem_toArray, List.getElem_cons_succ, List.getElem_cons_zero]
                    go_simp
                    all_goals (with_reducible rfl)
                  try simp only [Act.put, List.getElem_toArray, List.getElem_cons_succ, List.getElem_cons_zero, List.setIfInBounds_toArray, List.set_cons_zero, List.set_cons_succ]
                  refine wpAnyH_take (i := 12) (v := ?_) rfl (by kernel_rfl) (by kernel_rfl) (by kernel_rfl) (fun _ _ _ h => h) (Or.inl ⟨by rfl, ?_⟩) (by assumption) ?_
                  rotate_left
                  · intro W' hSw
                    simp only [List.getElem_toArray, List.getElem_cons_succ, List.getElem_cons_zero]
                    go_simp
                    all_goals (with_reducible rfl)
                  try simp only [Act.put, List.getElem_toArray, List.getElem_cons_succ, List.getElem_cons_zero, List.setIfInBounds_toArray, List.set_cons_zero, List.set_cons_succ]
                  refine wpAnyH_take (i := 13) (v := ?_) rfl (by kernel_rfl) (by kernel_rfl) (by kernel_rfl) (fun _ _ _ h => h) (Or.inl ⟨by rfl, ?_⟩) (by assumption) ?_
                  rotate_left
                  · intro W' hSw
                    simp only [List.getElem_toArray, List.getElem_cons_succ, List.getElem_cons_zero]
                    go_simp
                    all_goals (with_reducible rfl)
                  try simp only [Act.put, List.getElem_toArray, List.getElem_cons_succ, List.getElem_cons_zero, List.setIfInBounds_toArray, List.set_cons_zero, List.set_cons_succ]
                  refine wpAnyH_take (i := 14) (v := ?_) rfl (by kernel_rfl) (by kernel_rfl) (by kernel_rfl) (fun _ _ _ h => h) (Or.inl ⟨by rfl, ?_⟩) (by assumption) ?_
                  rotate_left
                  · intro W' hSw
                    simp only [List.getElem_toArray, List.getElem_cons_succ, List.getElem_cons_zero]
                    go_simp
                    all_goals (with_reducible rfl)
                  try simp only [Act.put, List.getElem_toArray, List.getElem_cons_succ, List.getElem_cons_zero, List.setIfInBounds_toArray, List.set_cons_zero, List.set_cons_succ]
                  refine wpAnyH_take (i := 15) (v := ?_) rfl (by kernel_rfl) (by kernel_rfl) (by kernel_rfl) (fun _ _ _ h => h) (Or.inl ⟨by rfl, ?_⟩) (by assumption) ?_
                  rotate_left
                  · intro W' hSw
                    simp only [List.getElem_toArray, List.getElem_cons_succ, List.getElem_cons_zero]
                    go_simp
                    all_goals (with_reducible rfl)
                  try simp only [Act.put, List.getElem_toArray, List.getElem_cons_succ, List.getElem_cons_zero, List.setIfInBounds_toArray, List.set_cons_zero, List.set_cons_succ]
                  refine wpAnyH_take (i := 16) (v := ?_) rfl (by kernel_rfl) (by kernel_rfl) (by kernel_rfl) (fun _ _ _ h => h) (Or.inl ⟨by rfl, ?_⟩) (by assumption) ?_
                  rotate_left
                  · intro W' hSw
                    simp only [List.getElem_toArray, List.getElem_cons_succ, List.getElem_cons_zero]
                    go_simp
                    all_goals (with_reducible rfl)
                  try simp only [Act.put, List.getElem_toArray, List.getElem_cons_succ, List.getElem_cons_zero, List.setIfInBounds_toArray, List.set_cons_zero, List.set_cons_succ]
                  refine wpAnyH_take (i := 17) (v := ?_) rfl (by kernel_rfl) (by kernel_rfl) (by kernel_rfl) (fun _ _ _ h => h) (Or.inl ⟨by rfl, ?_⟩) (by assumption) ?_
                  rotate_left
                  · intro W' hSw
                    simp only [List.getElem_toArray, List.getElem_cons_succ, List.getElem_cons_zero]
                    go_simp
                    all_goals (with_reducible rfl)
                  try simp only [Act.put, List.getElem_toArray, List.getElem_cons_succ, List.getElem_cons_zero, List.setIfInBounds_toArray, List.set_cons_zero, List.set_cons_succ]
                  refine wpAnyH_take (i := 18) (v := ?_) rfl (by kernel_rfl) (by kernel_rfl) (by kernel_rfl) (fun _ _ _ h => h) (Or.inl ⟨by rfl, ?_⟩) (by assumption) ?_
                  rotate_left
                  · intro W' hSw
                    simp only [List.getElem_toArray, List.getElem_cons_succ, List.getElem_cons_zero]
                    go_simp
                    all_goals (with_reducible rfl)
                  try simp only [Act.put, List.getElem_toArray, List.getElem_cons_succ, List.getElem_cons_zero, List.setIfInBounds_toArray, List.set_cons_zero, List.set_cons_succ]
                  refine wpAnyH_take (i := 19) (v := ?_) rfl (by kernel_rfl) (by kernel_rfl) (by kernel_rfl) (fun _ _ _ h => h) (Or.inl ⟨by rfl, ?_⟩) (by assumption) ?_
                  rotate_left
                  · intro W' hSw
                    simp only [List.getElem_toArray, List.getElem_cons_succ, List.getElem_cons_zero]
                    go_simp
                    all_goals (with_reducible rfl)
                  try simp only [Act.put, List.getElem_toArray, List.getElem_cons_succ, List.getElem_cons_zero, List.setIfInBounds_toArray, List.set_cons_zero, List.set_cons_succ]
                  refine wpAnyH_take (i := 20) (v := undef) rfl (by kernel_rfl) (by kernel_rfl) (by kernel_rfl) (fun _ _ _ h => h) (Or.inr ⟨by rfl, rfl⟩) (by assumption) ?_
                  try simp only [Act.put, List.getElem_toArray, List.getElem_cons_succ, List.getElem_cons_zero, List.setIfInBounds_toArray, List.set_cons_zero, List.set_cons_succ]
                  refine wpAnyH_take (i := 21) (v := undef) rfl (by kernel_rfl) (by kernel_rfl) (by kernel_rfl) (fun _ _ _ h => h) (Or.inr ⟨by rfl, rfl⟩) (by assumption) ?_
                  try simp only [Act.put, List.getElem_toArray, List.getElem_cons_succ, List.getElem_cons_zero, List.setIfInBounds_toArray, List.set_cons_zero, List.set_cons_succ]
                  refine wpAnyH_take (i := 22) (v := undef) rfl (by kernel_rfl) (by kernel_rfl) (by kernel_rfl) (fun _ _ _ h => h) (Or.inr ⟨by rfl, rfl⟩) (by assumption) ?_
                  try simp only [Act.put, List.getElem_toArray, List.getElem_cons_succ, List.getElem_cons_zero, List.setIfInBounds_toArray, List.set_cons_zero, List.set_cons_succ]
                  refine wpAnyH_take (i := 23) (v := undef) rfl (by kernel_rfl) (by kernel_rfl) (by kernel_rfl) (fun _ _ _ h => h) (Or.inr ⟨by rfl, rfl⟩) (by assumption) ?_
                  try simp only [Act.put, List.getElem_toArray, List.getElem_cons_succ, List.getElem_cons_zero, List.setIfInBounds_toArray, List.set_cons_zero, List.set_cons_succ]
                  refine wpAnyH_take (i := 24) (v := undef) rfl (by kernel_rfl) (by kernel_rfl) (by kernel_rfl) (fun _ _ _ h => h) (Or.inr ⟨by rfl, rfl⟩) (by assumption) ?_
                  try simp only [Act.put, List.getElem_toArray, List.getElem_cons_succ, List.getElem_cons_zero, List.setIfInBounds_toArray, List.set_cons_zero, List.set_cons_succ]
                  refine wpAnyH_take (i := 25) (v := undef) rfl (by kernel_rfl) (by kernel_rfl) (by kernel_rfl) (fun _ _ _ h => h) (Or.inr ⟨by rfl, rfl⟩) (by assumption) ?_
                  try simp only [Act.put, List.getElem_toArray, List.getElem_cons_succ, List.getElem_cons_zero, List.setIfInBounds_toArray, List.set_cons_zero, List.set_cons_succ]
                  refine wpAnyH_take (i := 26) (v := undef) rfl (by kernel_rfl) (by kernel_rfl) (by kernel_rfl) (fun _ _ _ h => h) (Or.inr ⟨by rfl, rfl⟩) (by assumption) ?_
                  try simp only [Act.put, List.getElem_toArray, List.getElem_cons_succ, List.getElem_cons_zero, List.setIfInBounds_toArray, List.set_cons_zero, List.set_cons_succ]
                  refine wpAnyH_take (i := 27) (v := undef) rfl (by kernel_rfl) (by kernel_rfl) (by kernel_rfl) (fun _ _ _ h => h) (Or.inr ⟨by rfl, rfl⟩) (by assumption) ?_
                  try simp only [Act.put, List.getElem_toArray, List.getElem_cons_succ, List.getElem_cons_zero, List.setIfInBounds_toArray, List.set_cons_zero, List.set_cons_succ]
                  refine wpAnyH_take (i := 28) (v := undef) rfl (by kernel_rfl) (by kernel_rfl) (by kernel_rfl) (fun _ _ _ h => h) (Or.inr ⟨by rfl, rfl⟩) (by assumption) ?_
                  try simp only [Act.put, List.getElem_toArray, List.getElem_cons_succ, List.getElem_cons_zero, List.setIfInBounds_toArray, List.set_cons_zero, List.set_cons_succ]
                  refine wpAnyH_take (i := 29) (v := undef) rfl (by kernel_rfl) (by kernel_rfl) (by kernel_rfl) (fun _ _ _ h => h) (Or.inr ⟨by rfl, rfl⟩) (by assumption) ?_
                  try simp only [Act.put, List.getElem_toArray, List.getElem_cons_succ, List.getElem_cons_zero, List.setIfInBounds_toArray, List.set_cons_zero, List.set_cons_succ]
                  refine wpAnyH_take (i := 30) (v := undef) rfl (by kernel_rfl) (by kernel_rfl) (by kernel_rfl) (fun _ _ _ h => h) (Or.inr ⟨by rfl, rfl⟩) (by assumption) ?_
                  try simp only [Act.put, List.getElem_toArray, List.getElem_cons_succ, List.getElem_cons_zero, List.setIfInBounds_toArray, List.set_cons_zero, List.set_cons_succ]
                  refine wpAnyH_take (i := 31) (v := ?_) rfl (by kernel_rfl) (by kernel_rfl) (by kernel_rfl) (fun _ _ _ h => h) (Or.inl ⟨by rfl, ?_⟩) (by assumption) ?_
                  rotate_left
                  · intro W' hSw
                    simp only [List.getElem_toArray, List.getElem_cons_succ, List.getElem_cons_zero]
                    go_simp
                    all_goals (with_reducible rfl)
                  try simp only [Act.put, List.getElem_toArray, List.getElem_cons_succ, List.getElem_cons_zero, List.setIfInBounds_toArray, List.set_cons_zero, List.set_cons_succ]
                  refine wpAnyH_take (i := 32) (v := ?_) rfl (by kernel_rfl) (by kernel_rfl) (by kernel_rfl) (fun _ _ _ h => h) (Or.inl ⟨by rfl, ?_⟩) (by assumption) ?_
                  rotate_left
                  · intro W' hSw
                    simp only [List.getElem_toArray, List.getElem_cons_succ, List.getElem_cons_zero]
                    go_simp
                    all_goals (with_reducible rfl)
                  try simp only [Act.put, List.getElem_toArray, List.getElem_cons_succ, List.getElem_cons_zero, List.setIfInBounds_toArray, List.set_cons_zero, List.set_cons_succ]
                  refine wpAnyH_done (by kernel_rfl) ?_ _
                  have HB8 : Hid (Below w4.heap.size w4 w8) := HB.out.trans (hb8.mono HB.out.size)
                  clear hHeld hHeld2
                  go_wp2
                  go_roundw
                  case rel => exact ⟨j + 1, by omega, by go_num, HB8⟩
                  case measure => simp [intOf]; omega
                · obtain ⟨i, hij⟩ : ∃ i, j = i + 1 := ⟨j - 1, by omega⟩
                  obtain ⟨g', A0, c0, m0, hge, -, hcg0, hp0⟩ := row_read HOr.out HTr.out HL.out (show i < L by omega) (by have := Hl7.out i (by omega); rw [cI_length] at this; omega)
                  injection hge with hge
                  injection hge with hge
                  subst hge
                  obtain ⟨N', K', -, hkK', -, -, -, -, -, -, hK'⟩ := Hat.out i (by omega)
                  have hmm : m0 = m1 := by
                    have a := hp0.len
                    have b := hp.len
                    rw [cI_length] at a b
                    omega
                  subst hmm
                  have HPi := Lib.hid hp0
                  have Hcg0 := Lib.hid hcg0
                  have HLR : Hid (∀ V, Below wr.heap.size wr V → Calls Try.prog 36 #[.slice A0 m0 c0, .slice A1 m0 c1] V fun e w' => e = .returned (.bool true) ∧ Below V.heap.size V w') := fun V hV =>
                    calls_drawn (lessQ_any A0 A1 c0 c1 m0 _ _ V (HPi.out.later hV) (HPj.out.later hV) (by have := H4.out i (by omega); rw [← hij] at this; exact this))
                  have KS : Hid (∀ V, Below wr.heap.size wr V → V.cell? ⟨g, j, none⟩ = some (.slice A1 m0 c1) ∧ V.cell? ⟨g, i, none⟩ = some (.slice A0 m0 c0)) := fun V hV =>
                    ⟨(hV.cell (p := ⟨g, j, none⟩) Hgl.out).trans Hcg.out, (hV.cell (p := ⟨g, i, none⟩) Hgl.out).trans Hcg0.out⟩
                  have g1 : decide ((j : Int) > 0) = true := decide_eq_true (by omega)
                  have g2 : decide (0 < j) = true := decide_eq_true (by omega)
                  have g3 : decide (0 < (j : Int)) = true := decide_eq_true (by omega)
                  have hw1 : IntKind.i64.wrap ((j : Int) - 1) = (i : Int) := by rw [show (j : Int) - 1 = (i : Int) by omega]; exact IntWalk.i64_in _ (by omega)
                  have hil : i < L := by omega
                  have hi1 : (0 : Int) ≤ (i : Int) := by omega
                  have hi2 : (i : Int) < (L : Int) := by omega
                  clear hkK hK hp hgl hp0 hkK' hK' hj0 hij
                  go_wp2
                  go_region_held3 (fun W' => W'.cell? ⟨g, j, none⟩ = some (.slice A1 m0 c1) ∧ W'.cell? ⟨g, i, none⟩ = some (.slice A0 m0 c0))
                    (first
                      | go_keep
                      | exact KS.out _ hb8
                      | exact KS.out _ hb9)
                    (first
                      | (go_at_call 30
                         refine (HIR.out _ (by first | exact Below.refl _ _ | exact (Below.refl _ _).drew)).mono ?_
                         rintro e w8 ⟨rfl, hb8'⟩
                         have hb8 : Below wr.heap.size wr w8 := (by first | exact hb8' | exact (Below.refl wr.heap.size wr).drew.trans hb8'))
                      | (go_at_call 36
                         refine (HLR.out _ hb8).mono ?_
                         rintro e w9 ⟨rfl, hb9'⟩
                         have hb9 : Below wr.heap.size wr w9 := hb8.trans (hb9'.mono hb8.size)))
                  have HB9 : Hid (Below w4.heap.size w4 w9) := HB.out.trans (hb9.mono HB.out.size)
                  go_wp2
                  go_roundw
                  case rel => exact ⟨j + 1, by omega, by go_num, HB9⟩
                  case measure => simp [intOf]; omega
              · obtain rfl : j = L := by omega
                have B6 := Lib.hid (B4.out.trans (HB.out.mono B4.out.size))
                by_cases hk2 : k = 2
                · have hkb : (k != 2) = false := by simp [hk2]
                  rcases H2n.out hk2 with ⟨e1, e2, e3⟩ | ⟨e1, e2, e3⟩
                  all_goals
                    subst e3
                    clear H2n hk2
                    go_wp2
                    go_ret
                    exact ⟨rfl, B6.out⟩
                · have hkb : (k != 2) = true := by rw [bne_iff_ne]; exact hk2
                  clear H2n
                  go_wp2
                  go_ret
                  exact ⟨rfl, B6.out⟩
end Go.Proofs.Ythphboeboiallaa
