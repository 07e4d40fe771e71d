/-
  lessRow of the laws; a table's rows read; FnShopsThree, walked.
  Conditions: as each theorem states.
-/
import Derived.Test.Ythphboeboiallaa0LA
import Derived.Test.Ythphboeboiallaa0D
import Derived.Test.YthphboeboiallaaB9
import Derived.Test.Ythphboeboiallaa0EX
namespace Go.Proofs.Ythphboeboiallaa
open Go.ChangeShapes Go.WideShapes Go.ChangeAt Go.RowKit
set_option linter.unusedVariables false
set_option maxRecDepth 4000

theorem drop_at {a : List Nat} {t x : Nat} (h : t < a.length) (hx : a.getD t 0 = x) : a.drop t = x :: a.drop (t + 1) := by
  rw [List.drop_eq_getElem_cons h, ← hx]
  simp [List.getD, h]
theorem ls_lt {x y : Nat} {a b : List Nat} (h : lsS (x :: a) (y :: b) = true) (he : x ≠ y) : x < y := by
  simp only [lsS, if_neg he] at h
  simpa using h
theorem ls_eq {x : Nat} {a b : List Nat} (h : lsS (x :: a) (x :: b) = true) : lsS a b = true := by simpa [lsS] using h
set_option maxHeartbeats 800000 in
theorem lessQ_any (A A' : Option Addr) (c c' m : Nat) (a b : List Nat) (w : World) (h : PIn w A c m (cI a)) (h' : PIn w A' c' m (cI b)) (hl : lsS a b = true) :
    Calls Try.prog 36 #[.slice A m c, .slice A' m c'] w fun e w' => e = .returned (.bool true) ∧ ∃ q, w' = w.drewN q := by
  have Ha : Hid (a.length = m) := by show _ = _; rw [← cI_length]; exact h.len
  have Hb : Hid (b.length = m) := by show _ = _; rw [← cI_length]; exact h'.len
  have hr := h.rd
  have hr' := h'.rd
  have hm := h.most
  have HL0 : Hid (lsS (a.drop 0) (b.drop 0) = true) := hl
  clear h h' hl
  go_enter Try.func36, Try.ntmps36
  go_wp2
  go_loopw [5] (fun i wr => ∃ t : Nat, ∃ q, t ≤ m ∧ i = .int .i64 (t : Int) ∧ wr = w.drewN q ∧ Hid (lsS (a.drop t) (b.drop t) = true)) (fun i wr => m - (intOf i).toNat)
  case atStart => exact ⟨0, 0, Nat.zero_le _, rfl, rfl, HL0⟩
  case round =>
    clear HL0
    obtain ⟨t, q, ht, rfl, rfl, HL⟩ := hrel
    by_cases hlt : t < m
    · obtain ⟨b1, off, x, rfl, hbw, Hx, hc⟩ := hr.q (k := t) (by rw [Ha.out]; exact hlt)
      obtain ⟨b2, off', y, rfl, hbw', Hy, hc'⟩ := hr'.q (k := t) (by rw [Hb.out]; exact hlt)
      have hls := HL.out
      rw [drop_at (by rw [Ha.out]; exact hlt) Hx.out, drop_at (by rw [Hb.out]; exact hlt) Hy.out] at hls
      by_cases he : x = y
      · subst he
        have HL2 : Hid (lsS (a.drop (t + 1)) (b.drop (t + 1)) = true) := ls_eq hls
        have hb1 : ((x : Int) != (x : Int)) = false := by simp
        clear hls
        go_wp2
        go_quiet (fail)
        go_wp2
        go_roundw
        case rel => exact ⟨t + 1, _, by omega, by go_num, rfl, HL2⟩
        case measure => simp [intOf]; omega
      · have hlt2 := ls_lt hls he
        have hb1 : ((x : Int) != (y : Int)) = true := by rw [bne_iff_ne]; omega
        have g1 : decide ((x : Int) < (y : Int)) = true := by simp; omega
        have g2 : decide (x < y) = true := by simp; omega
        clear hls he
        go_wp2
        go_quiet (fail)
        go_wp2
        go_quiet (fail)
        go_wp2
        go_ret
        exact ⟨rfl, _, by first | rfl | exact World.drewN_drewN _ _ _ | (rw [World.drewN_drewN, World.drewN_drewN])⟩
    · exfalso
      have hls := HL.out
      rw [List.drop_of_length_le (by rw [Ha.out]; omega), List.drop_of_length_le (by rw [Hb.out]; omega)] at hls
      simp [lsS] at hls

/-- A row of a table, read. -/
theorem row_read {w : World} {B L c : Nat} {A : Option Addr} {VR : Nat → Value} {Ls : List (List Nat)} (ho : Outer w B L (.slice A L c) VR) (ht : TT w B L VR (fun j => cI (Ls.getD j []))) (hL : Ls.length = L) {j : Nat} (hj : j < L) (hl : (Ls.getD j []).length ≤ 100) :
    ∃ g A' c' m, A = some ⟨g, 0, none⟩ ∧ g < w.heap.size ∧ w.cell? ⟨g, j, none⟩ = some (.slice A' m c') ∧ PIn w A' c' m (cI (Ls.getD j [])) := by
  obtain ⟨A2, c2, e, -, -, h⟩ := own_sliceN ho
  injection e with e1 _ e3
  subst e1 e3
  obtain ⟨g, rfl, -, hg⟩ := h (by omega)
  obtain ⟨A', c', m, h1, -, h3⟩ := RowsT.rowIn (Ls := Ls) ⟨hL, ho, ht⟩ hj hl
  exact ⟨g, A', c', m, rfl, hg, h1, h3⟩
theorem rsQ_at {n k : Int} {j : Nat} (hj : j < (rsQ n k).length) : ∃ N K : Nat, n = N ∧ k = K ∧ 1 ≤ N ∧ N ≤ 9 ∧ 2 ≤ K ∧ K ≤ 4 ∧ rsQ n k = rsS N K ∧ (rsQ n k).getD j [] ∈ rsS N K ∧ ((rsQ n k).getD j []).length = K := by
  by_cases h : okR n k = true
  · obtain ⟨N, K, rfl, rfl, h1, h9, h2, h4⟩ := okR_get h
    have e := rsQ_yes h1 h9 h2 h4
    rw [e] at hj ⊢
    have hm : (rsS N K).getD j [] ∈ rsS N K := by simp [List.getD, hj]
    exact ⟨N, K, rfl, rfl, h1, h9, h2, h4, rfl, hm, (rsS_mem h1 h9 h2 h4 hm).2.1⟩
  · rw [rsQ_no (by simpa using h)] at hj; simp at hj
theorem rsQ_two {n : Int} (h1 : 1 ≤ n) (h9 : n ≤ 9) : (n.tmod 2 = 0 ∧ n % 2 = 0 ∧ (rsQ n 2).length = 3) ∨ (n.tmod 2 = 1 ∧ n % 2 = 1 ∧ (rsQ n 2).length = 1) := by
  obtain ⟨N, rfl⟩ : ∃ N : Nat, n = N := ⟨n.toNat, by omega⟩
  have e := rsS_two (n := N) (by omega) (by omega)
  rw [← rsQ_yes (by omega) (by omega) (by omega) (by omega)] at e
  have e2 : (((N : Nat) : Int)).tmod 2 = ((N % 2 : Nat) : Int) := (Int.ofNat_tmod N 2).symm
  have e' : (rsQ (N : Int) 2).length = 3 - 2 * (N % 2) := e
  rcases (show N % 2 = 0 ∨ N % 2 = 1 by omega) with h | h
  · exact .inl ⟨by omega, by omega, by omega⟩
  · exact .inr ⟨by omega, by omega, by omega⟩

set_option maxHeartbeats 1600000 in
theorem lawShopsThree_walk (A : Option Addr) (c : Nat) (bs : List Int) (w : World) (hr : RdB w w.heap.size A bs) (hcap : bs.length ≤ c) (hm : c ≤ maxLen) :
    Calls Try.prog 9 #[.slice A bs.length c] w fun e w' => e = .returned (.bool true) ∧ Below w.heap.size w w' := by
  unfold maxLen at hm
  obtain ⟨n0, Hn⟩ : ∃ n, Hid (bs.length = n) := ⟨_, rfl⟩
  rw [Hn.out] at hcap ⊢
  have HD := Lib.hid (drawRestsOf_any A c n0 bs w hr Hn.out hcap (by omega))
  clear hr
  by_cases hb : 1048576 < n0
  · go_enter Try.func9, Try.ntmps9
    go_wp2
    go_ret
    exact ⟨rfl, Below.refl _ _⟩
  · go_enter Try.func9, Try.ntmps9
    go_wp2_with fail
    refine HD.out.mono ?_
    rintro e w1 ⟨n, k, rfl, hn0, hn10, hk1, hk5, hb1⟩
    have B1 := Lib.hid hb1.out
    clear hb1 HD hb hcap hm
    obtain ⟨z, -, -, hm7, hll⟩ := rsQ_bd n k
    have Hat := Lib.hid (fun j => rsQ_at (n := n) (k := k) (j := j))
    have HI := Lib.hid (fun W => iRestsOf_ok n k W (WalkArith.wf_i64 (by omega)) (WalkArith.wf_i64 (by omega)))
    have HS := Lib.hid (fun W => sRestsOf_ok n k W (WalkArith.wf_i64 (by omega)) (WalkArith.wf_i64 (by omega)))
    have HI2 := Lib.hid (fun W => iRestsOf_ok n 2 W (WalkArith.wf_i64 (by omega)) (WalkArith.wf_i64 (by omega)))
    have H2 : Hid (1 ≤ n → n ≤ 9 → (n.tmod 2 = 0 ∧ n % 2 = 0 ∧ (rsQ n 2).length = 3) ∨ (n.tmod 2 = 1 ∧ n % 2 = 1 ∧ (rsQ n 2).length = 1)) := fun a b => rsQ_two a b
    have H3 : Hid (∀ j, j < (rsQ n k).length → 4 ≤ n → k = 3 → ((rsQ n k).getD j []).getD 0 0 ≠ ((rsQ n k).getD j []).getD 2 0) := fun j hj h4 hk => by
      obtain ⟨N, K, rfl, rfl, a1, a9, a2, a4, e, hmem, -⟩ := rsQ_at hj
      obtain rfl : K = 3 := by omega
      exact rsS_three (by omega) a9 hmem
    obtain ⟨Ls, HLs⟩ : ∃ Ls, Hid (rsQ n k = Ls) := ⟨_, rfl⟩
    rw [HLs.out] at HI HS hm7 Hat H3
    obtain ⟨L, HL⟩ : ∃ m, Hid (Ls.length = m) := ⟨_, rfl⟩
    rw [HL.out] at hm7 Hat H3
    have Hl7 : Hid (∀ j, j < L → (cI (Ls.getD j [])).length ≤ 7) := fun j hj => by
      obtain ⟨N, K, -, -, -, -, -, h4, -, -, hK⟩ := Hat.out j hj
      rw [cI_length, hK]; omega
    clear hll
    go_wp2_with fail
    refine (HI.out w1).mono ?_
    intro e w2 hq
    obtain ⟨A2, c2, VR2, rfl, O2, T2, q2⟩ := tab_uni HL.out hq
    have B2 := Lib.hid (B1.out.trans (q2.mono B1.out.size))
    have HO2 := Lib.hid O2
    have HT2 := Lib.hid T2
    clear hq O2 T2 q2
    go_wp2_with fail
    refine (HS.out w2).mono ?_
    intro e w3 hq
    obtain ⟨A3, c3, VR3, rfl, O3, T3, q3⟩ := tab_uni HL.out hq
    have B3 := Lib.hid (B2.out.trans (q3.mono B2.out.size))
    have HO32 := Lib.hid (HO2.out.below q3)
    have HT32 := Lib.hid (HT2.out.below q3)
    have HO3 := Lib.hid O3
    have HT3 := Lib.hid T3
    clear hq O3 T3 q3
    go_wp2_with fail
    refine (eqLR_below w3 _ _ L c2 c3 A2 A3 VR2 VR3 _ HO32.out HT32.out HO3.out HT3.out hm7 Hl7.out).mono ?_
    rintro e w4 ⟨rfl, q4⟩
    have B4 := Lib.hid (B3.out.trans (q4.mono B3.out.size))
    clear q4 HO2 HT2 HO32 HT32 HO3 HT3
    go_wp2_with fail
    refine (HI.out w4).mono ?_
    intro e w5 hq
    obtain ⟨A5, c5, VR5, rfl, O5, T5, q5⟩ := tab_uni HL.out hq
    have B5 := Lib.hid (B4.out.trans (q5.mono B4.out.size))
    have HO5 := Lib.hid O5
    have HT5 := Lib.hid T5
    clear hq O5 T5 q5
    by_cases h4 : n < 4
    · go_wp2
      go_ret
      exact ⟨rfl, B5.out⟩
    · by_cases h9 : 9 < n
      · have g1 : decide (n > 9) = true := by simp; omega
        go_wp2
        go_ret
        exact ⟨rfl, B5.out⟩
      · have g1 : decide (n > 9) = false := by simp; omega
        have g2 : decide (9 < n) = false := by simp; omega
        have Hn4 : Hid (4 ≤ n) := by show _ ≤ _; omega
        have H2n := Lib.hid (H2.out (by omega) (by omega))
        clear H2
        go_wp2
        go_loopw [6] (fun i wr => ∃ j : Nat, ∃ q, j ≤ L ∧ i = .int .i64 (j : Int) ∧ wr = w5.drewN q) (fun i wr => L - (intOf i).toNat)
        case atStart => exact ⟨0, 0, Nat.zero_le _, rfl, rfl⟩
        case round =>
          obtain ⟨j, q, hj, rfl, rfl⟩ := hrel
          by_cases hlt : j < L
          · obtain ⟨N, K, -, hkK, -, -, -, -, -, -, hK⟩ := Hat.out j hlt
            obtain ⟨g, A', c', m, rfl, -, hcg, hp⟩ := row_read HO5.out HT5.out HL.out hlt (by have := Hl7.out j hlt; rw [cI_length] at this; omega)
            by_cases hk3 : k = 3
            · have hm3 : m = 3 := by have := hp.len; rw [cI_length] at this; omega
              subst hm3
              have hll := hp.len
              rw [cI_length] at hll
              obtain ⟨b, off, x, rfl, -, Hx, hc0⟩ := hp.rd.q (k := 0) (by rw [hll]; omega)
              obtain ⟨b', off', y, he, -, Hy, hc1⟩ := hp.rd.q (k := 2) (by rw [hll]; omega)
              injection he with he
              injection he with he1 he2
              subst he1 he2
              rw [Nat.add_zero] at hc0
              have hxy : x ≠ y := by rw [← Hx.out, ← Hy.out]; exact H3.out j hlt Hn4.out hk3
              have hbq : ((x : Int) == (y : Int)) = false := by rw [beq_eq_false_iff_ne]; omega
              subst hk3
              have h33 : ((3 : Int) == 3) = true := rfl
              clear hkK hK hll hxy hp
              go_wp2
              go_quiet (fail)
              go_wp2
              go_roundw
              case rel => exact ⟨j + 1, _, by omega, by go_num, rfl⟩
              case measure => simp [intOf]; omega
            · have hkf : (k == 3) = false := by rw [beq_eq_false_iff_ne]; exact hk3
              clear hkK hK hp hk3
              go_wp2
              go_quiet (fail)
              go_wp2
              go_roundw
              case rel => exact ⟨j + 1, _, by omega, by go_num, rfl⟩
              case measure => simp [intOf]; omega
          · obtain rfl : j = L := by omega
            have B6 := Lib.hid (below_drewN B5.out q)
            rcases H2n.out with ⟨e1, e2, e3⟩ | ⟨e1, e2, e3⟩
            all_goals
              have E3 := Lib.hid e3
              clear e3
              go_wp2_with fail
              refine (HI2.out _).mono ?_
              intro e w6 hq
              obtain ⟨A6, c6, VR6, rfl, -, -, q6⟩ := tab_uni E3.out hq
              have B7 := Lib.hid (B6.out.trans (q6.mono B6.out.size))
              clear hq q6
              go_wp2
              go_ret
              exact ⟨rfl, B7.out⟩
end Go.Proofs.Ythphboeboiallaa
