/-
  The law FnHelpersFor, walked.
  Conditions: none.
-/
import Derived.Test.YtbbmjfnjpmefpaaIO
namespace Go.Proofs.Ytbbmjfnjpmefpaa
open Go.ChangeShapes Go.WideShapes Go.ChangeAt Go.RowKit
set_option linter.unusedVariables false
set_option maxRecDepth 4000

theorem hpz_cases (a d m : Nat) : hpz a d m = -1 ∨ ∃ i : Nat, i < 6 ∧ hpz a d m = i ∧ okz a d m i = true ∧ ∀ n, n < i → okz a d m n = false := by
  by_cases h : ∃ i, i < 6 ∧ okz a d m i = true
  · right
    have key : ∀ q : Nat, q < 6 → okz a d m q = true → ∃ i : Nat, i < 6 ∧ okz a d m i = true ∧ ∀ n, n < i → okz a d m n = false := by
      intro q
      induction q using Nat.strongRecOn with
      | ind q ih =>
        intro hq hok
        by_cases g : ∃ n, n < q ∧ okz a d m n = true
        · obtain ⟨n, hn, hnok⟩ := g
          exact ih n hn (by omega) hnok
        · refine ⟨q, hq, hok, fun n hn => ?_⟩
          by_cases e : okz a d m n = true
          · exact absurd ⟨n, hn, e⟩ g
          · simpa using e
    obtain ⟨q, hq, hok⟩ := h
    obtain ⟨i, hi, hok', hl⟩ := key q hq hok
    exact ⟨i, hi, hpz_at hi hok' hl, hok', hl⟩
  · left
    refine hpz_none fun i hi => ?_
    by_cases e : okz a d m i = true
    · exact absurd ⟨i, hi, e⟩ h
    · simpa using e
theorem hpI_cases (a d m : Int) : hpI a d m = -1 ∨ ∃ a' d' m' i : Nat, a = a' ∧ d = d' ∧ m = m' ∧ a' < 11 ∧ d' < 11 ∧ 1 ≤ d' ∧ 1 ≤ m' ∧ m' ≤ 50 ∧ i < 6 ∧ hpI a d m = i ∧ okz a' d' m' i = true ∧ ∀ n, n < i → okz a' d' m' n = false := by
  by_cases h : vbz a d 0 = true ∧ 1 ≤ m ∧ m ≤ 50
  · rcases hpz_cases a.toNat d.toNat m.toNat with g | ⟨i, hi, g, hok, hl⟩
    · left; unfold hpI; rw [if_pos h]; exact g
    · right
      have hv := vbz_iff.1 h.1
      exact ⟨a.toNat, d.toNat, m.toNat, i, by omega, by omega, by omega, by omega, by omega, by omega, by omega, by omega, hi, by unfold hpI; rw [if_pos h]; exact g, hok, hl⟩
  · left; unfold hpI; rw [if_neg h]

set_option maxHeartbeats 3200000 in
theorem lawHelpersFor_walk (A : Option Addr) (c : Nat) (zs : List Int) (w : World) (hr : RdB w w.heap.size A zs) (hc : zs.length ≤ c) (hm : c ≤ 9223372036854775807) :
    Calls Try.prog 6 #[.slice A zs.length c] w fun e w' => e = .returned (.bool true) ∧ Below w.heap.size w w' := by
  by_cases hb : 1048576 < zs.length
  · go_enter Try.func6, Try.ntmps6
    go_wp2
    go_ret
    exact ⟨rfl, Below.refl _ _⟩
  · have H := Lib.hid (drawHelpersFor_any A c zs.length zs w hr rfl hc hm)
    clear hr
    go_enter Try.func6, Try.ntmps6
    go_wp2_with fail
    refine H.out.mono ?_
    rintro e w0 ⟨a, d, m, rfl, hbd, hb0⟩
    have HB0 := Lib.hid hb0
    clear hb0 hbd H
    have HI := Lib.hid (fun W => iHelpersFor_ok a d m W)
    have HS := Lib.hid (fun W => sHelpersFor_ok a d m W)
    rcases hpI_cases a d m with h | ⟨a, d, m, i, rfl, rfl, rfl, ha, hd, hd1, hm1, hm2, hi, h, hok, hl⟩
    · rw [h] at HI HS
      clear h
      go_wp2_with fail
      refine (HI.out _).mono ?_
      rintro e w1 ⟨rfl, hb1⟩
      have HB1 : Hid (Below w.heap.size w w1) := HB0.out.trans (hb1.mono HB0.out.size)
      clear hb1
      go_wp2_with fail
      refine (HS.out _).mono ?_
      rintro e w2 ⟨rfl, hb2⟩
      have HB2 : Hid (Below w.heap.size w w2) := HB1.out.trans (hb2.mono HB1.out.size)
      clear hb2
      go_wp2_with fail
      refine (HS.out _).mono ?_
      rintro e w3 ⟨rfl, hb3⟩
      have HB3 : Hid (Below w.heap.size w w3) := HB2.out.trans (hb3.mono HB2.out.size)
      clear hb3
      go_wp2
      go_ret
      exact ⟨rfl, HB3.out⟩
    · rw [h] at HI HS
      clear h
      have Hl := Lib.hid hl
      clear hl
      by_cases h0 : i = 0
      · subst h0
        have HI' : Hid (∀ W, Calls Try.prog 24 #[.int .i64 a, .int .i64 d, .int .i64 m] W fun e w' => e = .returned (.int .i64 0) ∧ Below W.heap.size W w') := HI
        have HS' : Hid (∀ W, Calls Try.prog 25 #[.int .i64 a, .int .i64 d, .int .i64 m] W fun e w' => e = .returned (.int .i64 0) ∧ Below W.heap.size W w') := HS
        have hm0 : m ≤ 1 := by
          have := of_decide_eq_true hok
          show m ≤ 1
          have e : (bzL a d 0).1 * m ≤ (bzL a d 0).2 := this
          have e' : 1 * m ≤ 1 := e
          omega
        have HL : Hid (∀ W, Calls Try.prog 17 #[.int .i64 a, .int .i64 d, .int .i64 0] W (FrT 1 1 true W)) := fun W => iLostStep_yes a d 0 1 1 W ha hd hd1 (by omega) rfl
        have HN := Lib.hid (fun W => iLostStep_no a d (-1) W (by
          by_cases g : vbz (a : Int) (d : Int) (-1) = true
          · have := vbz_iff.1 g; omega
          · simpa using g))
        clear HI HS hok
        go_wp2_with fail
        refine (HI'.out _).mono ?_
        rintro e w1 ⟨rfl, hb1⟩
        have HB1 : Hid (Below w.heap.size w w1) := HB0.out.trans (hb1.mono HB0.out.size)
        clear hb1
        go_wp2_with fail
        refine (HS'.out _).mono ?_
        rintro e w2 ⟨rfl, hb2⟩
        have HB2 : Hid (Below w.heap.size w w2) := HB1.out.trans (hb2.mono HB1.out.size)
        clear hb2
        go_wp2_with fail
        refine (HL.out _).mono ?_
        rintro e w3 ⟨rfl, hb3⟩
        have HB3 : Hid (Below w.heap.size w w3) := HB2.out.trans (hb3.mono HB2.out.size)
        clear hb3
        go_wp2_with fail
        refine (HN.out _).mono ?_
        rintro e w4 ⟨rfl, hb4⟩
        have HB4 : Hid (Below w.heap.size w w4) := (HB3.out.alloc HB3.out.size _).trans (hb4.mono (by rw [size_alloc1]; have := HB3.out.size; omega))
        clear hb4
        go_wp2
        go_ret
        exact ⟨rfl, HB4.out.alloc HB4.out.size _⟩
      · obtain ⟨j, rfl⟩ : ∃ j, i = j + 1 := ⟨i - 1, by omega⟩
        obtain ⟨x, y, Hxy⟩ : ∃ x y, Hid (bzL a d (j + 1) = (x, y)) := ⟨_, _, rfl⟩
        obtain ⟨u, v, Huv⟩ : ∃ u v, Hid (bzL a d j = (u, v)) := ⟨_, _, rfl⟩
        obtain ⟨b1, b2, b3, b4⟩ := lost_bd ha hd hd1 hi Hxy.out
        obtain ⟨c1, c2, c3, c4⟩ := lost_bd ha hd hd1 (by omega : j < 6) Huv.out
        obtain ⟨p, Hp⟩ : ∃ p, Hid (x * m = p) := ⟨_, rfl⟩
        obtain ⟨q, Hq⟩ : ∃ q, Hid (u * m = q) := ⟨_, rfl⟩
        have hp : p ≤ y := of_decide_eq_true ((okz_yes Hxy.out Hp.out).symm.trans hok)
        have hq : ¬ q ≤ v := of_decide_eq_false ((okz_yes Huv.out Hq.out).symm.trans (Hl.out j (by omega)))
        have hq2 : q ≤ 3000000000 := by rw [← Hq.out]; exact Nat.mul_le_mul c1 hm2
        have p1 : (x : Int) * (m : Int) = (p : Int) := by rw [← Hp.out]; push_cast; rfl
        have p2 : (u : Int) * (m : Int) = (q : Int) := by rw [← Hq.out]; push_cast; rfl
        have hc1 : ((j + 1 : Nat) : Int) = (j : Int) + 1 := by push_cast; rfl
        have HL := Lib.hid (fun W => iLostStep_yes a d (j + 1) x y W ha hd hd1 hi Hxy.out)
        have HN := Lib.hid (fun W => iLostStep_yes a d j u v W ha hd hd1 (by omega) Huv.out)
        rw [hc1] at HI HS HL
        have tt : (((j : Int) + 1) != ((j : Int) + 1)) = false := by simp
        have t0 : (((j : Int) + 1) == 0) = false := by rw [beq_eq_false_iff_ne]; omega
        have hvq : v < q := by omega
        have hvd : decide (v < q) = true := decide_eq_true hvq
        clear hok h0 hc1
        go_wp2_with fail
        refine (HI.out _).mono ?_
        rintro e w1 ⟨rfl, hb1⟩
        have HB1 : Hid (Below w.heap.size w w1) := HB0.out.trans (hb1.mono HB0.out.size)
        clear hb1
        go_wp2_with fail
        refine (HS.out _).mono ?_
        rintro e w2 ⟨rfl, hb2⟩
        have HB2 : Hid (Below w.heap.size w w2) := HB1.out.trans (hb2.mono HB1.out.size)
        clear hb2
        go_wp2_with fail
        refine (HL.out _).mono ?_
        rintro e w3 ⟨rfl, hb3⟩
        have HB3 : Hid (Below w.heap.size w w3) := HB2.out.trans (hb3.mono HB2.out.size)
        clear hb3
        go_wp2_with fail
        refine (HN.out _).mono ?_
        rintro e w4 ⟨rfl, hb4⟩
        have HB4 : Hid (Below w.heap.size w w4) := (HB3.out.alloc HB3.out.size _).trans (hb4.mono (by rw [size_alloc1]; have := HB3.out.size; omega))
        clear hb4
        go_wp2
        go_ret
        exact ⟨rfl, HB4.out.alloc HB4.out.size _⟩
end Go.Proofs.Ytbbmjfnjpmefpaa
