/-
  The laws on costs.
  Conditions: none.
-/
import Derived.Test.YtakljcpneghgnaaCF
import Derived.Test.YtakljcpneghgnaaDC
import Derived.Test.YtakljcpneghgnaaTX
namespace Go.Proofs.Ytakljcpneghgnaa
open Go.ChangeShapes Go.WideShapes Go.ChangeAt Go.RowKit
set_option linter.unusedVariables false
set_option maxRecDepth 4000

theorem lcv_is {cost : List (List Int)} {n : Nat} (hn : cost.length = n) (h : vcost cost = true) : IsMn (clC cost) n (lcv cost) := by
  subst hn
  unfold lcv
  rw [if_pos h]
  exact bsC_is ((vcost_iff _).1 h).1 (vcost_bd h)
theorem lcv_no {cost : List (List Int)} (h : ¬ vcost cost = true) : lcv cost = -1 := by unfold lcv; rw [if_neg h]
theorem lcv_valid {cost : List (List Int)} (h : ¬ lcv cost < 0) : vcost cost = true := by
  by_cases hv : vcost cost = true
  · exact hv
  · rw [lcv_no hv] at h; omega
theorem ctv_valid {cost : List (List Int)} (h : ¬ ctv cost < 0) : vcost cost = true ∧ ctv cost = lcv cost := by
  by_cases h5 : cost.length ≤ 5
  · have e := ctv_lcv h5
    rw [e] at h ⊢
    exact ⟨lcv_valid h, rfl⟩
  · have : ctv cost = -1 := by unfold ctv; rw [if_neg (by rintro ⟨-, h'⟩; exact h5 h')]
    omega
theorem lcv_bd {cost : List (List Int)} : -1 ≤ lcv cost ∧ lcv cost ≤ 351 := by
  by_cases hv : vcost cost = true
  · obtain ⟨h6, -⟩ := (vcost_iff _).1 hv
    unfold lcv
    rw [if_pos hv]
    have := bsC_bd (vcost_bd hv) h6 cost.length (2 ^ cost.length - 1) (Nat.le_refl _)
    omega
  · rw [lcv_no hv]; omega
theorem tab_bd {cost : List (List Int)} {n : Nat} (hn : cost.length = n) (h : vcost cost = true) : vcost (tabC (fun k i => clC cost i k) n) = true := by
  subst hn
  refine (vcost_tab ((vcost_iff _).1 h).1).2 fun i j hi hj => ?_
  exact vcost_bd h j i hj hi
/-- Rows as columns cost the same. -/
theorem lcv_turn {cost : List (List Int)} {n : Nat} (hn : cost.length = n) (h : vcost cost = true) : lcv (tabC (fun k i => clC cost i k) n) = lcv cost := by
  have h1 := lcv_is (tabC_len _ n) (tab_bd hn h)
  have h2 := h1.same (C' := fun i j => clC cost j i) fun i j hi hj => tabC_cl _ hi hj
  exact h2.one (lcv_is hn h).turn
theorem lcv_more {cost : List (List Int)} {n : Nat} (hn : cost.length = n) (hn1 : 1 ≤ n) (h : vcost cost = true) (hv : vcost (tabC (fun i k => clC cost i k + (if 0 = i then 1 else 0)) n) = true) : lcv (tabC (fun i k => clC cost i k + (if 0 = i then 1 else 0)) n) = lcv cost + 1 := by
  have h1 := lcv_is (tabC_len _ n) hv
  have h2 := h1.same (C' := fun i k => clC cost i k + (if 0 = i then 1 else 0)) fun i j hi hj => tabC_cl _ hi hj
  exact h2.one ((lcv_is hn h).more hn1 fun i j _ _ => rfl)

set_option maxHeartbeats 1600000 in
theorem lawCostTried_walk (A : Option Addr) (c : Nat) (bs : List Int) (w : World) (hr : RdB w w.heap.size A bs) (hcap : bs.length ≤ c) (hm : c ≤ maxLen) :
    Calls Try.prog 8 #[.slice A bs.length c] w fun e w' => e = .returned (.bool true) ∧ Below w.heap.size w w' := by
  unfold maxLen at hm
  by_cases hb : 1048576 < bs.length
  · go_enter Try.func8, Try.ntmps8
    go_wp2
    go_ret
    exact ⟨rfl, Below.refl _ _⟩
  · have H := Lib.hid (drawCostTried_any A c bs.length bs w hr rfl hcap hm)
    have HVI := Lib.hid iValidCosts_ok
    have HVS := Lib.hid sValidCosts_ok
    have HLI := Lib.hid iLeastCost_ok
    have HLS := Lib.hid sLeastCost_ok
    have HTI := Lib.hid iCostTried_ok
    have HTS := Lib.hid sCostTried_ok
    go_enter Try.func8, Try.ntmps8
    go_wp2_with fail
    refine H.out.mono ?_
    rintro e w1 ⟨A', c', n, cost, rfl, hn6, N1, HB1⟩
    clear H hr
    have hlen := N1.out.len
    have hbn : ∀ x : Int, (x != x) = false := fun x => by simp
    have hbe : ∀ x : Int, (x == x) = true := fun x => by simp
    obtain ⟨a, Ha⟩ : ∃ a, Hid (ctv cost = a) := ⟨_, rfl⟩
    have hf := ctv_valid (cost := cost)
    rw [Ha.out] at hf
    have Hf := Lib.hid hf
    clear hf
    go_wp2_with fail
    refine (HTI.out _ _ _ cost w1 N1.out).mono ?_
    rintro e w2 ⟨rfl, hq⟩
    rw [Ha.out]
    have N2 := Lib.hid (N1.out.later hq)
    have HB2 := Lib.hid (HB1.out.trans (hq.mono HB1.out.size))
    clear hq
    go_wp2_with fail
    refine (HTS.out _ _ _ cost w2 N2.out).mono ?_
    rintro e w3 ⟨rfl, hq⟩
    rw [Ha.out]
    have N3 := Lib.hid (N2.out.later hq)
    have HB3 := Lib.hid (HB2.out.trans (hq.mono HB2.out.size))
    clear hq
    by_cases ha : a < 0
    · clear Hf
      go_wp2_with fail
      refine (HTS.out _ _ _ cost w3 N3.out).mono ?_
      rintro e w4 ⟨rfl, hq⟩
      rw [Ha.out]
      have N4 := Lib.hid (N3.out.later hq)
      have HB4 := Lib.hid (HB3.out.trans (hq.mono HB3.out.size))
      clear hq
      go_wp2
      go_ret
      exact ⟨rfl, HB4.out⟩
    · have Hl : Hid (lcv cost = a) := (Hf.out (by omega)).2.symm
      clear Hf
      go_wp2_with fail
      refine (HLI.out _ _ _ cost w3 N3.out).mono ?_
      rintro e w4 ⟨rfl, hq⟩
      rw [Hl.out]
      have N4 := Lib.hid (N3.out.later hq)
      have HB4 := Lib.hid (HB3.out.trans (hq.mono HB3.out.size))
      clear hq
      go_wp2
      go_ret
      exact ⟨rfl, HB4.out⟩

set_option maxHeartbeats 1600000 in
theorem lawValidCosts_walk (A : Option Addr) (c : Nat) (bs : List Int) (w : World) (hr : RdB w w.heap.size A bs) (hcap : bs.length ≤ c) (hm : c ≤ maxLen) :
    Calls Try.prog 6 #[.slice A bs.length c] w fun e w' => e = .returned (.bool true) ∧ Below w.heap.size w w' := by
  unfold maxLen at hm
  by_cases hb : 1048576 < bs.length
  · go_enter Try.func6, Try.ntmps6
    go_wp2
    go_ret
    exact ⟨rfl, Below.refl _ _⟩
  · have H := Lib.hid (drawValidCosts_any A c bs.length bs w hr rfl hcap hm)
    have HVI := Lib.hid iValidCosts_ok
    have HVS := Lib.hid sValidCosts_ok
    have HLI := Lib.hid iLeastCost_ok
    have HLS := Lib.hid sLeastCost_ok
    have HTI := Lib.hid iCostTried_ok
    have HTS := Lib.hid sCostTried_ok
    go_enter Try.func6, Try.ntmps6
    go_wp2_with fail
    refine H.out.mono ?_
    rintro e w1 ⟨A', c', n, cost, rfl, hn6, N1, HB1⟩
    clear H hr
    have hlen := N1.out.len
    have hbn : ∀ x : Bool, (x != x) = false := fun x => by simp
    have hbe : ∀ x : Bool, (x == x) = true := fun x => by simp
    obtain ⟨a, Ha⟩ : ∃ a, Hid (vcost cost = a) := ⟨_, rfl⟩
    go_wp2_with fail
    refine (HVI.out _ _ _ cost w1 N1.out).mono ?_
    rintro e w2 ⟨rfl, hq⟩
    rw [Ha.out]
    have N2 := Lib.hid (N1.out.later hq)
    have HB2 := Lib.hid (HB1.out.trans (hq.mono HB1.out.size))
    clear hq
    go_wp2_with fail
    refine (HVS.out _ _ _ cost w2 N2.out).mono ?_
    rintro e w3 ⟨rfl, hq⟩
    rw [Ha.out]
    have N3 := Lib.hid (N2.out.later hq)
    have HB3 := Lib.hid (HB2.out.trans (hq.mono HB2.out.size))
    clear hq
    cases a with
    | false =>
      go_wp2_with fail
      refine (HVS.out _ _ _ cost w3 N3.out).mono ?_
      rintro e w4 ⟨rfl, hq⟩
      rw [Ha.out]
      have N4 := Lib.hid (N3.out.later hq)
      have HB4 := Lib.hid (HB3.out.trans (hq.mono HB3.out.size))
      clear hq
      go_wp2
      go_ret
      exact ⟨rfl, HB4.out⟩
    | true =>
      have Ht := Lib.hid (tab_bd hlen Ha.out)
      go_wp2_with fail
      refine (turnedRows_any _ _ _ cost w3 N3.out.rd hlen Ha.out).mono ?_
      rintro e w4 ⟨A2, c2, rfl, M4, hq⟩
      have HB4 := Lib.hid (HB3.out.trans (hq.out.mono HB3.out.size))
      clear hq
      go_wp2_with fail
      refine (HVI.out _ _ _ _ w4 M4.out).mono ?_
      rintro e w5 ⟨rfl, hq⟩
      rw [Ht.out]
      have HB5 := Lib.hid (HB4.out.trans (hq.mono HB4.out.size))
      clear hq
      go_wp2
      go_ret
      exact ⟨rfl, HB5.out⟩

set_option maxHeartbeats 1600000 in
theorem lawLeastCost_walk (A : Option Addr) (c : Nat) (bs : List Int) (w : World) (hr : RdB w w.heap.size A bs) (hcap : bs.length ≤ c) (hm : c ≤ maxLen) :
    Calls Try.prog 7 #[.slice A bs.length c] w fun e w' => e = .returned (.bool true) ∧ Below w.heap.size w w' := by
  unfold maxLen at hm
  by_cases hb : 1048576 < bs.length
  · go_enter Try.func7, Try.ntmps7
    go_wp2
    go_ret
    exact ⟨rfl, Below.refl _ _⟩
  · have H := Lib.hid (drawLeastCost_any A c bs.length bs w hr rfl hcap hm)
    have HVI := Lib.hid iValidCosts_ok
    have HVS := Lib.hid sValidCosts_ok
    have HLI := Lib.hid iLeastCost_ok
    have HLS := Lib.hid sLeastCost_ok
    have HTI := Lib.hid iCostTried_ok
    have HTS := Lib.hid sCostTried_ok
    go_enter Try.func7, Try.ntmps7
    go_wp2_with fail
    refine H.out.mono ?_
    rintro e w1 ⟨A', c', n, cost, rfl, hn6, N1, HB1⟩
    clear H hr
    have hlen := N1.out.len
    have hbn : ∀ x : Int, (x != x) = false := fun x => by simp
    have hbe : ∀ x : Int, (x == x) = true := fun x => by simp
    obtain ⟨a, Ha⟩ : ∃ a, Hid (lcv cost = a) := ⟨_, rfl⟩
    have hf := lcv_valid (cost := cost)
    rw [Ha.out] at hf
    have Hf := Lib.hid hf
    clear hf
    go_wp2_with fail
    refine (HLI.out _ _ _ cost w1 N1.out).mono ?_
    rintro e w2 ⟨rfl, hq⟩
    rw [Ha.out]
    have N2 := Lib.hid (N1.out.later hq)
    have HB2 := Lib.hid (HB1.out.trans (hq.mono HB1.out.size))
    clear hq
    go_wp2_with fail
    refine (HLS.out _ _ _ cost w2 N2.out).mono ?_
    rintro e w3 ⟨rfl, hq⟩
    rw [Ha.out]
    have N3 := Lib.hid (N2.out.later hq)
    have HB3 := Lib.hid (HB2.out.trans (hq.mono HB2.out.size))
    clear hq
    by_cases ha : a < 0
    · clear Hf
      go_wp2_with fail
      refine (HLS.out _ _ _ cost w3 N3.out).mono ?_
      rintro e w4 ⟨rfl, hq⟩
      rw [Ha.out]
      have N4 := Lib.hid (N3.out.later hq)
      have HB4 := Lib.hid (HB3.out.trans (hq.mono HB3.out.size))
      clear hq
      go_wp2
      go_ret
      exact ⟨rfl, HB4.out⟩
    · have Hv := Lib.hid (Hf.out (by omega))
      have Ht : Hid (lcv (tabC (fun k i => clC cost i k) n) = a) := (lcv_turn hlen Hv.out).trans Ha.out
      obtain ⟨t, Htr⟩ : ∃ t, Hid (ctv cost = t) := ⟨_, rfl⟩
      have hta : t < 0 ∨ t = a := by
        by_cases h0 : t < 0
        · exact .inl h0
        · right
          have := (ctv_valid (cost := cost) (by rw [Htr.out]; exact h0)).2
          rw [Htr.out, Ha.out] at this; exact this
      clear Hf
      go_wp2_with fail
      refine (HTI.out _ _ _ cost w3 N3.out).mono ?_
      rintro e w4 ⟨rfl, hq⟩
      rw [Htr.out]
      have N4 := Lib.hid (N3.out.later hq)
      have HB4 := Lib.hid (HB3.out.trans (hq.mono HB3.out.size))
      clear hq
      rcases hta with hta | hta
      · go_wp2_with fail
        refine (turnedRows_any _ _ _ cost w4 N4.out.rd hlen Hv.out).mono ?_
        rintro e w5 ⟨A2, c2, rfl, M5, hq⟩
        have HB5 := Lib.hid (HB4.out.trans (hq.out.mono HB4.out.size))
        clear hq
        go_wp2_with fail
        refine (HLI.out _ _ _ _ w5 M5.out).mono ?_
        rintro e w6 ⟨rfl, hq⟩
        rw [Ht.out]
        have HB6 := Lib.hid (HB5.out.trans (hq.mono HB5.out.size))
        clear hq
        go_wp2
        go_ret
        exact ⟨rfl, HB6.out⟩
      · subst hta
        go_wp2_with fail
        refine (turnedRows_any _ _ _ cost w4 N4.out.rd hlen Hv.out).mono ?_
        rintro e w5 ⟨A2, c2, rfl, M5, hq⟩
        have HB5 := Lib.hid (HB4.out.trans (hq.out.mono HB4.out.size))
        clear hq
        go_wp2_with fail
        refine (HLI.out _ _ _ _ w5 M5.out).mono ?_
        rintro e w6 ⟨rfl, hq⟩
        rw [Ht.out]
        have HB6 := Lib.hid (HB5.out.trans (hq.mono HB5.out.size))
        clear hq
        go_wp2
        go_ret
        exact ⟨rfl, HB6.out⟩
end Go.Proofs.Ytakljcpneghgnaa
