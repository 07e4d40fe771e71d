/-
  The laws FnValidRound, FnVisitsOf, FnWorstGap and FnTwoGap of chapter 7, walked.
  Conditions: none.
-/
import Derived.Test.YtdkonaaoanggiaaYO
import Derived.Test.YtdkonaaoanggiaaYQ
import Derived.Test.YtdkonaaoanggiaaEL
import Derived.Test.YtdkonaaoanggiaaTO
namespace Go.Proofs.Ytdkonaaoanggiaa
open Go.ChangeShapes Go.WideShapes Go.ChangeAt Go.RowKit
set_option linter.unusedVariables false
set_option maxRecDepth 4000

theorem vw_facts {n : Int} {zs : List Int} {L : Nat} (h : (vwY n zs).length = L) (h0 : L ≠ 0) : vrY n zs = true ∧ n = L ∧ vwY n zs = vsY L zs zs.length := by
  by_cases hv : vrY n zs = true
  · have hs : vwY n zs = vsY n.toNat zs zs.length := by unfold vwY; rw [if_pos hv]
    rw [hs, vsY_len] at h
    have h1 := (vrY_iff.1 hv).n1
    exact ⟨hv, by omega, by rw [hs, h]⟩
  · have hs : vwY n zs = [] := by unfold vwY; rw [if_neg hv]
    rw [hs] at h
    exact absurd h.symm h0
theorem gw_facts {n : Int} {zs : List Int} {L : Nat} (h : (gwY n zs).length = L) (h0 : L ≠ 0) : vrY n zs = true ∧ n = L ∧ gwY n zs = gpY L zs 0 := by
  by_cases hv : vrY n zs = true
  · have hs : gwY n zs = gpY n.toNat zs 0 := by unfold gwY; rw [if_pos hv]
    rw [hs, gpY_len] at h
    have h1 := (vrY_iff.1 hv).n1
    exact ⟨hv, by omega, by rw [hs, h]⟩
  · have hs : gwY n zs = [] := by unfold gwY; rw [if_neg hv]
    rw [hs] at h
    exact absurd h.symm h0
theorem totI_sumY (gs : List Int) : ∀ k, totI gs k = sumY (fun s => gs.getD s 0) k
  | 0 => rfl
  | k + 1 => by simp only [totI, sumY]; rw [totI_sumY gs k]
theorem totI_vs {L : Nat} {zs : List Int} (h : Rnd L zs) : totI (vsY L zs zs.length) L = zs.length := by
  rw [totI_sumY, sumY_congr (g := fun s => ((tmY zs 0 (s : Int) zs.length).length : Int)) (fun i hi => vsY_at hi)]
  exact visits_sum h _ (Nat.le_refl _)
theorem wg_facts {n : Int} {zs : List Int} (hv : vrY n zs = true) : (hasB (gwY n zs) (-1) = true → wgY n zs = -1) ∧ (hasB (gwY n zs) (-1) = false → wgY n zs = mxI (gwY n zs) (gwY n zs).length ∧ 2 * (n - 1) ≤ wgY n zs) := by
  have hR := vrY_iff.1 hv
  have hg : gwY n zs = gpY n.toNat zs 0 := by unfold gwY; rw [if_pos hv]
  have hw : wgY n zs = wrY (gpY n.toNat zs 0) := by unfold wgY; rw [if_pos hv]
  obtain ⟨n, rfl⟩ := Int.eq_ofNat_of_zero_le (show 0 ≤ n by have := hR.n1; omega)
  rw [hg, hw, Int.toNat_natCast]
  refine ⟨fun h => wrY_no (by unfold hasB at h; simpa using h), fun h => ?_⟩
  have hno : ¬ -1 ∈ gpY n zs 0 := by unfold hasB at h; simpa using h
  rw [wrY_yes hno]
  refine ⟨rfl, ?_⟩
  rw [gpY_len]
  exact worst_wide hR hno
theorem tg_facts {n : Int} {zs : List Int} {l : Int} (h : ¬ tgY n zs l < 0) : 1 ≤ tgY n zs l ∧ tgY n zs 0 = wgY n zs ∧ (wgY n zs < 0 ∨ tgY n zs l ≤ wgY n zs) := by
  by_cases hc : vrY n zs = true ∧ 0 ≤ l ∧ l ≤ 20
  · have hR := vrY_iff.1 hc.1
    have hm := hR.l1
    have ht : tgY n zs l = wrY (gpY n.toNat zs l.toNat) := by unfold tgY; rw [if_pos hc]
    have ht0 : tgY n zs 0 = wrY (gpY n.toNat zs 0) := by unfold tgY; rw [if_pos ⟨hc.1, by omega, by omega⟩]; rfl
    have hw : wgY n zs = wrY (gpY n.toNat zs 0) := by unfold wgY; rw [if_pos hc.1]
    have hn1 := hR.n1
    rw [ht] at h ⊢
    rw [ht0, hw]
    have hno : ¬ -1 ∈ gpY n.toNat zs l.toNat := fun hm => by rw [wrY_no hm] at h; omega
    rw [wrY_yes hno, gpY_len]
    refine ⟨two_pos (by omega) (by omega) hno, rfl, ?_⟩
    by_cases h0 : -1 ∈ gpY n.toNat zs 0
    · left; rw [wrY_no h0]; omega
    · right
      rw [wrY_yes h0, gpY_len]
      exact (two_le (by omega) h0).2
  · have ht : tgY n zs l = -1 := by unfold tgY; rw [if_neg hc]
    rw [ht] at h
    omega

set_option maxHeartbeats 1600000 in
theorem lawValidRound_walk (A : Option Addr) (c : Nat) (bs : List Int) (w : World) (hr : RdB w w.heap.size A bs) (hcap : bs.length ≤ c) (hm : c ≤ maxLen) :
    Calls Try.prog 3 #[.slice A bs.length c] w fun e w' => e = .returned (.bool true) ∧ Below w.heap.size w w' := by
  unfold maxLen at hm
  by_cases hb : 1048576 < bs.length
  · go_enter Try.func3, Try.ntmps3
    go_wp2
    go_ret
    exact ⟨rfl, Below.refl _ _⟩
  · have HD := Lib.hid (drawValidRound_any A c bs.length bs w hr rfl hcap hm)
    have HI := Lib.hid iValidRound_ok
    have HS := Lib.hid sValidRound_ok
    go_enter Try.func3, Try.ntmps3
    go_wp2_with fail
    refine HD.out.mono ?_
    rintro e w1 ⟨n, A1, c1, m, zs, rfl, ⟨hm1, hm20⟩, N1, B1⟩
    clear HD hr hb hcap hm
    have hbe : ∀ x : Int, (x == x) = true := fun x => by simp
    have hbn : ∀ x : Int, (x != x) = false := fun x => by simp
    have hbb : ∀ x : Bool, (x == x) = true := fun x => by simp
    have hbx : ∀ x : Bool, (x != x) = false := fun x => by simp
    obtain ⟨v, Hv⟩ : ∃ v, Hid (vrY n zs = v) := ⟨_, rfl⟩
    go_wp2_with fail
    refine (HI.out n _ _ _ zs w1 N1.out).mono ?_
    rintro e w2 ⟨rfl, hq⟩
    rw [Hv.out]
    have N2 := Lib.hid (N1.out.later hq)
    have B2 := Lib.hid (B1.out.trans (hq.mono B1.out.size))
    clear hq
    go_wp2_with fail
    refine (HS.out n _ _ _ zs w2 N2.out).mono ?_
    rintro e w3 ⟨rfl, hq⟩
    rw [Hv.out]
    have N3 := Lib.hid (N2.out.later hq)
    have B3 := Lib.hid (B2.out.trans (hq.mono B2.out.size))
    clear hq
    cases v with
    | false =>
      go_wp2_with fail
      refine (HS.out n _ _ _ zs w3 N3.out).mono ?_
      rintro e w4 ⟨rfl, hq⟩
      rw [Hv.out]
      have N4 := Lib.hid (N3.out.later hq)
      have B4 := Lib.hid (B3.out.trans (hq.mono B3.out.size))
      clear hq
      go_wp2
      go_ret
      exact ⟨rfl, B4.out⟩
    | true =>
      have Hr : Hid (vrY n zs.reverse = true) := vrY_yes (rnd_rev (vrY_iff.1 Hv.out))
      go_wp2_with fail
      refine (backwards_any A1 c1 m zs w3 N3.out (by omega)).mono ?_
      rintro e w4 ⟨A2, c2, rfl, R4, hq⟩
      have N4 := Lib.hid (N3.out.later hq.out)
      have B4 := Lib.hid (B3.out.trans (hq.out.mono B3.out.size))
      clear hq
      go_wp2_with fail
      refine (HI.out n _ _ _ zs.reverse w4 R4.out).mono ?_
      rintro e w5 ⟨rfl, hq⟩
      rw [Hr.out]
      have N5 := Lib.hid (N4.out.later hq)
      have R5 := Lib.hid (R4.out.later hq)
      have B5 := Lib.hid (B4.out.trans (hq.mono B4.out.size))
      clear hq
      go_wp2
      go_ret
      exact ⟨rfl, B5.out⟩

set_option maxHeartbeats 1600000 in
theorem lawVisitsOf_walk (A : Option Addr) (c : Nat) (bs : List Int) (w : World) (hr : RdB w w.heap.size A bs) (hcap : bs.length ≤ c) (hm : c ≤ maxLen) :
    Calls Try.prog 4 #[.slice A bs.length c] w fun e w' => e = .returned (.bool true) ∧ Below w.heap.size w w' := by
  unfold maxLen at hm
  by_cases hb : 1048576 < bs.length
  · go_enter Try.func4, Try.ntmps4
    go_wp2
    go_ret
    exact ⟨rfl, Below.refl _ _⟩
  · have HD := Lib.hid (drawVisitsOf_any A c bs.length bs w hr rfl hcap hm)
    have HI0 := Lib.hid iVisitsOf_ok
    have HS0 := Lib.hid sVisitsOf_ok
    go_enter Try.func4, Try.ntmps4
    go_wp2_with fail
    refine HD.out.mono ?_
    rintro e w1 ⟨n, A1, c1, m, zs, rfl, ⟨hm1, hm20⟩, N1, B1⟩
    clear HD hr hb hcap hm
    have hbe : ∀ x : Int, (x == x) = true := fun x => by simp
    have hbn : ∀ x : Int, (x != x) = false := fun x => by simp
    have hbb : ∀ x : Bool, (x == x) = true := fun x => by simp
    have hbx : ∀ x : Bool, (x != x) = false := fun x => by simp
    have hL8 := vwY_len n zs
    obtain ⟨L, HL⟩ : ∃ L, Hid ((vwY n zs).length = L) := ⟨_, rfl⟩
    rw [HL.out] at hL8
    have Hf : Hid (L ≠ 0 → n = L ∧ totI (vwY n zs) L = m ∧ ∀ i, i < L → -4294967296 ≤ (vwY n zs).getD i 0 ∧ (vwY n zs).getD i 0 ≤ 4294967296) := fun h => by
      obtain ⟨hv, hn, hs⟩ := vw_facts HL.out h
      have hR := vrY_iff.1 hv
      rw [hs]
      subst hn
      refine ⟨rfl, by rw [totI_vs hR, N1.out.len], fun i hi => ?_⟩
      have := vs_bd (zs := zs) (k := zs.length) hi
      have := N1.out.len
      omega
    obtain ⟨xs, Hx⟩ : ∃ xs, Hid (vwY n zs = xs) := ⟨_, rfl⟩
    rw [Hx.out] at Hf HL
    have HI : Hid (∀ A c W, RoundIn W A c m zs → Calls Try.prog 22 #[.int .i64 n, .slice A m c] W (RowAt xs L W)) := fun A c W h => (HI0.out n A c m zs W h).mono (fun e w' hr => by rw [Hx.out] at hr; exact hr.at_ HL.out (by omega))
    have HS : Hid (∀ A c W, RoundIn W A c m zs → Calls Try.prog 24 #[.int .i64 n, .slice A m c] W (RowAt xs L W)) := fun A c W h => (HS0.out n A c m zs W h).mono (fun e w' hr => by rw [Hx.out] at hr; exact hr.at_ HL.out (by omega))
    clear HI0 HS0
    go_wp2_with fail
    refine (HI.out _ _ w1 N1.out).mono ?_
    rintro e w2 ⟨A2, c2, rfl, G2, hq⟩
    have N2 := Lib.hid (N1.out.later hq.out)
    have B2 := Lib.hid (B1.out.trans (hq.out.mono B1.out.size))
    clear hq
    go_wp2_with fail
    refine (HS.out _ _ w2 N2.out).mono ?_
    rintro e w3 ⟨A3, c3, rfl, S3, hq⟩
    have N3 := Lib.hid (N2.out.later hq.out)
    have G3 := Lib.hid (G2.out.later hq.out)
    have B3 := Lib.hid (B2.out.trans (hq.out.mono B2.out.size))
    clear hq
    go_wp2_with fail
    refine (calls_drawn (eqLi_same A2 A3 c2 c3 L L xs w3 _ _ G3.out.rd G3.out.len S3.out.rd S3.out.len (by omega))).mono ?_
    rintro e w4 ⟨rfl, hq⟩
    have N4 := Lib.hid (N3.out.later hq)
    have G4 := Lib.hid (G3.out.later hq)
    have S4 := Lib.hid (S3.out.later hq)
    have B4 := Lib.hid (B3.out.trans (hq.mono B3.out.size))
    clear hq
    by_cases h0 : L = 0
    · subst h0
      clear Hf
      go_wp2_with fail
      refine (HS.out _ _ w4 N4.out).mono ?_
      rintro e w5 ⟨A4, c4, rfl, S5, hq⟩
      have N5 := Lib.hid (N4.out.later hq.out)
      have G5 := Lib.hid (G4.out.later hq.out)
      have B5 := Lib.hid (B4.out.trans (hq.out.mono B4.out.size))
      clear hq
      go_wp2_with fail
      refine (calls_drawn (eqLi_same A2 A4 c2 c4 0 0 xs w5 _ _ G5.out.rd G5.out.len S5.out.rd S5.out.len (by omega))).mono ?_
      rintro e w6 ⟨rfl, hq⟩
      have N6 := Lib.hid (N5.out.later hq)
      have G6 := Lib.hid (G5.out.later hq)
      have S6 := Lib.hid (S5.out.later hq)
      have B6 := Lib.hid (B5.out.trans (hq.mono B5.out.size))
      clear hq
      go_wp2
      go_ret
      exact ⟨rfl, B6.out⟩
    · obtain ⟨rfl, ht, hbd⟩ := Hf.out h0
      have hl0 : ((L : Int) == 0) = false := by rw [beq_eq_false_iff_ne]; omega
      have Ht := Lib.hid ht
      have Hbd := Lib.hid hbd
      clear ht hbd Hf h0
      go_wp2_with fail
      refine (total_any A2 c2 L xs w4 _ G4.out.rd G4.out.len (by omega) Hbd.out).mono ?_
      rintro e w5 ⟨rfl, rfl⟩
      rw [Ht.out]
      go_wp2
      go_ret
      exact ⟨rfl, B4.out⟩

set_option maxHeartbeats 1600000 in
theorem lawWorstGap_walk (A : Option Addr) (c : Nat) (bs : List Int) (w : World) (hr : RdB w w.heap.size A bs) (hcap : bs.length ≤ c) (hm : c ≤ maxLen) :
    Calls Try.prog 6 #[.slice A bs.length c] w fun e w' => e = .returned (.bool true) ∧ Below w.heap.size w w' := by
  unfold maxLen at hm
  by_cases hb : 1048576 < bs.length
  · go_enter Try.func6, Try.ntmps6
    go_wp2
    go_ret
    exact ⟨rfl, Below.refl _ _⟩
  · have HD := Lib.hid (drawWorstGap_any A c bs.length bs w hr rfl hcap hm)
    have HI := Lib.hid iWorstGap_ok
    have HS := Lib.hid sWorstGap_ok
    have HV := Lib.hid iValidRound_ok
    have HG0 := Lib.hid iGapsOf_ok
    go_enter Try.func6, Try.ntmps6
    go_wp2_with fail
    refine HD.out.mono ?_
    rintro e w1 ⟨n, A1, c1, m, zs, rfl, ⟨hm1, hm20⟩, N1, B1⟩
    clear HD hr hb hcap hm
    have hbe : ∀ x : Int, (x == x) = true := fun x => by simp
    have hbn : ∀ x : Int, (x != x) = false := fun x => by simp
    have hbb : ∀ x : Bool, (x == x) = true := fun x => by simp
    have hbx : ∀ x : Bool, (x != x) = false := fun x => by simp
    obtain ⟨v, Hv⟩ : ∃ v, Hid (vrY n zs = v) := ⟨_, rfl⟩
    obtain ⟨x, Hw⟩ : ∃ x, Hid (wgY n zs = x) := ⟨_, rfl⟩
    have hL8 := gwY_len n zs
    obtain ⟨xs, Hx⟩ : ∃ xs, Hid (gwY n zs = xs) := ⟨_, rfl⟩
    obtain ⟨L, HL⟩ : ∃ L, Hid (xs.length = L) := ⟨_, rfl⟩
    rw [Hx.out, HL.out] at hL8
    have Hf : Hid (v = true → (hasB xs (-1) = true → x = -1) ∧ (hasB xs (-1) = false → x = mxI xs L ∧ 2 * (n - 1) ≤ x) ∧ 1 ≤ n ∧ n ≤ 8) := fun h => by
      have hv : vrY n zs = true := by rw [Hv.out]; exact h
      have hf := wg_facts hv
      rw [Hx.out, Hw.out, HL.out] at hf
      have hR := vrY_iff.1 hv
      exact ⟨hf.1, hf.2, hR.n1, hR.n8⟩
    have HG : Hid (∀ A c W, RoundIn W A c m zs → Calls Try.prog 27 #[.int .i64 n, .slice A m c] W (RowAt xs L W)) := fun A c W h => (HG0.out n A c m zs W h).mono (fun e w' hr => by rw [Hx.out] at hr; exact hr.at_ HL.out (by omega))
    clear HG0
    go_wp2_with fail
    refine (HI.out n _ _ _ zs w1 N1.out).mono ?_
    rintro e w2 ⟨rfl, hq⟩
    rw [Hw.out]
    have N2 := Lib.hid (N1.out.later hq)
    have B2 := Lib.hid (B1.out.trans (hq.mono B1.out.size))
    clear hq
    go_wp2_with fail
    refine (HS.out n _ _ _ zs w2 N2.out).mono ?_
    rintro e w3 ⟨rfl, hq⟩
    rw [Hw.out]
    have N3 := Lib.hid (N2.out.later hq)
    have B3 := Lib.hid (B2.out.trans (hq.mono B2.out.size))
    clear hq
    go_wp2_with fail
    refine (HV.out n _ _ _ zs w3 N3.out).mono ?_
    rintro e w4 ⟨rfl, hq⟩
    rw [Hv.out]
    have N4 := Lib.hid (N3.out.later hq)
    have B4 := Lib.hid (B3.out.trans (hq.mono B3.out.size))
    clear hq
    cases v with
    | false =>
      clear Hf
      go_wp2_with fail
      refine (HS.out n _ _ _ zs w4 N4.out).mono ?_
      rintro e w5 ⟨rfl, hq⟩
      rw [Hw.out]
      have N5 := Lib.hid (N4.out.later hq)
      have B5 := Lib.hid (B4.out.trans (hq.mono B4.out.size))
      clear hq
      go_wp2
      go_ret
      exact ⟨rfl, B5.out⟩
    | true =>
      obtain ⟨hf1, hf2, hn1, hn8⟩ := Hf.out rfl
      have Hf1 := Lib.hid hf1
      have Hf2 := Lib.hid hf2
      clear hf1 hf2 Hf
      go_wp2_with fail
      refine (HG.out _ _ w4 N4.out).mono ?_
      rintro e w5 ⟨A2, c2, rfl, G5, hq⟩
      have N5 := Lib.hid (N4.out.later hq.out)
      have B5 := Lib.hid (B4.out.trans (hq.out.mono B4.out.size))
      clear hq
      go_wp2_with fail
      refine (isIn_any A2 c2 L xs (-1) w5 _ G5.out.rd G5.out.len (by omega)).mono ?_
      rintro e w6 ⟨rfl, rfl⟩
      cases hh : hasB xs (-1) with
      | true =>
        have hx := Hf1.out hh
        subst hx
        clear hh
        go_wp2
        go_ret
        exact ⟨rfl, B5.out⟩
      | false =>
        obtain ⟨hx, hle⟩ := Hf2.out hh
        have Hxm := Lib.hid hx
        have hwn : IntKind.i64.wrap (n - 1) = n - 1 := IntWalk.i64_in _ (by omega)
        have hwm : IntKind.i64.wrap (2 * (n - 1)) = 2 * (n - 1) := IntWalk.i64_in _ (by omega)
        clear hh hx
        go_wp2_with fail
        refine (greatestOf_any A2 c2 L xs w5 _ G5.out.rd G5.out.len (by omega)).mono ?_
        rintro e w6 ⟨rfl, rfl⟩
        rw [← Hxm.out]
        go_wp2
        go_ret
        exact ⟨rfl, B5.out⟩

set_option maxHeartbeats 1600000 in
theorem lawTwoGap_walk (A : Option Addr) (c : Nat) (bs : List Int) (w : World) (hr : RdB w w.heap.size A bs) (hcap : bs.length ≤ c) (hm : c ≤ maxLen) :
    Calls Try.prog 8 #[.slice A bs.length c] w fun e w' => e = .returned (.bool true) ∧ Below w.heap.size w w' := by
  unfold maxLen at hm
  by_cases hb : 1048576 < bs.length
  · go_enter Try.func8, Try.ntmps8
    go_wp2
    go_ret
    exact ⟨rfl, Below.refl _ _⟩
  · have HD := Lib.hid (drawTwoGap_any A c bs.length bs w hr rfl hcap hm)
    have HI := Lib.hid iTwoGap_ok
    have HS := Lib.hid sTwoGap_ok
    have HW := Lib.hid iWorstGap_ok
    go_enter Try.func8, Try.ntmps8
    go_wp2_with fail
    refine HD.out.mono ?_
    rintro e w1 ⟨n, A1, c1, m, l, zs, rfl, ⟨hm1, hm20⟩, N1, B1⟩
    clear HD hr hb hcap hm
    have hbe : ∀ x : Int, (x == x) = true := fun x => by simp
    have hbn : ∀ x : Int, (x != x) = false := fun x => by simp
    have hbb : ∀ x : Bool, (x == x) = true := fun x => by simp
    have hbx : ∀ x : Bool, (x != x) = false := fun x => by simp
    obtain ⟨x, Hw⟩ : ∃ x, Hid (wgY n zs = x) := ⟨_, rfl⟩
    obtain ⟨v, Hv⟩ : ∃ v, Hid (tgY n zs l = v) := ⟨_, rfl⟩
    have Hf : Hid (¬ v < 0 → 1 ≤ v ∧ tgY n zs 0 = x ∧ (x < 0 ∨ v ≤ x)) := fun h => by
      have hf := tg_facts (n := n) (zs := zs) (l := l) (by rw [Hv.out]; exact h)
      rw [Hv.out, Hw.out] at hf
      exact hf
    go_wp2_with fail
    refine (HI.out n _ _ _ zs l w1 N1.out).mono ?_
    rintro e w2 ⟨rfl, hq⟩
    rw [Hv.out]
    have N2 := Lib.hid (N1.out.later hq)
    have B2 := Lib.hid (B1.out.trans (hq.mono B1.out.size))
    clear hq
    go_wp2_with fail
    refine (HS.out n _ _ _ zs l w2 N2.out).mono ?_
    rintro e w3 ⟨rfl, hq⟩
    rw [Hv.out]
    have N3 := Lib.hid (N2.out.later hq)
    have B3 := Lib.hid (B2.out.trans (hq.mono B2.out.size))
    clear hq
    by_cases hv : v < 0
    · clear Hf
      go_wp2_with fail
      refine (HS.out n _ _ _ zs l w3 N3.out).mono ?_
      rintro e w4 ⟨rfl, hq⟩
      rw [Hv.out]
      have N4 := Lib.hid (N3.out.later hq)
      have B4 := Lib.hid (B3.out.trans (hq.mono B3.out.size))
      clear hq
      go_wp2
      go_ret
      exact ⟨rfl, B4.out⟩
    · obtain ⟨h1, h2, h3⟩ := Hf.out (by omega)
      have H2 := Lib.hid h2
      clear h2 Hf
      go_wp2_with fail
      refine (HW.out n _ _ _ zs w3 N3.out).mono ?_
      rintro e w4 ⟨rfl, hq⟩
      rw [Hw.out]
      have N4 := Lib.hid (N3.out.later hq)
      have B4 := Lib.hid (B3.out.trans (hq.mono B3.out.size))
      clear hq
      by_cases hx : x < 0
      · clear h3
        go_wp2
        go_ret
        exact ⟨rfl, B4.out⟩
      · have hle : v ≤ x := by omega
        clear h3
        go_wp2_with fail
        refine (HI.out n _ _ _ zs 0 w4 N4.out).mono ?_
        rintro e w5 ⟨rfl, hq⟩
        rw [H2.out]
        have N5 := Lib.hid (N4.out.later hq)
        have B5 := Lib.hid (B4.out.trans (hq.mono B4.out.size))
        clear hq
        go_wp2
        go_ret
        exact ⟨rfl, B5.out⟩
end Go.Proofs.Ytdkonaaoanggiaa
