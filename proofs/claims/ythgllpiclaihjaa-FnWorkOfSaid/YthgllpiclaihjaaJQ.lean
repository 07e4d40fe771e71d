/-
  The laws on calls.
  Conditions: none.
-/
import Derived.Test.YthgllpiclaihjaaJK
import Derived.Test.YthgllpiclaihjaaJO
import Derived.Test.YthgllpiclaihjaaJP
namespace Go.Proofs.Ythgllpiclaihjaa
open Go.ChangeShapes Go.WideShapes Go.ChangeAt Go.RowKit
set_option linter.unusedVariables false
set_option maxRecDepth 4000

theorem CallsIn.take {w : World} {A : Option Addr} {c n : Nat} {zs : List Int} (h : CallsIn w A c n zs) {k : Nat} (hk : k ≤ n) : CallsIn w A c k (zs.take k) := by
  refine ⟨fun hp => ?_, by rw [List.length_take, h.len]; omega, ⟨by have := h.cap; omega, h.cap.2⟩, by have := h.most; omega⟩
  rw [List.length_take] at hp
  obtain ⟨b, off, e, hb, hc⟩ := h.rd (by omega)
  refine ⟨b, off, e, hb, fun i hi => ?_⟩
  rw [List.length_take] at hi
  rw [hc i (by omega)]
  simp [List.getD, show i < k by omega]

set_option maxHeartbeats 1600000 in
theorem lawValidCalls_walk (A : Option Addr) (c : Nat) (bs : List Int) (w : World) (hr : RdB w w.heap.size A bs) (hcap : bs.length ≤ c) (hm : c ≤ maxLen) :
    Calls Try.prog 3 #[.slice A bs.length c] w fun e w' => e = .returned (.bool true) ∧ Below w.heap.size w w' := by
  unfold maxLen at hm
  by_cases hb : 1048576 < bs.length
  · go_enter Try.func3, Try.ntmps3
    go_wp2
    go_ret
    exact ⟨rfl, Below.refl _ _⟩
  · have HD := Lib.hid (drawValidCalls_any A c bs.length bs w hr rfl hcap hm)
    have HVI := Lib.hid iValidCalls_ok
    have HVS := Lib.hid sValidCalls_ok
    go_enter Try.func3, Try.ntmps3
    go_wp2_with fail
    refine HD.out.mono ?_
    rintro e w1 ⟨a, b, A1, c1, n, zs, rfl, h9, N1, HB1⟩
    clear HD hr hb hcap hm
    have hcw := N1.out.cap
    have hbe : ∀ x : Int, (x == x) = true := fun x => by simp
    have hbn : ∀ x : Int, (x != x) = false := fun x => by simp
    have hbb : ∀ x : Bool, (x == x) = true := fun x => by simp
    have hbx : ∀ x : Bool, (x != x) = false := fun x => by simp
    obtain ⟨v, Hv⟩ : ∃ v, Hid (vcl a b zs = v) := ⟨_, rfl⟩
    go_wp2_with fail
    refine (HVI.out a b _ _ _ zs w1 N1.out).mono ?_
    rintro e w2 ⟨rfl, hq⟩
    rw [Hv.out]
    have N2 := Lib.hid (N1.out.later hq)
    have HB2 := Lib.hid (HB1.out.trans (hq.mono HB1.out.size))
    clear hq
    go_wp2_with fail
    refine (HVS.out a b _ _ _ zs w2 N2.out).mono ?_
    rintro e w3 ⟨rfl, hq⟩
    rw [Hv.out]
    have N3 := Lib.hid (N2.out.later hq)
    have HB3 := Lib.hid (HB2.out.trans (hq.mono HB2.out.size))
    clear hq
    cases v with
    | false =>
      go_wp2_with fail
      refine (HVS.out a b _ _ _ zs w3 N3.out).mono ?_
      rintro e w4 ⟨rfl, hq⟩
      rw [Hv.out]
      have N4 := Lib.hid (N3.out.later hq)
      have HB4 := Lib.hid (HB3.out.trans (hq.mono HB3.out.size))
      clear hq
      go_wp2
      go_ret
      exact ⟨rfl, HB4.out⟩
    | true =>
      by_cases h0 : n = 0
      · subst h0
        go_wp2
        go_ret
        exact ⟨rfl, HB3.out⟩
      · have hmb : ((n : Int) == 0) = false := by rw [beq_eq_false_iff_ne]; omega
        have hwm : IntKind.i64.wrap ((n : Int) - 1) = ((n - 1 : Nat) : Int) := by rw [IntWalk.i64_in _ (by omega)]; omega
        have NT := Lib.hid (N3.out.take (show n - 1 ≤ n by omega))
        have Ht := Lib.hid (vcl_take Hv.out (n - 1))
        have hle : n - 1 ≤ c1 := by omega
        clear h0
        go_wp2_with fail
        refine (HVI.out a b _ _ _ (zs.take (n - 1)) w3 NT.out).mono ?_
        rintro e w4 ⟨rfl, hq⟩
        rw [Ht.out]
        have HB4 := Lib.hid (HB3.out.trans (hq.mono HB3.out.size))
        clear hq
        go_wp2
        go_ret
        exact ⟨rfl, HB4.out⟩

set_option maxHeartbeats 1600000 in
theorem lawWayAhead_walk (A : Option Addr) (c : Nat) (bs : List Int) (w : World) (hr : RdB w w.heap.size A bs) (hcap : bs.length ≤ c) (hm : c ≤ maxLen) :
    Calls Try.prog 4 #[.slice A bs.length c] w fun e w' => e = .returned (.bool true) ∧ Below w.heap.size w w' := by
  unfold maxLen at hm
  by_cases hb : 1048576 < bs.length
  · go_enter Try.func4, Try.ntmps4
    go_wp2
    go_ret
    exact ⟨rfl, Below.refl _ _⟩
  · have HD := Lib.hid (drawWayAhead_any A c bs.length bs w hr rfl hcap hm)
    have HAI := Lib.hid iWayAhead_ok
    have HAS := Lib.hid sWayAhead_ok
    have HGI := Lib.hid iWayGreedy_ok
    have HBI := Lib.hid iWayBoth_ok
    go_enter Try.func4, Try.ntmps4
    go_wp2_with fail
    refine HD.out.mono ?_
    rintro e w1 ⟨a, b, A1, c1, n, zs, rfl, h9, N1, HB1⟩
    clear HD hr hb hcap hm
    have hcw := N1.out.cap
    have hbe : ∀ x : Int, (x == x) = true := fun x => by simp
    have hbn : ∀ x : Int, (x != x) = false := fun x => by simp
    obtain ⟨v, Hv⟩ : ∃ v, Hid (wav a b zs = v) := ⟨_, rfl⟩
    obtain ⟨g, Hg⟩ : ∃ g, Hid (gwv a b zs = g) := ⟨_, rfl⟩
    obtain ⟨d, Hd⟩ : ∃ d, Hid (bwv a b zs = d) := ⟨_, rfl⟩
    have Hf : Hid (¬ v < 0 → v ≤ g ∧ v ≤ d ∧ ∀ k, wav a b (zs.take k) ≤ v) := fun h => by
      have hv := wav_valid (by rw [Hv.out]; exact h)
      have e1 := wav_is hv
      have e2 := gwv_is hv
      have e3 := bwv_is hv
      have hab := (vcl_iff.1 hv).1.2.1
      have h1 := lw_gw zs a b
      have h2 := lw_bw zr2_lip zs a b hab
      have e4 : zr2 (beL a b zs) (beH a b zs) = 0 := rfl
      rw [← Hv.out, ← Hg.out, ← Hd.out, e1, e2, e3]
      refine ⟨h1, by omega, fun k => ?_⟩
      rw [wav_is (vcl_take hv k)]
      exact lw_take zs k a b
    go_wp2_with fail
    refine (HAI.out a b _ _ _ zs w1 N1.out).mono ?_
    rintro e w2 ⟨rfl, hq⟩
    rw [Hv.out]
    have N2 := Lib.hid (N1.out.later hq)
    have HB2 := Lib.hid (HB1.out.trans (hq.mono HB1.out.size))
    clear hq
    go_wp2_with fail
    refine (HAS.out a b _ _ _ zs w2 N2.out).mono ?_
    rintro e w3 ⟨rfl, hq⟩
    rw [Hv.out]
    have N3 := Lib.hid (N2.out.later hq)
    have HB3 := Lib.hid (HB2.out.trans (hq.mono HB2.out.size))
    clear hq
    by_cases ha : v < 0
    · clear Hf
      go_wp2_with fail
      refine (HAS.out a b _ _ _ zs w3 N3.out).mono ?_
      rintro e w4 ⟨rfl, hq⟩
      rw [Hv.out]
      have N4 := Lib.hid (N3.out.later hq)
      have HB4 := Lib.hid (HB3.out.trans (hq.mono HB3.out.size))
      clear hq
      go_wp2
      go_ret
      exact ⟨rfl, HB4.out⟩
    · obtain ⟨f1, f2, f3⟩ := Hf.out (by omega)
      have Hf3 := Lib.hid f3
      clear Hf f3
      go_wp2_with fail
      refine (HGI.out a b _ _ _ zs w3 N3.out).mono ?_
      rintro e w4 ⟨rfl, hq⟩
      rw [Hg.out]
      have N4 := Lib.hid (N3.out.later hq)
      have HB4 := Lib.hid (HB3.out.trans (hq.mono HB3.out.size))
      clear hq
      go_wp2_with fail
      refine (HBI.out a b _ _ _ zs w4 N4.out).mono ?_
      rintro e w5 ⟨rfl, hq⟩
      rw [Hd.out]
      have N5 := Lib.hid (N4.out.later hq)
      have HB5 := Lib.hid (HB4.out.trans (hq.mono HB4.out.size))
      clear hq
      by_cases h0 : n = 0
      · subst h0
        go_wp2
        go_ret
        exact ⟨rfl, HB5.out⟩
      · have hmb : ((n : Int) == 0) = false := by rw [beq_eq_false_iff_ne]; omega
        have hwm : IntKind.i64.wrap ((n : Int) - 1) = ((n - 1 : Nat) : Int) := by rw [IntWalk.i64_in _ (by omega)]; omega
        have NT := Lib.hid (N5.out.take (show n - 1 ≤ n by omega))
        have hle : n - 1 ≤ c1 := by omega
        have h3 := Hf3.out (n - 1)
        obtain ⟨u, Hu⟩ : ∃ u, Hid (wav a b (zs.take (n - 1)) = u) := ⟨_, rfl⟩
        rw [Hu.out] at h3
        clear h0
        go_wp2_with fail
        refine (HAI.out a b _ _ _ (zs.take (n - 1)) w5 NT.out).mono ?_
        rintro e w6 ⟨rfl, hq⟩
        rw [Hu.out]
        have HB6 := Lib.hid (HB5.out.trans (hq.mono HB5.out.size))
        clear hq
        go_wp2
        go_ret
        exact ⟨rfl, HB6.out⟩

set_option maxHeartbeats 1600000 in
theorem lawWayGreedy_walk (A : Option Addr) (c : Nat) (bs : List Int) (w : World) (hr : RdB w w.heap.size A bs) (hcap : bs.length ≤ c) (hm : c ≤ maxLen) :
    Calls Try.prog 5 #[.slice A bs.length c] w fun e w' => e = .returned (.bool true) ∧ Below w.heap.size w w' := by
  unfold maxLen at hm
  by_cases hb : 1048576 < bs.length
  · go_enter Try.func5, Try.ntmps5
    go_wp2
    go_ret
    exact ⟨rfl, Below.refl _ _⟩
  · have HD := Lib.hid (drawWayGreedy_any A c bs.length bs w hr rfl hcap hm)
    have HAI := Lib.hid iWayAhead_ok
    have HGS := Lib.hid sWayGreedy_ok
    have HGI := Lib.hid iWayGreedy_ok
    go_enter Try.func5, Try.ntmps5
    go_wp2_with fail
    refine HD.out.mono ?_
    rintro e w1 ⟨a, b, A1, c1, n, zs, rfl, h9, N1, HB1⟩
    clear HD hr hb hcap hm
    have hcw := N1.out.cap
    have hbe : ∀ x : Int, (x == x) = true := fun x => by simp
    have hbn : ∀ x : Int, (x != x) = false := fun x => by simp
    obtain ⟨v, Hv⟩ : ∃ v, Hid (wav a b zs = v) := ⟨_, rfl⟩
    obtain ⟨g, Hg⟩ : ∃ g, Hid (gwv a b zs = g) := ⟨_, rfl⟩
    have Hf : Hid (¬ g < 0 → v ≤ g ∧ (n ≤ 1 → g = v)) := fun h => by
      have hv := gwv_valid (by rw [Hg.out]; exact h)
      rw [← Hv.out, ← Hg.out, wav_is hv, gwv_is hv]
      exact ⟨lw_gw zs a b, fun h1 => gw_one a b zs (by rw [N1.out.len]; exact h1)⟩
    go_wp2_with fail
    refine (HGI.out a b _ _ _ zs w1 N1.out).mono ?_
    rintro e w2 ⟨rfl, hq⟩
    rw [Hg.out]
    have N2 := Lib.hid (N1.out.later hq)
    have HB2 := Lib.hid (HB1.out.trans (hq.mono HB1.out.size))
    clear hq
    go_wp2_with fail
    refine (HGS.out a b _ _ _ zs w2 N2.out).mono ?_
    rintro e w3 ⟨rfl, hq⟩
    rw [Hg.out]
    have N3 := Lib.hid (N2.out.later hq)
    have HB3 := Lib.hid (HB2.out.trans (hq.mono HB2.out.size))
    clear hq
    by_cases ha : g < 0
    · clear Hf
      go_wp2_with fail
      refine (HGS.out a b _ _ _ zs w3 N3.out).mono ?_
      rintro e w4 ⟨rfl, hq⟩
      rw [Hg.out]
      have N4 := Lib.hid (N3.out.later hq)
      have HB4 := Lib.hid (HB3.out.trans (hq.mono HB3.out.size))
      clear hq
      go_wp2
      go_ret
      exact ⟨rfl, HB4.out⟩
    · obtain ⟨f1, f2⟩ := Hf.out (by omega)
      clear Hf
      go_wp2_with fail
      refine (HAI.out a b _ _ _ zs w3 N3.out).mono ?_
      rintro e w4 ⟨rfl, hq⟩
      rw [Hv.out]
      have N4 := Lib.hid (N3.out.later hq)
      have HB4 := Lib.hid (HB3.out.trans (hq.mono HB3.out.size))
      clear hq
      by_cases h1 : n ≤ 1
      · have f3 := f2 h1
        subst f3
        clear f2
        go_wp2_with fail
        refine (HAI.out a b _ _ _ zs w4 N4.out).mono ?_
        rintro e w5 ⟨rfl, hq⟩
        rw [Hv.out]
        have N5 := Lib.hid (N4.out.later hq)
        have HB5 := Lib.hid (HB4.out.trans (hq.mono HB4.out.size))
        clear hq
        go_wp2
        go_ret
        exact ⟨rfl, HB5.out⟩
      · have h2 : 1 < n := by omega
        clear f2 h1
        go_wp2
        go_ret
        exact ⟨rfl, HB4.out⟩

set_option maxHeartbeats 1600000 in
theorem lawWayBoth_walk (A : Option Addr) (c : Nat) (bs : List Int) (w : World) (hr : RdB w w.heap.size A bs) (hcap : bs.length ≤ c) (hm : c ≤ maxLen) :
    Calls Try.prog 6 #[.slice A bs.length c] w fun e w' => e = .returned (.bool true) ∧ Below w.heap.size w w' := by
  unfold maxLen at hm
  by_cases hb : 1048576 < bs.length
  · go_enter Try.func6, Try.ntmps6
    go_wp2
    go_ret
    exact ⟨rfl, Below.refl _ _⟩
  · have HD := Lib.hid (drawWayBoth_any A c bs.length bs w hr rfl hcap hm)
    have HAI := Lib.hid iWayAhead_ok
    have HBS := Lib.hid sWayBoth_ok
    have HBI := Lib.hid iWayBoth_ok
    go_enter Try.func6, Try.ntmps6
    go_wp2_with fail
    refine HD.out.mono ?_
    rintro e w1 ⟨a, b, A1, c1, n, zs, rfl, h9, N1, HB1⟩
    clear HD hr hb hcap hm
    have hcw := N1.out.cap
    have hbe : ∀ x : Int, (x == x) = true := fun x => by simp
    have hbn : ∀ x : Int, (x != x) = false := fun x => by simp
    obtain ⟨v, Hv⟩ : ∃ v, Hid (wav a b zs = v) := ⟨_, rfl⟩
    obtain ⟨d, Hd⟩ : ∃ d, Hid (bwv a b zs = d) := ⟨_, rfl⟩
    have Hf : Hid (¬ d < 0 → v ≤ d ∧ d ≤ 2 * v + b - a ∧ 0 ≤ v ∧ v ≤ 500 ∧ 0 ≤ a ∧ a ≤ b ∧ b ≤ 50) := fun h => by
      have hv := bwv_valid (by rw [Hd.out]; exact h)
      obtain ⟨h1, h2, h3⟩ := vcl_iff.1 hv
      have bd := wav_bd (a := a) (b := b) (zs := zs)
      have h5 := lw_bw zr2_lip zs a b h1.2.1
      have e4 : zr2 (beL a b zs) (beH a b zs) = 0 := rfl
      have h6 := bw_twice zs h1.2.1
      have h7 := lw_nonneg (f := zr2) (fun _ _ => Int.le_refl _) zs a b
      rw [← Hv.out, ← Hd.out]
      rw [wav_is hv] at bd ⊢
      rw [bwv_is hv]
      omega
    go_wp2_with fail
    refine (HBI.out a b _ _ _ zs w1 N1.out).mono ?_
    rintro e w2 ⟨rfl, hq⟩
    rw [Hd.out]
    have N2 := Lib.hid (N1.out.later hq)
    have HB2 := Lib.hid (HB1.out.trans (hq.mono HB1.out.size))
    clear hq
    go_wp2_with fail
    refine (HBS.out a b _ _ _ zs w2 N2.out).mono ?_
    rintro e w3 ⟨rfl, hq⟩
    rw [Hd.out]
    have N3 := Lib.hid (N2.out.later hq)
    have HB3 := Lib.hid (HB2.out.trans (hq.mono HB2.out.size))
    clear hq
    by_cases ha : d < 0
    · clear Hf
      go_wp2_with fail
      refine (HBS.out a b _ _ _ zs w3 N3.out).mono ?_
      rintro e w4 ⟨rfl, hq⟩
      rw [Hd.out]
      have N4 := Lib.hid (N3.out.later hq)
      have HB4 := Lib.hid (HB3.out.trans (hq.mono HB3.out.size))
      clear hq
      go_wp2
      go_ret
      exact ⟨rfl, HB4.out⟩
    · obtain ⟨f1, f2, f3, f4, f5, f6, f7⟩ := Hf.out (by omega)
      have hw1 : IntKind.i64.wrap (2 * v) = 2 * v := IntWalk.i64_in _ (by omega)
      have hw2 : IntKind.i64.wrap (2 * v + b) = 2 * v + b := IntWalk.i64_in _ (by omega)
      have hw3 : IntKind.i64.wrap (2 * v + b - a) = 2 * v + b - a := IntWalk.i64_in _ (by omega)
      clear Hf
      go_wp2_with fail
      refine (HAI.out a b _ _ _ zs w3 N3.out).mono ?_
      rintro e w4 ⟨rfl, hq⟩
      rw [Hv.out]
      have N4 := Lib.hid (N3.out.later hq)
      have HB4 := Lib.hid (HB3.out.trans (hq.mono HB3.out.size))
      clear hq
      go_wp2_with fail
      refine (HAI.out a b _ _ _ zs w4 N4.out).mono ?_
      rintro e w5 ⟨rfl, hq⟩
      rw [Hv.out]
      have N5 := Lib.hid (N4.out.later hq)
      have HB5 := Lib.hid (HB4.out.trans (hq.mono HB4.out.size))
      clear hq
      go_wp2
      go_ret
      exact ⟨rfl, HB5.out⟩
end Go.Proofs.Ythgllpiclaihjaa
