/-
  FnIsRest, walked.
  Conditions: as the theorem states.
-/
import Derived.Test.YtoohfipicmdohaaZ2
import Derived.Test.YtoohfipicmdohaaZ0
namespace Go.Proofs.Ytoohfipicmdohaa
open Go.ChangeShapes Go.WideShapes Go.ChangeAt Go.RowKit
set_option linter.unusedVariables false
set_option maxRecDepth 4000

set_option maxHeartbeats 1600000 in
theorem lawIsRest_walk (A : Option Addr) (c : Nat) (bs : List Int) (w : World) (hr : RdB w w.heap.size A bs) (hcap : bs.length ≤ c) (hm : c ≤ maxLen) :
    Calls Try.prog 6 #[.slice A bs.length c] w fun e w' => e = .returned (.bool true) ∧ Below w.heap.size w w' := by
  unfold maxLen at hm
  obtain ⟨n, Hn⟩ : ∃ n, Hid (bs.length = n) := ⟨_, rfl⟩
  rw [Hn.out] at hcap ⊢
  have HD := Lib.hid (drawIsRest_any A c n bs w hr Hn.out hcap (by omega))
  have HI := Lib.hid iIsRest_ok
  have HS := Lib.hid sIsRest_ok
  have HV := Lib.hid iValidShops_any
  clear hr
  by_cases hb : 1048576 < n
  · go_enter Try.func6, Try.ntmps6
    go_wp2
    go_ret
    exact ⟨rfl, Below.refl _ _⟩
  · go_enter Try.func6, Try.ntmps6
    go_wp2_with fail
    refine HD.out.mono ?_
    rintro e w1 ⟨d, A1, c1, m, zs, rfl, hd, hm1, hm4, hin, hb1⟩
    have HIn := Lib.hid hin.out
    have HB1 := Lib.hid hb1.out
    clear hin hb1 HD hb hcap hm
    obtain ⟨r, Hr⟩ : ∃ r, Hid (rtQ (d : Int) zs = r) := ⟨_, rfl⟩
    obtain ⟨v, Hv⟩ : ∃ v, Hid (vsh (d : Int) zs = v) := ⟨_, rfl⟩
    have hbb : ∀ x : Bool, (x == x) = true := fun x => by simp
    have hbx : ∀ x : Bool, (x != x) = false := fun x => by simp
    go_wp2_with fail
    refine (HI.out (d : Int) A1 c1 m zs w1 HIn.out).mono ?_
    rintro e w2 ⟨rfl, hq⟩
    rw [Hr.out]
    have HIn2 := Lib.hid (HIn.out.later hq)
    have HB2 := Lib.hid (HB1.out.trans (hq.mono HB1.out.size))
    clear hq
    go_wp2_with fail
    refine (HS.out (d : Int) A1 c1 m zs w2 HIn2.out).mono ?_
    rintro e w3 ⟨rfl, hq⟩
    rw [Hr.out]
    have HIn3 := Lib.hid (HIn2.out.later hq)
    have HB3 := Lib.hid (HB2.out.trans (hq.mono HB2.out.size))
    clear hq
    go_wp2_with fail
    refine (HV.out (d : Int) A1 c1 m zs w3 HIn3.out).mono ?_
    rintro e w4 ⟨rfl, rfl⟩
    rw [Hv.out]
    cases v with
    | false =>
      go_wp2_with fail
      refine (HS.out (d : Int) A1 c1 m zs w3 HIn3.out).mono ?_
      rintro e w5 ⟨rfl, hq⟩
      rw [Hr.out]
      have HB5 := Lib.hid (HB3.out.trans (hq.mono HB3.out.size))
      clear hq
      go_wp2
      go_ret
      exact ⟨rfl, HB5.out⟩
    | true =>
      by_cases h2 : m < 2
      · go_wp2_with fail
        refine (HS.out (d : Int) A1 c1 m zs w3 HIn3.out).mono ?_
        rintro e w5 ⟨rfl, hq⟩
        rw [Hr.out]
        have HB5 := Lib.hid (HB3.out.trans (hq.mono HB3.out.size))
        clear hq
        go_wp2
        go_ret
        exact ⟨rfl, HB5.out⟩
      · obtain ⟨n', ss, hdn, rfl, hS⟩ := vsh_get Hv.out
        obtain rfl : d = n' := by omega
        have hlen : ss.length = m := by have := HIn3.out.len; rw [cI_length] at this; exact this
        have HF := Lib.hid (fromEnd_any d c1 m A1 ss w3 HIn3.out hS)
        have hrr : rstS d ss = r := by rw [← rtQ_yes hS (by omega)]; exact Hr.out
        have Hrv : Hid (rtQ (d : Int) (cI (revS d ss)) = r) := by
          show _ = _
          rw [rtQ_yes hS.rev (by rw [revS_length]; omega), hS.rest_rev (by omega)]
          exact hrr
        have hn1 := hS.n1
        have hn9 := hS.n9
        have hl4 : (revS d ss).length ≤ 100 := by rw [revS_length]; have := hS.l4; omega
        have HL4 := Lib.hid hl4
        have HT : Hid (m = 2 → r = (decide ((d - 1) / 2 ≤ ss.getD 0 0) && decide (ss.getD 1 0 ≤ d / 2))) := fun e => by
          rw [← hrr]; exact hS.rest_two (by omega)
        have HR := Lib.hid HIn3.out.rd
        have Hlen := Lib.hid hlen
        clear hdn hS hlen hl4 hrr
        rcases Nat.lt_or_ge 2 m with hm3 | hm3
        · have hne2 : (((m : Nat) : Int) != 2) = true := by simp; omega
          clear hm3
          go_wp2_with fail
          refine HF.out.mono ?_
          intro e w5 hq
          obtain ⟨A3, c3, m3, rfl, hp3, hb3⟩ := hq.shops (n := d) HL4.out
          have HP5 := Lib.hid hp3
          have HB5 := Lib.hid (HB3.out.trans (hb3.mono HB3.out.size))
          clear hq hp3 hb3
          go_wp2_with fail
          refine (HI.out (d : Int) A3 c3 m3 _ w5 HP5.out).mono ?_
          rintro e w6 ⟨rfl, hq⟩
          rw [Hrv.out]
          have HB6 := Lib.hid (HB5.out.trans (hq.mono HB5.out.size))
          clear hq
          go_wp2
          go_ret
          exact ⟨rfl, HB6.out⟩
        · obtain rfl : m = 2 := by omega
          have hT := HT.out rfl
          obtain ⟨b, off, x, rfl, hbw, Hx, hc0⟩ := HR.out.q (k := 0) (by rw [Hlen.out]; omega)
          obtain ⟨b', off', y, he, -, Hy, hc1⟩ := HR.out.q (k := 1) (by rw [Hlen.out]; omega)
          injection he with he
          injection he with he1 he2
          subst he1 he2
          rw [Hx.out, Hy.out] at hT
          rw [Nat.add_zero] at hc0
          obtain ⟨p, Hp⟩ : ∃ p, Hid ((d - 1) / 2 = p) := ⟨_, rfl⟩
          obtain ⟨q, Hq⟩ : ∃ q, Hid (d / 2 = q) := ⟨_, rfl⟩
          rw [Hp.out, Hq.out] at hT
          have hp := Hp.out
          have hq := Hq.out
          have hw1 : IntKind.i64.wrap ((d : Int) - 1) = ((d - 1 : Nat) : Int) := by rw [IntKind.wrap_i64]; omega
          have e1 : (((d - 1 : Nat) : Int)).tdiv 2 = ((p : Nat) : Int) := by rw [← Hp.out]; exact (Int.ofNat_tdiv (d - 1) 2).symm
          have e2 : (((d - 1 : Nat) : Int)) / 2 = ((p : Nat) : Int) := by omega
          have e5 : ((d : Int) - 1) / 2 = ((p : Nat) : Int) := by omega
          have e6 : ((d : Int) - 1).tdiv 2 = ((p : Nat) : Int) := by rw [show (d : Int) - 1 = ((d - 1 : Nat) : Int) by omega]; exact e1
          have e3 : ((d : Int)).tdiv 2 = ((q : Nat) : Int) := by rw [← Hq.out]; exact (Int.ofNat_tdiv d 2).symm
          have e4 : ((d : Int)) / 2 = ((q : Nat) : Int) := by omega
          obtain ⟨b1, Hb1⟩ : ∃ b1, Hid (decide (p ≤ x) = b1) := ⟨_, rfl⟩
          obtain ⟨b2, Hb2⟩ : ∃ b2, Hid (decide (y ≤ q) = b2) := ⟨_, rfl⟩
          rw [Hb1.out, Hb2.out] at hT
          have g1 : decide (p ≤ x) = b1 := Hb1.out
          have g2 : decide ((p : Int) ≤ (x : Int)) = b1 := by rw [← Hb1.out]; simp
          have g3 : decide ((x : Int) ≥ (p : Int)) = b1 := by rw [← Hb1.out]; simp
          have g4 : decide (y ≤ q) = b2 := Hb2.out
          have g5 : decide ((y : Int) ≤ (q : Int)) = b2 := by rw [← Hb2.out]; simp
          clear hp hq HT hm3
          have hbf : (false == false) = true := rfl
          have hbt : (true == true) = true := rfl
          cases b1
          · obtain rfl : r = false := by rw [hT]; rfl
            clear hT
            go_wp2_with fail
            refine HF.out.mono ?_
            intro e w5 hq
            obtain ⟨A3, c3, m3, rfl, hp3, hb3⟩ := hq.shops (n := d) HL4.out
            have HP5 := Lib.hid hp3
            have HB5 := Lib.hid (HB3.out.trans (hb3.mono HB3.out.size))
            clear hq hp3 hb3
            go_wp2_with fail
            refine (HI.out (d : Int) A3 c3 m3 _ w5 HP5.out).mono ?_
            rintro e w6 ⟨rfl, hq⟩
            rw [Hrv.out]
            have HB6 := Lib.hid (HB5.out.trans (hq.mono HB5.out.size))
            clear hq
            go_wp2
            go_ret
            exact ⟨rfl, HB6.out⟩
          · cases b2
            · obtain rfl : r = false := by rw [hT]; rfl
              clear hT
              go_wp2_with fail
              refine HF.out.mono ?_
              intro e w5 hq
              obtain ⟨A3, c3, m3, rfl, hp3, hb3⟩ := hq.shops (n := d) HL4.out
              have HP5 := Lib.hid hp3
              have HB5 := Lib.hid (HB3.out.trans (hb3.mono HB3.out.size))
              clear hq hp3 hb3
              go_wp2_with fail
              refine (HI.out (d : Int) A3 c3 m3 _ w5 HP5.out).mono ?_
              rintro e w6 ⟨rfl, hq⟩
              rw [Hrv.out]
              have HB6 := Lib.hid (HB5.out.trans (hq.mono HB5.out.size))
              clear hq
              go_wp2
              go_ret
              exact ⟨rfl, HB6.out⟩
            · obtain rfl : r = true := by rw [hT]; rfl
              clear hT
              go_wp2_with fail
              refine HF.out.mono ?_
              intro e w5 hq
              obtain ⟨A3, c3, m3, rfl, hp3, hb3⟩ := hq.shops (n := d) HL4.out
              have HP5 := Lib.hid hp3
              have HB5 := Lib.hid (HB3.out.trans (hb3.mono HB3.out.size))
              clear hq hp3 hb3
              go_wp2_with fail
              refine (HI.out (d : Int) A3 c3 m3 _ w5 HP5.out).mono ?_
              rintro e w6 ⟨rfl, hq⟩
              rw [Hrv.out]
              have HB6 := Lib.hid (HB5.out.trans (hq.mono HB5.out.size))
              clear hq
              go_wp2
              go_ret
              exact ⟨rfl, HB6.out⟩
end Go.Proofs.Ytoohfipicmdohaa
