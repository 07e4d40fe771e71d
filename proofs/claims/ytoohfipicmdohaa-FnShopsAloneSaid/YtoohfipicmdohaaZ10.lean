/-
  FnShopsAlone, walked.
  Conditions: as the theorem states.
-/
import Derived.Test.YtoohfipicmdohaaZ8
namespace Go.Proofs.Ytoohfipicmdohaa
open Go.ChangeShapes Go.WideShapes Go.ChangeAt Go.RowKit
set_option linter.unusedVariables false
set_option maxRecDepth 4000

set_option maxHeartbeats 1600000 in
theorem lawShopsAlone_walk (A : Option Addr) (c : Nat) (bs : List Int) (w : World) (hr : RdB w w.heap.size A bs) (hcap : bs.length ≤ c) (hm : c ≤ maxLen) :
    Calls Try.prog 8 #[.slice A bs.length c] w fun e w' => e = .returned (.bool true) ∧ Below w.heap.size w w' := by
  unfold maxLen at hm
  obtain ⟨n, Hn⟩ : ∃ n, Hid (bs.length = n) := ⟨_, rfl⟩
  rw [Hn.out] at hcap ⊢
  have HD := Lib.hid (drawSharesOf_any A c n bs w hr Hn.out hcap (by omega))
  have HI0 := Lib.hid iSharesOf_ok
  have HS0 := Lib.hid sSharesOf_ok
  clear hr
  by_cases hb : 1048576 < n
  · go_enter Try.func8, Try.ntmps8
    go_wp2
    go_ret
    exact ⟨rfl, Below.refl _ _⟩
  · go_enter Try.func8, Try.ntmps8
    go_wp2_with fail
    refine HD.out.mono ?_
    rintro e w1 ⟨d, A1, c1, m, zs, rfl, hd, hm1, hm4, hin, hb1⟩
    have N1 := Lib.hid hin.out
    have B1 := Lib.hid hb1.out
    clear hin hb1 HD hb hcap hm
    have hL4 := shQ_le4 (d : Int) zs
    have Hf0 := Lib.hid (shQ_some (d := d) (zs := zs))
    obtain ⟨xs, Hx⟩ : ∃ xs, Hid (shQ (d : Int) zs = xs) := ⟨_, rfl⟩
    obtain ⟨L, HL⟩ : ∃ L, Hid (xs.length = L) := ⟨_, rfl⟩
    rw [Hx.out, HL.out] at hL4
    have Hf : Hid (L ≠ 0 → ∃ ss, zs = cI ss ∧ Sh d ss ∧ xs = cI (shL d ss)) := fun h => by
      have := Hf0.out; rw [Hx.out, HL.out] at this; exact this h
    have HI : Hid (∀ A c W, PIn W A c m zs → Calls Try.prog 20 #[.int .i64 (d : Int), .slice A m c] W fun e w' => ∃ A' c', e = .returned (.slice A' L c') ∧ Hid (PIn w' A' c' L xs) ∧ Hid (Below W.heap.size W w')) := fun A c W h => (HI0.out (d : Int) A c m zs W h).mono (fun e w' hr => by rw [Hx.out] at hr; exact hr.pin HL.out (by omega))
    have HS : Hid (∀ A c W, PIn W A c m zs → Calls Try.prog 22 #[.int .i64 (d : Int), .slice A m c] W fun e w' => ∃ A' c', e = .returned (.slice A' L c') ∧ Hid (PIn w' A' c' L xs) ∧ Hid (Below W.heap.size W w')) := fun A c W h => (HS0.out (d : Int) A c m zs W h).mono (fun e w' hr => by rw [Hx.out] at hr; exact hr.pin HL.out (by omega))
    clear HS0 Hf0
    go_wp2_with fail
    refine (HI.out _ _ w1 N1.out).mono ?_
    rintro e w2 ⟨A2, c2, rfl, G2, hq⟩
    have N2 := Lib.hid (N1.out.later hq.out)
    have B2 := Lib.hid (B1.out.trans (hq.out.mono B1.out.size))
    clear hq
    go_wp2_with fail
    refine (HS.out _ _ w2 N2.out).mono ?_
    rintro e w3 ⟨A3, c3, rfl, S3, hq⟩
    have N3 := Lib.hid (N2.out.later hq.out)
    have G3 := Lib.hid (G2.out.later hq.out)
    have B3 := Lib.hid (B2.out.trans (hq.out.mono B2.out.size))
    clear hq
    go_wp2_with fail
    refine (calls_drawn (eqLi_same A2 A3 c2 c3 L L xs w3 _ _ G3.out.rd G3.out.len S3.out.rd S3.out.len (by omega))).mono ?_
    rintro e w4 ⟨rfl, hq⟩
    have N4 := Lib.hid (N3.out.later hq)
    have B4 := Lib.hid (B3.out.trans (hq.mono B3.out.size))
    clear hq G2 G3 S3
    go_wp2_with fail
    refine (HI.out _ _ w4 N4.out).mono ?_
    rintro e w5 ⟨A5, c5, rfl, G5, hq⟩
    have N5 := Lib.hid (N4.out.later hq.out)
    have B5 := Lib.hid (B4.out.trans (hq.out.mono B4.out.size))
    clear hq
    by_cases h0 : L = 0
    · subst h0
      clear Hf
      go_wp2
      go_ret
      exact ⟨rfl, B5.out⟩
    · obtain ⟨ss, rfl, hS, rfl⟩ := Hf.out h0
      have hl0 : ((L : Int) == 0) = false := by rw [beq_eq_false_iff_ne]; omega
      have hn9 := hS.n9
      have hlL : (shL d ss).length = L := by rw [← cI_length]; exact HL.out
      have hlm : ss.length = L := by rw [← shL_length d ss]; exact hlL
      obtain ⟨b, off, p, rfl, hbw, Hp, hc0⟩ := N5.out.rd.q (k := 0) (by rw [hlm]; omega)
      rw [Nat.add_zero] at hc0
      have hpd : p < d := by rw [← Hp.out]; exact hS.at_ (by omega)
      have Hlo : Hid ((shL d ss).getD 0 0 ≤ 12 * d) := by
        show _ ≤ _
        rw [shL_getD (by omega)]; exact shK_le _ _ _
      have H1 : Hid (shQ (d : Int) [(p : Int)] = [12 * (d : Int)]) := by
        show _ = _
        have := shQ_yes (sh_one hn9 hpd)
        rw [(alone_at hn9 hpd).1] at this
        simpa [cI] using this
      have H2 : Hid (shQ (d : Int) [(p : Int), (p : Int)] = [6 * (d : Int), 6 * (d : Int)]) := by
        show _ = _
        have := shQ_yes (sh_same hn9 hpd)
        rw [(alone_at hn9 hpd).2] at this
        simpa [cI] using this
      have hw12 : IntKind.i64.wrap (12 * (d : Int)) = 12 * (d : Int) := IntWalk.i64_in _ (by omega)
      have hw6 : IntKind.i64.wrap (6 * (d : Int)) = 6 * (d : Int) := IntWalk.i64_in _ (by omega)
      have HL5 : Hid (0 < (shL d ss).length) := by show _ < _; omega
      have HL0 : Hid (0 < L) := by show _ < _; omega
      clear Hf h0 hlL hlm hS
      go_wp2_with fail
      have P6 := Lib.hid (pin_one w5 (p : Int))
      have B6 := Lib.hid (B5.out.alloc B5.out.size (.cells #[.int .i64 (p : Int)] 3))
      have G6 := Lib.hid (G5.out.later ((Below.refl _ _).alloc (Nat.le_refl _) (.cells #[.int .i64 (p : Int)] 3)))
      refine (HI0.out (d : Int) _ _ 1 _ _ P6.out).mono ?_
      intro e w7 hq
      rw [H1.out] at hq
      obtain ⟨A7, c7, rfl, P7, hb7⟩ := hq.pin (L := 1) rfl (by omega)
      have G7 := Lib.hid (G6.out.later hb7.out)
      have B7 := Lib.hid (B6.out.trans (hb7.out.mono B6.out.size))
      clear hq hb7
      go_wp2_with fail
      have P8 := Lib.hid (pin_one w7 (12 * (d : Int)))
      have B8 := Lib.hid (B7.out.alloc B7.out.size (.cells #[.int .i64 (12 * (d : Int))] 3))
      have hb8 := (Below.refl w7.heap.size w7).alloc (Nat.le_refl _) (.cells #[.int .i64 (12 * (d : Int))] 3)
      have G8 := Lib.hid (G7.out.later hb8)
      have Q8 := Lib.hid (P7.out.later hb8)
      clear hb8
      refine (calls_drawn (eqLi_same _ _ _ _ 1 1 [12 * (d : Int)] _ _ _ Q8.out.rd rfl P8.out.rd rfl (by omega))).mono ?_
      rintro e w9 ⟨rfl, hq⟩
      have G9 := Lib.hid (G8.out.later hq)
      have B9 := Lib.hid (B8.out.trans (hq.mono B8.out.size))
      clear hq
      go_wp2_with fail
      have P10 := Lib.hid (pin_two w9 (p : Int) (p : Int))
      have B10 := Lib.hid (B9.out.alloc B9.out.size (.cells #[.int .i64 (p : Int), .int .i64 (p : Int)] 3))
      have G10 := Lib.hid (G9.out.later ((Below.refl _ _).alloc (Nat.le_refl _) (.cells #[.int .i64 (p : Int), .int .i64 (p : Int)] 3)))
      refine (HI0.out (d : Int) _ _ 2 _ _ P10.out).mono ?_
      intro e w11 hq
      rw [H2.out] at hq
      obtain ⟨A11, c11, rfl, P11, hb11⟩ := hq.pin (L := 2) rfl (by omega)
      have G11 := Lib.hid (G10.out.later hb11.out)
      have B11 := Lib.hid (B10.out.trans (hb11.out.mono B10.out.size))
      clear hq hb11
      go_wp2_with fail
      have P12 := Lib.hid (pin_two w11 (6 * (d : Int)) (6 * (d : Int)))
      have B12 := Lib.hid (B11.out.alloc B11.out.size (.cells #[.int .i64 (6 * (d : Int)), .int .i64 (6 * (d : Int))] 3))
      have hb12 := (Below.refl w11.heap.size w11).alloc (Nat.le_refl _) (.cells #[.int .i64 (6 * (d : Int)), .int .i64 (6 * (d : Int))] 3)
      have G12 := Lib.hid (G11.out.later hb12)
      have Q12 := Lib.hid (P11.out.later hb12)
      clear hb12
      refine (calls_drawn (eqLi_same _ _ _ _ 2 2 [6 * (d : Int), 6 * (d : Int)] _ _ _ Q12.out.rd rfl P12.out.rd rfl (by omega))).mono ?_
      rintro e w13 ⟨rfl, hq⟩
      have G13 := Lib.hid (G12.out.later hq)
      have B13 := Lib.hid (B12.out.trans (hq.mono B12.out.size))
      clear hq
      obtain ⟨b5, off5, s0, rfl, -, Hs0, hcs⟩ := G13.out.rd.q (k := 0) HL5.out
      rw [Nat.add_zero] at hcs
      have hle : s0 ≤ 12 * d := by rw [← Hs0.out]; exact Hlo.out
      have hL0 := HL0.out
      have hLi : (0 : Int) < (L : Int) := by omega
      have hlei : (s0 : Int) ≤ 12 * (d : Int) := by omega
      go_wp2
      go_ret
      exact ⟨rfl, B13.out⟩
end Go.Proofs.Ytoohfipicmdohaa
