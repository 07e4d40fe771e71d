/-
  The laws on where both stand, and on work.
  Conditions: none.
-/
import Derived.Test.YthgllpiclaihjaaJR
import Derived.Test.YthgllpiclaihjaaEL
import Derived.Deep.RegionHeld3
import Derived.BigQuiet
namespace Go.Proofs.Ythgllpiclaihjaa
open Go.ChangeShapes Go.WideShapes Go.ChangeAt Go.RowKit
set_option linter.unusedVariables false
set_option maxRecDepth 4000


set_option maxHeartbeats 1600000 in
theorem lawStandBoth_walk (A : Option Addr) (c : Nat) (bs : List Int) (w : World) (hr : RdB w w.heap.size A bs) (hcap : bs.length ≤ c) (hm : c ≤ maxLen) :
    Calls Try.prog 7 #[.slice A bs.length c] w fun e w' => e = .returned (.bool true) ∧ Below w.heap.size w w' := by
  unfold maxLen at hm
  by_cases hb : 1048576 < bs.length
  · go_enter Try.func7, Try.ntmps7
    go_wp2
    go_ret
    exact ⟨rfl, Below.refl _ _⟩
  · have HD := Lib.hid (drawStandBoth_any A c bs.length bs w hr rfl hcap hm)
    have HSI := Lib.hid iStandBoth_ok
    have HSS := Lib.hid sStandBoth_ok
    go_enter Try.func7, Try.ntmps7
    go_wp2_with fail
    refine HD.out.mono ?_
    rintro e w1 ⟨a, b, A1, c1, n, zs, rfl, h9, N1, HB1⟩
    clear HD hr hb hcap hm
    have hcw := N1.out.cap
    have hbe : ∀ x : Int, (x == x) = true := fun x => by simp
    have hbn : ∀ x : Int, (x != x) = false := fun x => by simp
    by_cases hv : vcl a b zs = true
    · have hs := sbv_is hv
      obtain ⟨⟨ha0, hab, hb0⟩, h8, h50⟩ := vcl_iff.1 hv
      have f1 : beL a b zs ≤ beH a b zs := be_in zs a b hab
      have Hf0 : Hid (n = 0 → beL a b zs = a ∧ beH a b zs = b) := fun h0 => by
        have hz : zs = [] := List.eq_nil_of_length_eq_zero (by rw [N1.out.len]; exact h0)
        rw [hz]
        exact ⟨rfl, rfl⟩
      have Hf1 : Hid (0 < n → beL a b zs = zs.getD (n - 1) 0 ∨ beH a b zs = zs.getD (n - 1) 0) := fun h0 => by
        have h1 := be_last (zs.take (n - 1)) a b (zs.getD (n - 1) 0) hab
        rw [← last_is N1.out.len h0] at h1
        exact h1
      have HI : Hid (∀ w1, CallsIn w1 A1 c1 n zs → Calls Try.prog 30 #[.int .i64 a, .int .i64 b, .slice A1 n c1] w1 fun e w' => ∃ A' c', e = .returned (.slice A' 2 c') ∧ Hid (w'.ownsRow w1.heap.size 3 1 (.slice A' 2 c') 2 [.int .i64 (beL a b zs), .int .i64 (beH a b zs)]) ∧ Hid (Below w1.heap.size w1 w')) := fun w1 h1 => by
        have h2 := HSI.out a b A1 c1 n zs w1 h1
        rw [hs] at h2
        exact h2
      have HS : Hid (∀ w1, CallsIn w1 A1 c1 n zs → Calls Try.prog 32 #[.int .i64 a, .int .i64 b, .slice A1 n c1] w1 fun e w' => ∃ A' c', e = .returned (.slice A' 2 c') ∧ Hid (w'.ownsRow w1.heap.size 3 1 (.slice A' 2 c') 2 [.int .i64 (beL a b zs), .int .i64 (beH a b zs)]) ∧ Hid (Below w1.heap.size w1 w')) := fun w1 h1 => by
        have h2 := HSS.out a b A1 c1 n zs w1 h1
        rw [hs] at h2
        exact h2
      obtain ⟨p, Hp⟩ : ∃ p, Hid (beL a b zs = p) := ⟨_, rfl⟩
      obtain ⟨q, Hq⟩ : ∃ q, Hid (beH a b zs = q) := ⟨_, rfl⟩
      rw [Hp.out, Hq.out] at f1 HI HS Hf0
      rw [Hp.out, Hq.out] at Hf1
      clear hv hs ha0 hab hb0 h8 h50 HSI HSS
      go_wp2_with fail
      refine (HI.out w1 N1.out).mono ?_
      rintro e w2 ⟨A2, c2, rfl, ho2, hb2⟩
      have hrd2 := rdI_of_ownA ho2.out
      obtain ⟨g, rfl, cp, cq⟩ := own_twoJ ho2.out
      have hgl := World.block_lt_of_cell? w2 _ cp
      have N2 := Lib.hid (N1.out.later hb2.out)
      have HB2 := Lib.hid (HB1.out.trans (hb2.out.mono HB1.out.size))
      have hc2 : 2 ≤ c2 := by
        obtain ⟨A', c', he, h1, -, -⟩ := own_sliceN ho2.out
        injection he with _ _ he3
        omega
      have HR2 := Lib.hid hrd2
      clear ho2 hb2 hrd2
      go_wp2_with fail
      refine (HS.out w2 N2.out).mono ?_
      rintro e w3 ⟨A3, c3, rfl, ho3, hb3⟩
      have HR3 := Lib.hid (rdI_of_ownA ho3.out)
      have N3 := Lib.hid (N2.out.later hb3.out)
      have HB3 := Lib.hid (HB2.out.trans (hb3.out.mono HB2.out.size))
      have cp3 : w3.cell? ⟨g, 0, none⟩ = some (.int .i64 p) := (hb3.out.cell (p := ⟨g, 0, none⟩) hgl).trans cp
      have cq3 : w3.cell? ⟨g, 1, none⟩ = some (.int .i64 q) := (hb3.out.cell (p := ⟨g, 1, none⟩) hgl).trans cq
      have HR23 := Lib.hid (HR2.out.below hb3.out)
      clear ho3 hb3 cp cq
      go_wp2_with fail
      refine (eqLi_same _ _ _ _ 2 2 [p, q] w3 _ _ HR23.out rfl HR3.out rfl (by omega)).mono ?_
      rintro e w4 ⟨rfl, hw4⟩
      have hb4 : Below w3.heap.size w3 w4 := by obtain ⟨q4, e4⟩ := hw4; rw [e4]; exact below_drewN (Below.refl _ _) q4
      clear hw4
      have N4 := Lib.hid (N3.out.later hb4)
      have HB4 := Lib.hid (HB3.out.trans (hb4.mono HB3.out.size))
      have cp4 : w4.cell? ⟨g, 0, none⟩ = some (.int .i64 p) := (hb4.cell (p := ⟨g, 0, none⟩) (World.block_lt_of_cell? w3 _ cp3)).trans cp3
      have cq4 : w4.cell? ⟨g, 1, none⟩ = some (.int .i64 q) := (hb4.cell (p := ⟨g, 1, none⟩) (World.block_lt_of_cell? w3 _ cq3)).trans cq3
      have hd1 : decide (p ≤ q) = true := decide_eq_true f1
      clear hb4 cp3 cq3 HR2 HR3 HR23
      by_cases h0 : n = 0
      · obtain ⟨e1, e2⟩ := Hf0.out h0
        subst h0 e1 e2
        clear Hf0 Hf1
        go_wp2
        go_quiet (fail)
        go_wp2
        go_ret
        exact ⟨rfl, below_drewN HB4.out _⟩
      · obtain ⟨m, Hm⟩ : ∃ m, Hid (m + 1 = n) := ⟨n - 1, by show _ = _; omega⟩
        have hmb : ((n : Int) == 0) = false := by rw [beq_eq_false_iff_ne]; omega
        have hpos : decide ((0 : Int) < (n : Int)) = true := decide_eq_true (by omega)
        have hpos2 : (0 : Int) < (n : Int) := by omega
        have hposN : decide (0 < n) = true := decide_eq_true (by omega)
        have hposN2 : 0 < n := by omega
        have hwm : IntKind.i64.wrap ((n : Int) - 1) = (m : Int) := by have := Hm.out; rw [IntWalk.i64_in _ (by omega)]; omega
        have hm1 : (0 : Int) ≤ (m : Int) := by omega
        have hm2 : (m : Int) < (n : Int) := by have := Hm.out; omega
        have hm3 : m < n := by omega
        obtain ⟨bz, oz, z, rfl, hbz, Hz, hcz⟩ := N4.out.rd.x (k := m) (by rw [N4.out.len]; exact hm3)
        have hl := Hf1.out (by omega)
        rw [show n - 1 = m by have := Hm.out; omega, Hz.out] at hl
        clear h0 Hf0 Hf1
        by_cases h1 : p = z
        · subst h1
          clear hl
          go_wp2
          go_quiet (fail)
          go_wp2
          go_ret
          exact ⟨rfl, below_drewN HB4.out _⟩
        · have h2 : q = z := by omega
          subst h2
          have hne : (p == q) = false := by rw [beq_eq_false_iff_ne]; exact h1
          clear hl h1
          go_wp2
          go_quiet (fail)
          go_wp2
          go_ret
          exact ⟨rfl, below_drewN HB4.out _⟩
    · have hs : sbv a b zs = [] := by unfold sbv; rw [if_neg hv]
      have HI : Hid (∀ w1, CallsIn w1 A1 c1 n zs → Calls Try.prog 30 #[.int .i64 a, .int .i64 b, .slice A1 n c1] w1 fun e w' => ∃ A' c', e = .returned (.slice A' 0 c') ∧ Hid (Below w1.heap.size w1 w')) := fun w1 h1 => by
        have h2 := HSI.out a b A1 c1 n zs w1 h1
        rw [hs] at h2
        exact h2.mono fun e w' ⟨A', c', he, _, hb⟩ => ⟨A', c', he, hb⟩
      have HS : Hid (∀ w1, CallsIn w1 A1 c1 n zs → Calls Try.prog 32 #[.int .i64 a, .int .i64 b, .slice A1 n c1] w1 fun e w' => ∃ A' c', e = .returned (.slice A' 0 c') ∧ Hid (Below w1.heap.size w1 w')) := fun w1 h1 => by
        have h2 := HSS.out a b A1 c1 n zs w1 h1
        rw [hs] at h2
        exact h2.mono fun e w' ⟨A', c', he, _, hb⟩ => ⟨A', c', he, hb⟩
      have HE : Hid (∀ (A A' : Option Addr) (c c' : Nat) (w : World), Calls Try.prog 31 #[.slice A 0 c, .slice A' 0 c'] w fun e w' => e = .returned (.bool true) ∧ ∃ q, w' = w.drewN q) := fun A A' c c' w =>
        eqLi_same A A' c c' 0 0 [] w 0 0 (RdI.nil _ _ _) rfl (RdI.nil _ _ _) rfl (by omega)
      clear hv hs HSI HSS
      go_wp2_with fail
      refine (HI.out w1 N1.out).mono ?_
      rintro e w2 ⟨A2, c2, rfl, hb2⟩
      have N2 := Lib.hid (N1.out.later hb2.out)
      have HB2 := Lib.hid (HB1.out.trans (hb2.out.mono HB1.out.size))
      clear hb2
      go_wp2_with fail
      refine (HS.out w2 N2.out).mono ?_
      rintro e w3 ⟨A3, c3, rfl, hb3⟩
      have N3 := Lib.hid (N2.out.later hb3.out)
      have HB3 := Lib.hid (HB2.out.trans (hb3.out.mono HB2.out.size))
      clear hb3
      go_wp2_with fail
      refine (HE.out _ _ _ _ w3).mono ?_
      rintro e w4 ⟨rfl, q4, rfl⟩
      have N4 := Lib.hid (N3.out.later (below_drewN (Below.refl _ w3) q4))
      have HB4 := Lib.hid (below_drewN HB3.out q4)
      go_wp2_with fail
      refine (HS.out _ N4.out).mono ?_
      rintro e w5 ⟨A5, c5, rfl, hb5⟩
      have HB5 := Lib.hid (HB4.out.trans (hb5.out.mono HB4.out.size))
      clear hb5
      go_wp2_with fail
      refine (HE.out _ _ _ _ w5).mono ?_
      rintro e w6 ⟨rfl, q6, rfl⟩
      go_wp2
      go_ret
      exact ⟨rfl, below_drewN HB5.out q6⟩
end Go.Proofs.Ythgllpiclaihjaa
