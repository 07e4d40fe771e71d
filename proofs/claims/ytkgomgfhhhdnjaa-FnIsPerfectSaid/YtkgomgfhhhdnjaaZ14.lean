/-
  Perfect cells fill a closed grid: each cell has as many near as every other one.
  Conditions: at most ten columns and ten rows.
  The law FnIsPerfect follows from the functions' contracts.
  Conditions: none beyond the contracts'.
-/
import Derived.Test.YtkgomgfhhhdnjaaZ2
import Derived.Test.YtkgomgfhhhdnjaaZ13
import Derived.Test.YtkgomgfhhhdnjaaZ8
namespace Go.Proofs.Ytkgomgfhhhdnjaa
open Go.ChangeShapes Go.WideShapes Go.ChangeAt Go.RowKit
set_option linter.unusedVariables false
set_option maxRecDepth 8000

/-- How many cells are near one. -/
def rbl (w h far l : Nat) (n : Nat) : Nat := sumC (fun c => if srN w h c l ≤ far then 1 else 0) n
def rblB (w h far : Nat) : Bool := (List.range (w * h)).all fun l => decide (rbl w h far l (w * h) = 2 * far * (far + 1) + 1)
theorem rbl_all : ∀ w h : Fin 11, ∀ far : Fin 5, 2 * far.val + 1 ≤ w.val → 2 * far.val + 1 ≤ h.val → rblB w.val h.val far.val = true := by decide +kernel
theorem rbl_is {w h far l : Nat} (g : Rg w h) (hw : 2 * far + 1 ≤ w) (hh : 2 * far + 1 ≤ h) (hl : l < w * h) : rbl w h far l (w * h) = 2 * far * (far + 1) + 1 := by
  have h1 := rbl_all ⟨w, by have := g.w10; omega⟩ ⟨h, by have := g.h10; omega⟩ ⟨far, by have := g.w10; omega⟩ hw hh
  unfold rblB at h1
  simp only [List.all_eq_true, decide_eq_true_eq, List.mem_range] at h1
  exact h1 l hl
theorem fill_sum {w h far : Nat} (g : Rg w h) (hw : 2 * far + 1 ≤ w) (hh : 2 * far + 1 ≤ h) : ∀ zs : List Int, (∀ z ∈ zs, 0 ≤ z ∧ z < ((w * h : Nat) : Int)) → sumC (fun c => nrC w h (far : Int) c zs) (w * h) = zs.length * (2 * far * (far + 1) + 1)
  | [], _ => by
    rw [sumC_congr (f := fun c => nrC w h (far : Int) c []) (g := fun _ => 0) (w * h) (fun c _ => rfl), sumC_zero]; simp
  | z :: zs, hz => by
    have hz0 := hz z (by simp)
    have ih := fill_sum g hw hh zs fun y hy => hz y (by simp [hy])
    have e : ∀ c, nrC w h (far : Int) c (z :: zs) = (if srN w h c z.toNat ≤ far then 1 else 0) + nrC w h (far : Int) c zs := fun c => by
      unfold nrC
      rw [List.filter_cons]
      by_cases hc : srN w h c z.toNat ≤ far
      · have hc' : ((srN w h c z.toNat : Nat) : Int) ≤ (far : Int) := by omega
        rw [if_pos (decide_eq_true hc'), if_pos hc, List.length_cons]; omega
      · have hc' : ¬ ((srN w h c z.toNat : Nat) : Int) ≤ (far : Int) := by omega
        rw [if_neg (by rw [decide_eq_false hc']; decide), if_neg hc]; omega
    have h2 := rbl_is g hw hh (l := z.toNat) (by omega)
    unfold rbl at h2
    rw [sumC_congr (w * h) (fun c _ => e c), sumC_add, ih, h2, List.length_cons]
    generalize 2 * far * (far + 1) + 1 = K
    rw [Nat.add_mul, Nat.one_mul]
    exact Nat.add_comm _ _
/-- Perfect cells fill. -/
theorem prf_fill {w h : Int} {zs : List Int} {far : Int} (hp : prf w h zs far = true) (hw : 2 * far + 1 ≤ w) (hh : 2 * far + 1 ≤ h) : (zs.length : Int) * (2 * far * (far + 1) + 1) = w * h := by
  obtain ⟨h1, ⟨h2, h3⟩, h4⟩ := prf_has hp
  obtain ⟨a, b, rfl, rfl, g⟩ := rok_nat h1
  obtain ⟨f, rfl⟩ := Int.eq_ofNat_of_zero_le h2
  rw [← Int.natCast_mul] at h4
  rw [prf_yes g h2 h3 h4, ones_iff] at hp
  have e1 := fill_sum (far := f) g (by omega) (by omega) zs (ascL_rng h4)
  rw [sumC_congr (g := fun _ => 1) _ hp, sumC_one] at e1
  rw [← Int.natCast_mul, e1]
  simp
end Go.Proofs.Ytkgomgfhhhdnjaa
namespace Go.Proofs.Ytkgomgfhhhdnjaa
open Go.ChangeShapes Go.WideShapes Go.ChangeAt Go.RowKit
set_option linter.unusedVariables false
set_option maxRecDepth 4000

set_option maxHeartbeats 3200000 in
theorem lawIsPerfect_walk (A : Option Addr) (c : Nat) (bs : List Int) (w : World) (hr : RdB w w.heap.size A bs) (hcap : bs.length ≤ c) (hm : c ≤ maxLen) :
    Calls Try.prog 6 #[.slice A bs.length c] w fun e w' => e = .returned (.bool true) ∧ Below w.heap.size w w' := by
  unfold maxLen at hm
  by_cases hb : 1048576 < bs.length
  · go_enter Try.func6, Try.ntmps6
    go_wp2
    go_ret
    exact ⟨rfl, Below.refl _ _⟩
  · have H := Lib.hid (drawIsPerfect_any A c bs.length bs w hr rfl hcap hm)
    have HI := Lib.hid iIsPerfect_ok
    have HS := Lib.hid sIsPerfect_ok
    clear hr
    go_enter Try.func6, Try.ntmps6
    go_wp2_with fail
    refine H.out.mono ?_
    rintro e w1 ⟨a, b, A1, c1, m, zs, far, rfl, ha, hb', hfar, HL1, hm101, HB1⟩
    have hbn : ∀ x : Bool, (x != x) = false := fun x => by simp
    have hbe : ∀ x : Bool, (x == x) = true := fun x => by simp
    have hb2 := hb'
    clear hb'
    obtain ⟨p, Hp⟩ : ∃ p, Hid (prf a b zs far = p) := ⟨_, rfl⟩
    have Hfill : Hid (p = true → 2 * far + 1 ≤ (a : Int) → 2 * far + 1 ≤ (b : Int) → (m : Int) * (2 * far * (far + 1) + 1) = (a : Int) * (b : Int)) := fun h h1 h2 => by
      have := prf_fill (w := a) (h := b) (zs := zs) (far := far) (by rw [Hp.out]; exact h) h1 h2
      rwa [HL1.out.len] at this
    have hmm : (a : Int) * (b : Int) = ((a * b : Nat) : Int) := (Int.natCast_mul a b).symm
    have hn100 : a * b ≤ 100 := Nat.mul_le_mul ha.2 hb2.2
    obtain ⟨n, Hn⟩ : ∃ n, Hid (a * b = n) := ⟨_, rfl⟩
    rw [Hn.out] at hmm hn100
    rw [hmm] at Hfill
    go_wp2_with fail
    refine (HI.out a b A1 c1 m zs far w1 HL1.out).mono ?_
    rintro e w2 ⟨rfl, hb3⟩
    rw [Hp.out]
    have HL2 := Lib.hid (HL1.out.later hb3)
    have HB2 := Lib.hid (HB1.out.trans (hb3.mono HB1.out.size))
    clear hb3
    go_wp2_with fail
    refine (HS.out a b A1 c1 m zs far w2 HL2.out).mono ?_
    rintro e w3 ⟨rfl, hb3⟩
    rw [Hp.out]
    have HL3 := Lib.hid (HL2.out.later hb3)
    have HB3 := Lib.hid (HB2.out.trans (hb3.mono HB2.out.size))
    clear hb3
    cases p with
    | false =>
      go_wp2_with fail
      refine (HS.out a b A1 c1 m zs far w3 HL3.out).mono ?_
      rintro e w4 ⟨rfl, hb3⟩
      rw [Hp.out]
      have HB4 := Lib.hid (HB3.out.trans (hb3.mono HB3.out.size))
      clear hb3
      go_wp2
      go_ret
      exact ⟨rfl, HB4.out⟩
    | true =>
      by_cases h1 : (a : Int) < 2 * far + 1
      · go_wp2_with fail
        refine (HS.out a b A1 c1 m zs far w3 HL3.out).mono ?_
        rintro e w4 ⟨rfl, hb3⟩
        rw [Hp.out]
        have HB4 := Lib.hid (HB3.out.trans (hb3.mono HB3.out.size))
        clear hb3
        go_wp2
        go_ret
        exact ⟨rfl, HB4.out⟩
      · by_cases h2 : (b : Int) < 2 * far + 1
        · go_wp2_with fail
          refine (HS.out a b A1 c1 m zs far w3 HL3.out).mono ?_
          rintro e w4 ⟨rfl, hb3⟩
          rw [Hp.out]
          have HB4 := Lib.hid (HB3.out.trans (hb3.mono HB3.out.size))
          clear hb3
          go_wp2
          go_ret
          exact ⟨rfl, HB4.out⟩
        · have hf0 : 0 ≤ far := (prf_has Hp.out).2.1.1
          have hprod := Hfill.out rfl (by omega) (by omega)
          have hf : far = 0 ∨ far = 1 ∨ far = 2 := by omega
          clear Hfill
          rcases hf with rfl | rfl | rfl
          all_goals
            simp only [Int.mul_one, Int.mul_zero, Int.zero_add, Int.reduceMul, Int.reduceAdd] at hprod
            have hpb : (((m : Int) * 13 == (n : Int)) = true ∨ ((m : Int) * 5 == (n : Int)) = true) ∨ ((m : Int) == (n : Int)) = true := by simp only [beq_iff_eq]; omega
            go_wp2
            go_ret
            exact ⟨ret_bool (by first | rfl | (rw [beq_iff_eq]; omega) | (simp; omega)), HB3.out⟩
end Go.Proofs.Ytkgomgfhhhdnjaa
