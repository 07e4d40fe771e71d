/-
  What chapter 3's functions answer, as numbers, and what the program's functions must answer, as propositions; the facts on them.
  Conditions: at most 2^20 streets in each function's contract.
-/
import Derived.Test.YtiblcmeoneolcaaBB
import Derived.Test.YtiblcmeoneolcaaB3
import Derived.Test.YtiblcmeoneolcaaQ3
namespace Go.Proofs.Ytiblcmeoneolcaa
open Go.ChangeShapes Go.WideShapes Go.ChangeAt Go.RowKit
set_option linter.unusedVariables false
set_option maxRecDepth 4000

/-- NetApart's and NetCover's answers. -/
noncomputable def nap (n : Int) (ss : List Str) (far : Int) : Int := if vnet n ss = true ∧ 0 ≤ far ∧ far ≤ 50 then ((pkB (sht n.toNat ss) far n.toNat (2 ^ n.toNat) : Nat) : Int) else -1
noncomputable def ncv (n : Int) (ss : List Str) (far : Int) : Int := if vnet n ss = true ∧ 0 ≤ far ∧ far ≤ 50 then ((cvN (sht n.toNat ss) far n.toNat (2 ^ n.toNat) : Nat) : Int) else -1
theorem nap_no {n : Int} {ss : List Str} {far : Int} (h : vnet n ss = false ∨ far < 0 ∨ 50 < far) : nap n ss far = -1 := by
  unfold nap
  rw [if_neg]
  rintro ⟨h1, h2, h3⟩
  rcases h with h | h | h
  · rw [h1] at h; cases h
  · omega
  · omega
theorem ncv_no {n : Int} {ss : List Str} {far : Int} (h : vnet n ss = false ∨ far < 0 ∨ 50 < far) : ncv n ss far = -1 := by
  unfold ncv
  rw [if_neg]
  rintro ⟨h1, h2, h3⟩
  rcases h with h | h | h
  · rw [h1] at h; cases h
  · omega
  · omega
theorem nap_yes {n : Nat} {ss : List Str} {far : Int} (h : vnet n ss = true) (h1 : 0 ≤ far) (h2 : far ≤ 50) : nap n ss far = ((pkB (sht n ss) far n (2 ^ n) : Nat) : Int) := by
  unfold nap; rw [if_pos ⟨h, h1, h2⟩]; rfl
theorem ncv_yes {n : Nat} {ss : List Str} {far : Int} (h : vnet n ss = true) (h1 : 0 ≤ far) (h2 : far ≤ 50) : ncv n ss far = ((cvN (sht n ss) far n (2 ^ n) : Nat) : Int) := by
  unfold ncv; rw [if_pos ⟨h, h1, h2⟩]; rfl
/-- NetFar's answer. -/
noncomputable def nfr (n : Int) (ss : List Str) (k : Int) : Int := if vnet n ss = true ∧ 1 ≤ k ∧ k ≤ 4 then nfar (sht n.toNat ss) n.toNat (min k.toNat n.toNat) else -1
theorem nfr_no {n : Int} {ss : List Str} {k : Int} (h : vnet n ss = false ∨ k < 1 ∨ 4 < k) : nfr n ss k = -1 := by
  unfold nfr
  rw [if_neg]
  rintro ⟨h1, h2, h3⟩
  rcases h with h | h | h
  · rw [h1] at h; cases h
  · omega
  · omega
theorem nfr_yes {n k : Nat} {ss : List Str} (h : vnet n ss = true) (h1 : 1 ≤ k) (h2 : k ≤ 4) : nfr n ss k = nfar (sht n ss) n (min k n) := by
  unfold nfr; rw [if_pos ⟨h, by omega, by omega⟩]; rfl
/-- The arguments of a function over a net. -/
structure NetIn (w : World) (A : Option Addr) (c m : Nat) (n : Int) (ss : List Str) : Prop where
  rd : RdS w w.heap.size A ss
  len : ss.length = m
  cap : m ≤ c ∧ c ≤ 9223372036854775807
  most : m ≤ 1048576
  wf : (Lit.int .i64 n).wf = true
def INum (F : Nat) (ans : Int → List Str → Int → Int) : Prop := ∀ (A : Option Addr) (c m : Nat) (n : Int) (ss : List Str) (k : Int) (w : World), NetIn w A c m n ss → (Lit.int .i64 k).wf = true →
  Calls Try.prog F #[.int .i64 n, .slice A m c, .int .i64 k] w fun e w' => e = .returned (.int .i64 (ans n ss k)) ∧ Below w.heap.size w w'
def IBool (F : Nat) : Prop := ∀ (A : Option Addr) (c m : Nat) (n : Int) (ss : List Str) (w : World), NetIn w A c m n ss →
  Calls Try.prog F #[.int .i64 n, .slice A m c] w fun e w' => e = .returned (.bool (vnet n ss)) ∧ Below w.heap.size w w'
def IRows (F : Nat) : Prop := ∀ (A : Option Addr) (c m : Nat) (n : Int) (ss : List Str) (w : World), NetIn w A c m n ss →
  Calls Try.prog F #[.int .i64 n, .slice A m c] w (NetAns w n ss)
theorem NetIn.later {w w' : World} {A : Option Addr} {c m : Nat} {n : Int} {ss : List Str} (h : NetIn w A c m n ss) (hb : Below w.heap.size w w') : NetIn w' A c m n ss :=
  ⟨(h.rd.below hb).more hb.size, h.len, h.cap, h.most, h.wf⟩
theorem wf_small {n : Int} (h : -1000 ≤ n ∧ n ≤ 1000) : (Lit.int .i64 n).wf = true := WalkArith.wf_i64 (by omega)
theorem ncv_is {n : Int} {ss : List Str} {far : Int} (h : vnet n ss = true) (h0 : 0 ≤ far) (h1 : far ≤ 50) : ncv n ss far = ((cvN (sht n.toNat ss) far n.toNat (2 ^ n.toNat) : Nat) : Int) := by unfold ncv; rw [if_pos ⟨h, h0, h1⟩]
theorem nap_is {n : Int} {ss : List Str} {far : Int} (h : vnet n ss = true) (h0 : 0 ≤ far) (h1 : far ≤ 50) : nap n ss far = ((pkB (sht n.toNat ss) far n.toNat (2 ^ n.toNat) : Nat) : Int) := by unfold nap; rw [if_pos ⟨h, h0, h1⟩]
theorem ncv_has {n : Int} {ss : List Str} {far : Int} (h : 0 ≤ ncv n ss far) : vnet n ss = true ∧ 0 ≤ far ∧ far ≤ 50 := by
  unfold ncv at h
  split at h
  · assumption
  · omega
theorem nap_has {n : Int} {ss : List Str} {far : Int} (h : 0 ≤ nap n ss far) : vnet n ss = true ∧ 0 ≤ far ∧ far ≤ 50 := by
  unfold nap at h
  split at h
  · assumption
  · omega
theorem cover_facts {n : Int} {ss : List Str} {far : Int} (h : 0 ≤ ncv n ss far) : nap n ss far ≤ ncv n ss far ∧ (ncv n ss (far + 1) < 0 ∨ ncv n ss (far + 1) ≤ ncv n ss far) ∧ 1 ≤ ncv n ss far ∧ 0 ≤ far ∧ far ≤ 50 := by
  obtain ⟨hv, h0, h1⟩ := ncv_has h
  obtain ⟨k, rfl, hk1, hk7⟩ := vnet_nat hv
  have hM := sht_met (n := k) hv
  rw [ncv_is hv h0 h1, nap_is hv h0 h1, Int.toNat_natCast]
  have e1 := pk_le_cv (far := far) hk7 hM.symm hM.zero h0
  have e2 := cvN_pos (far := far) hk7 hk1 hM.zero h0
  refine ⟨by omega, ?_, by omega, h0, h1⟩
  by_cases h2 : far + 1 ≤ 50
  · right
    rw [ncv_is hv (by omega) h2, Int.toNat_natCast]
    have e3 := cvN_mono (far := far) (far' := far + 1) hk7 hM.zero h0 (by omega)
    omega
  · left
    rw [ncv_no (.inr (by omega))]; omega
theorem apart_facts {n : Int} {ss : List Str} {far : Int} (h : 0 ≤ nap n ss far) : 1 ≤ nap n ss far ∧ nap n ss far ≤ ncv n ss far ∧ nap n ss 0 = n := by
  obtain ⟨hv, h0, h1⟩ := nap_has h
  obtain ⟨k, rfl, hk1, hk7⟩ := vnet_nat hv
  have hM := sht_met (n := k) hv
  rw [ncv_is hv h0 h1, nap_is hv h0 h1, nap_is hv (by omega) (by omega), Int.toNat_natCast]
  have e1 := pk_le_cv (far := far) hk7 hM.symm hM.zero h0
  have e2 := pkB_pos (d := sht k ss) (far := far) hk7 hk1
  have e3 := pkB_zero (d := sht k ss) hk7 hM.pos
  have e4 := pkB_le_n (sht k ss) 0 hk7
  exact ⟨by omega, by omega, by omega⟩
theorem far_facts {n : Int} {ss : List Str} {k : Int} (hv : vnet n ss = true) (h1 : 1 ≤ k) (h4 : k ≤ 4) : ∀ r : Int, 0 ≤ r → r ≤ 50 → (ncv n ss r ≤ k ↔ 0 ≤ nfr n ss k ∧ nfr n ss k ≤ r) := by
  intro r hr0 hr1
  obtain ⟨j, rfl, hj1, hj7⟩ := vnet_nat hv
  obtain ⟨k, rfl⟩ := Int.eq_ofNat_of_zero_le (show 0 ≤ k by omega)
  have hM := sht_met (n := j) hv
  have := nf_cv (k := k) hj7 hM.zero (nfar_is (sht j ss) j (min k j)) hr0
  rw [ncv_is hv hr0 hr1]
  unfold nfr
  rw [if_pos ⟨hv, h1, h4⟩, Int.toNat_natCast, Int.toNat_natCast]
  omega
def nm (n : Int) (ss : List Str) : Nat := if vnet n ss = true then n.toNat else 0
def nL (n : Int) (ss : List Str) : Nat := if vnet n ss = true then n.toNat else 1
theorem rowX_length (X : Nat → Nat → Int) (n j : Nat) : (rowX X n j).length = n := by simp [rowX]
theorem nm_bd (n : Int) (ss : List Str) : nm n ss ≤ 7 ∧ 1 ≤ nL n ss ∧ nL n ss ≤ 7 ∧ ∀ j, j < nm n ss → (rowX (sht n.toNat ss) n.toNat j).length = nL n ss := by
  unfold nm nL
  by_cases h : vnet n ss = true
  · obtain ⟨k, rfl, h1, h7⟩ := vnet_nat h
    rw [if_pos h, if_pos h]
    exact ⟨h7, h1, h7, fun j _ => rowX_length _ _ _⟩
  · rw [if_neg h, if_neg h]
    exact ⟨by omega, by omega, by omega, fun j hj => by omega⟩
/-- What both tables are. -/
def NabUni (w : World) (n : Int) (ss : List Str) (e : Ending) (w' : World) : Prop :=
  ∃ A c VR, e = .returned (.slice A (nm n ss) c) ∧ Outer w' w.heap.size (nm n ss) (.slice A (nm n ss) c) VR ∧ TT w' w.heap.size (nm n ss) VR (rowX (sht n.toNat ss) n.toNat) ∧ Below w.heap.size w w'
theorem nab_uni {w w' : World} {n : Int} {ss : List Str} {e : Ending} (h : NetAns w n ss e w') : NabUni w n ss e w' := by
  unfold NabUni nm
  rcases h with ⟨hv, rfl, hb⟩ | ⟨hv, v, VR, rfl, hO, hT, hb⟩
  · rw [hv]
    simp only [Bool.false_eq_true, if_false]
    exact ⟨none, 0, fun _ => .nilIface, rfl, World.ownsRow_nil _ _ _ _, ⟨fun j hj => by omega, fun i j g hi => by omega⟩, hb⟩
  · rw [if_pos hv]
    obtain ⟨A, c, e, _⟩ := own_sliceN hO
    subst e
    exact ⟨A, c, VR, rfl, hO, hT, hb⟩
theorem nfr_bd (n : Int) (ss : List Str) (k : Int) : -1 ≤ nfr n ss k ∧ nfr n ss k ≤ 54 := by
  unfold nfr
  split
  · rename_i h
    obtain ⟨j, rfl, hj1, hj7⟩ := vnet_nat h.1
    have hM := sht_met (n := j) h.1
    rw [Int.toNat_natCast]
    rcases nfar_is (sht j ss) j (min k.toNat j) with ⟨h1, -⟩ | ⟨h1, ⟨J, hJ, h2⟩, -⟩
    · omega
    · refine ⟨by omega, ?_⟩
      rw [← h2] at h1 ⊢
      rcases rad_cases (sht j ss) J j with ⟨h3, -⟩ | ⟨h3, h4, h5⟩
      · omega
      · rcases h5 with h5 | ⟨v, hv, h5⟩
        · omega
        · rw [← h5]
          exact pkL_high (by omega) (fun x hx => (hM.bd v x hv (hJ.2.1 x hx)).2)
  · omega
end Go.Proofs.Ytiblcmeoneolcaa
