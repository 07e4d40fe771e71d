/-
  Nets: what their tables of shortest ways have; trees as nets.
  Conditions: as each theorem states.
-/
import Derived.Test.YtiblcmeoneolcaaB2
import Derived.Test.YtiblcmeoneolcaaQ2
import Derived.Test.YtiblcmeoneolcaaR1
namespace Go.Proofs.Ytiblcmeoneolcaa
open Go.ChangeShapes Go.WideShapes Go.ChangeAt Go.RowKit
set_option linter.unusedVariables false

theorem wk_pos {E : Nat → Nat → Int → Prop} {n a b : Nat} {x : Int} (hE : ∀ u v L, E u v L → 1 ≤ L) (h : Wk E n a b x) : (x = 0 ∧ a = b) ∨ 1 ≤ x := by
  induction h with
  | nil ha => exact .inl ⟨rfl, rfl⟩
  | snoc u v x L h1 h2 h3 ih =>
    have := hE u v L h2
    right
    omega
theorem Wk.mono {E E' : Nat → Nat → Int → Prop} {n a b : Nat} {x : Int} (hE : ∀ u v L, E u v L → E' u v L) (h : Wk E n a b x) : Wk E' n a b x := by
  induction h with
  | nil ha => exact Wk.nil ha
  | snoc u v x L h1 h2 h3 ih => exact Wk.snoc u v x L ih (hE u v L h2) h3
theorem sht_met {n : Nat} {ss : List Str} (hv : vnet n ss = true) : Met (sht n ss) n := by
  obtain ⟨h1, h2⟩ := sht_spec hv
  refine ⟨h1.zero, fun a b ha hb => h1.symm (fun u v L h => h.symm) ha hb, fun a b ha hb hne => ?_, fun a b c ha hb hc h3 h4 => h1.tri ha hb hc h3 h4, h2⟩
  rcases h1.way a b ha hb with h | ⟨h, hw⟩
  · omega
  · rcases wk_pos (fun u v L h => (SE.pos hv h).1) hw with ⟨_, e⟩ | h5
    · exact absurd e hne
    · omega

/-- A tree's roads as streets. -/
def strOf (ts : List (Int × Int)) : List Str := (List.range (ts.length - 1)).map fun i => (((i + 1 : Nat) : Int), (ts.getD (i + 1) (-1, 0)).1, (ts.getD (i + 1) (-1, 0)).2)
theorem strOf_len (ts : List (Int × Int)) : (strOf ts).length = ts.length - 1 := by simp [strOf]
theorem strOf_mem {ts : List (Int × Int)} {p : Str} : p ∈ strOf ts ↔ ∃ i, 1 ≤ i ∧ i < ts.length ∧ p = ((i : Int), (ts.getD i (-1, 0)).1, (ts.getD i (-1, 0)).2) := by
  unfold strOf
  rw [List.mem_map]
  constructor
  · rintro ⟨i, hi, rfl⟩
    have := List.mem_range.1 hi
    exact ⟨i + 1, by omega, by omega, rfl⟩
  · rintro ⟨i, h1, h2, rfl⟩
    obtain ⟨j, rfl⟩ : ∃ j, i = j + 1 := ⟨i - 1, by omega⟩
    exact ⟨j, List.mem_range.2 (by omega), rfl⟩
theorem strOf_step {ts : List (Int × Int)} {k : Nat} (hk : 1 ≤ k) (hl : k < ts.length) : strOf (ts.take (k + 1)) = strOf (ts.take k) ++ [((k : Int), (ts.getD k (-1, 0)).1, (ts.getD k (-1, 0)).2)] := by
  have g : ∀ m i, i < m → (ts.take m).getD i (-1, 0) = ts.getD i (-1, 0) := fun m i hi => by
    simp only [List.getD, List.getElem?_take]; rw [if_pos hi]
  unfold strOf
  rw [List.length_take, List.length_take, show min (k + 1) ts.length - 1 = (k - 1) + 1 by omega, show min k ts.length - 1 = k - 1 by omega, List.range_succ, List.map_append]
  congr 1
  · apply List.map_congr_left
    intro i hi
    have := List.mem_range.1 hi
    rw [g _ _ (by omega), g _ _ (by omega)]
  · simp only [List.map_cons, List.map_nil]
    rw [show k - 1 + 1 = k by omega, g _ _ (by omega)]
theorem strOf_net {ts : List (Int × Int)} (hv : vt ts = true) : vnet ts.length (strOf ts) = true := by
  obtain ⟨h1, h7, h3, h4, h5⟩ := (vt_iff ts).1 hv
  refine (vnet_iff _ _).2 ⟨by omega, by rw [strOf_len]; omega, fun p hp => ?_⟩
  obtain ⟨i, hi, hl, rfl⟩ := strOf_mem.1 hp
  have := h5 i hi hl
  simp only [okRoad, Bool.and_eq_true, decide_eq_true_eq] at this
  unfold OkS
  simp only
  omega
theorem strOf_edge {ts : List (Int × Int)} (hv : vt ts = true) {u v : Nat} {L : Int} : SE (strOf ts) u v L ↔ TE ts ts.length u v L := by
  constructor
  · rintro ⟨p, hp, rfl, h⟩
    obtain ⟨i, hi, hl, rfl⟩ := strOf_mem.1 hp
    have ht := vt_to hv hi hl
    refine ⟨i, hi, hl, rfl, ?_⟩
    simp only at h
    rcases h with ⟨h1, h2⟩ | ⟨h1, h2⟩
    · right; omega
    · left; omega
  · rintro ⟨i, hi, hl, rfl, h⟩
    have ht := vt_to hv hi hl
    refine ⟨_, strOf_mem.2 ⟨i, hi, hl, rfl⟩, rfl, ?_⟩
    simp only
    rcases h with ⟨h1, h2⟩ | ⟨h1, h2⟩
    · right; omega
    · left; omega
/-- The table of a tree is that of its roads as streets. -/
theorem strOf_dn {ts : List (Int × Int)} (hv : vt ts = true) {a b : Nat} (ha : a < ts.length) (hb : b < ts.length) : sht ts.length (strOf ts) a b = dn ts ts.length a b := by
  have h := dn_short (vt_ahead hv) (Nat.le_refl ts.length)
  have hS : Short (SE (strOf ts)) ts.length (dn ts ts.length) := by
    refine ⟨h.zero, fun a u v L ha he hv' h0 => h.step a u v L ha ((strOf_edge hv).1 he) hv' h0, fun a b ha hb => ?_⟩
    rcases h.way a b ha hb with h1 | ⟨h1, h2⟩
    · exact .inl h1
    · exact .inr ⟨h1, h2.mono fun u v L h => (strOf_edge hv).2 h⟩
  exact (sht_is (strOf_net hv) hS ha hb).symm
/-- Answers depend on the table below n alone. -/
theorem fnB_congr {d d' : Nat → Nat → Int} {far : Int} {s n : Nat} (h : ∀ a b, a < n → b < n → d a b = d' a b) : ∀ m, m ≤ n → fnB d far s n m = fnB d' far s n m
  | 0, _ => rfl
  | m + 1, hm => by
    have hn : ∀ k, k ≤ n → nrB d far s m k = nrB d' far s m k := by
      intro k
      induction k with
      | zero => intro _; rfl
      | succ k ih => intro hk; simp only [nrB]; rw [ih (by omega), h m k (by omega) (by omega)]
    simp only [fnB]
    rw [fnB_congr h m (by omega), hn n (Nat.le_refl _)]
theorem pkB_congr {d d' : Nat → Nat → Int} {far : Int} {n : Nat} (h : ∀ a b, a < n → b < n → d a b = d' a b) : ∀ S, pkB d far n S = pkB d' far n S
  | 0 => rfl
  | S + 1 => by simp only [pkB]; rw [fnB_congr h n (Nat.le_refl _), pkB_congr h S]
theorem cvF_congr {d d' : Nat → Nat → Int} {far : Int} {s n : Nat} (h : ∀ a b, a < n → b < n → d a b = d' a b) : ∀ m, m ≤ n → cvF d far s n m = cvF d' far s n m
  | 0, _ => rfl
  | m + 1, hm => by
    have hn : ∀ k, k ≤ n → nbB d far s m k = nbB d' far s m k := by
      intro k
      induction k with
      | zero => intro _; rfl
      | succ k ih => intro hk; simp only [nbB]; rw [ih (by omega), h m k (by omega) (by omega)]
    simp only [cvF]
    rw [cvF_congr h m (by omega), hn n (Nat.le_refl _)]
theorem cvN_congr {d d' : Nat → Nat → Int} {far : Int} {n : Nat} (h : ∀ a b, a < n → b < n → d a b = d' a b) : ∀ S, cvN d far n S = cvN d' far n S
  | 0 => rfl
  | S + 1 => by simp only [cvN]; rw [cvF_congr h n (Nat.le_refl _), cvN_congr h S]
end Go.Proofs.Ytiblcmeoneolcaa
