/-
  ValidShops of the program; shops as a function is given them; the answers of chapter 10 and the contracts.
  Conditions: fewer than 2^20 numbers.
-/
import Derived.Test.Ythphboeboiallaa0D
import Derived.Test.Ythphboeboiallaa0U
namespace Go.Proofs.Ythphboeboiallaa
open Go.ChangeShapes Go.WideShapes Go.ChangeAt Go.RowKit
set_option linter.unusedVariables false
set_option maxRecDepth 4000

/-- Ints as places. -/
def toQ (zs : List Int) : List Nat := zs.map Int.toNat
theorem toQ_cI : ∀ ss : List Nat, toQ (cI ss) = ss
  | [] => rfl
  | s :: r => by have := toQ_cI r; simp only [toQ, cI, List.map_cons] at this ⊢; rw [this]; simp
/-- The answers. -/
def shQ (n : Int) (zs : List Int) : List Int := if vsh n zs = true then cI (shL n.toNat (toQ zs)) else []
def bpQ (n : Int) (zs : List Int) : Int := if vsh n zs = true ∧ zs.length < 4 then ((bpS n.toNat (toQ zs) : Nat) : Int) else -1
def rtQ (n : Int) (zs : List Int) : Bool := vsh n zs && (decide (2 ≤ zs.length) && rstS n.toNat (toQ zs))
def okR (n k : Int) : Bool := decide (1 ≤ n) && decide (n ≤ 9) && (decide (2 ≤ k) && decide (k ≤ 4))
def rsQ (n k : Int) : List (List Nat) := if okR n k = true then rsS n.toNat k.toNat else []
theorem shQ_yes {n : Nat} {ss : List Nat} (h : Sh n ss) : shQ (n : Int) (cI ss) = cI (shL n ss) := by unfold shQ; rw [if_pos h.vsh, toQ_cI, Int.toNat_natCast]
theorem shQ_no {n : Int} {zs : List Int} (h : vsh n zs = false) : shQ n zs = [] := by unfold shQ; rw [if_neg (by simp [h])]
theorem bpQ_yes {n : Nat} {ss : List Nat} (h : Sh n ss) (h4 : ss.length < 4) : bpQ (n : Int) (cI ss) = ((bpS n ss : Nat) : Int) := by unfold bpQ; rw [if_pos ⟨h.vsh, by rw [cI_length]; exact h4⟩, toQ_cI, Int.toNat_natCast]
theorem bpQ_no {n : Int} {zs : List Int} (h : vsh n zs = false ∨ 4 ≤ zs.length) : bpQ n zs = -1 := by
  unfold bpQ
  rw [if_neg]
  rintro ⟨h1, h2⟩
  rcases h with h | h
  · rw [h1] at h; cases h
  · omega
theorem rtQ_yes {n : Nat} {ss : List Nat} (h : Sh n ss) (h2 : 2 ≤ ss.length) : rtQ (n : Int) (cI ss) = rstS n ss := by unfold rtQ; rw [h.vsh, toQ_cI, Int.toNat_natCast, cI_length]; simp [h2]
theorem rtQ_no {n : Int} {zs : List Int} (h : vsh n zs = false ∨ zs.length < 2) : rtQ n zs = false := by
  unfold rtQ
  rcases h with h | h
  · simp [h]
  · simp [show ¬ 2 ≤ zs.length by omega]
theorem rsQ_yes {n k : Nat} (h1 : 1 ≤ n) (h9 : n ≤ 9) (h2 : 2 ≤ k) (h4 : k ≤ 4) : rsQ n k = rsS n k := by
  unfold rsQ okR
  rw [if_pos (by simp; omega)]; rfl
theorem okR_get {n k : Int} (h : okR n k = true) : ∃ N K : Nat, n = N ∧ k = K ∧ 1 ≤ N ∧ N ≤ 9 ∧ 2 ≤ K ∧ K ≤ 4 := by
  simp only [okR, Bool.and_eq_true, decide_eq_true_eq] at h
  exact ⟨n.toNat, k.toNat, by omega, by omega, by omega, by omega, by omega, by omega⟩
theorem okR_of {n k : Nat} (h1 : 1 ≤ n) (h9 : n ≤ 9) (h2 : 2 ≤ k) (h4 : k ≤ 4) : okR n k = true := by simp [okR]; omega
theorem rsQ_no {n k : Int} (h : okR n k = false) : rsQ n k = [] := by unfold rsQ; rw [if_neg (by simp [h])]
/-- The contracts. -/
def QBool (F : Nat) (ans : Int → List Int → Bool) : Prop := ∀ (n : Int) (A : Option Addr) (c m : Nat) (zs : List Int) (w : World), PIn w A c m zs →
  Calls Try.prog F #[.int .i64 n, .slice A m c] w fun e w' => e = .returned (.bool (ans n zs)) ∧ Below w.heap.size w w'
def QNum (F : Nat) (ans : Int → List Int → Int) : Prop := ∀ (n : Int) (A : Option Addr) (c m : Nat) (zs : List Int) (w : World), PIn w A c m zs →
  Calls Try.prog F #[.int .i64 n, .slice A m c] w fun e w' => e = .returned (.int .i64 (ans n zs)) ∧ Below w.heap.size w w'
def QRow (F : Nat) (ans : Int → List Int → List Int) : Prop := ∀ (n : Int) (A : Option Addr) (c m : Nat) (zs : List Int) (w : World), PIn w A c m zs →
  Calls Try.prog F #[.int .i64 n, .slice A m c] w (RowQ (ans n zs) w)

theorem validStreet_any (n : Int) (w : World) : Calls Try.prog 47 #[.int .i64 n] w fun e w' => e = .returned (.bool (decide (1 ≤ n) && decide (n ≤ 9))) ∧ w = w' := by
  by_cases h1 : 1 ≤ n <;> by_cases h2 : n ≤ 9
  all_goals
    go_enter Try.func47, Try.ntmps47
    go_wp2
    go_ret
    exact ⟨ret_bool (by simp [h1, h2]), rfl⟩
theorem iValidShops_any (n : Int) (A : Option Addr) (c m : Nat) (zs : List Int) (w : World) (h : PIn w A c m zs) :
    Calls Try.prog 16 #[.int .i64 n, .slice A m c] w fun e w' => e = .returned (.bool (vsh n zs)) ∧ w = w' := by
  have hm := h.most
  have hl := h.len
  have HS := Lib.hid (validStreet_any n w)
  by_cases hn : 1 ≤ n ∧ n ≤ 9
  · have hv : (decide (1 ≤ n) && decide (n ≤ 9)) = true := by simp [hn.1, hn.2]
    rw [hv] at HS
    have hn1 := hn.1
    have hn9 := hn.2
    by_cases h1 : 1 ≤ m
    · by_cases h4 : m ≤ 4
      · have H := Lib.hid (inOrder_any A c m zs (n - 1) w _ h.rd h.len (by omega))
        have hs : vsh n zs = okUp (n - 1) 0 zs := by unfold vsh; rw [hv, hl]; simp [h1, h4]
        have hw : IntKind.i64.wrap (n - 1) = n - 1 := IntWalk.i64_in _ (by omega)
        rw [hs]
        clear h hl hm hv hn
        go_enter Try.func16, Try.ntmps16
        go_wp2_with fail
        refine HS.out.mono ?_
        rintro e w' ⟨rfl, rfl⟩
        go_wp2_with fail
        refine H.out.mono ?_
        rintro e w' ⟨rfl, rfl⟩
        go_wp2
        go_ret
        exact ⟨ret_bool (by simp), rfl⟩
      · have hs : vsh n zs = false := by unfold vsh; rw [hl]; simp [h4]
        rw [hs]
        clear h hl hm hv hn
        go_enter Try.func16, Try.ntmps16
        go_wp2_with fail
        refine HS.out.mono ?_
        rintro e w' ⟨rfl, rfl⟩
        go_wp2
        go_ret
        exact ⟨ret_bool rfl, rfl⟩
    · have hs : vsh n zs = false := by unfold vsh; rw [hl]; simp [h1]
      rw [hs]
      clear h hl hm hv hn
      go_enter Try.func16, Try.ntmps16
      go_wp2_with fail
      refine HS.out.mono ?_
      rintro e w' ⟨rfl, rfl⟩
      go_wp2
      go_ret
      exact ⟨ret_bool rfl, rfl⟩
  · have hv : (decide (1 ≤ n) && decide (n ≤ 9)) = false := by simp; omega
    have hs : vsh n zs = false := by unfold vsh; rw [hv]; rfl
    rw [hv] at HS
    rw [hs]
    clear h hl hm hv hn hs
    go_enter Try.func16, Try.ntmps16
    go_wp2_with fail
    refine HS.out.mono ?_
    rintro e w' ⟨rfl, rfl⟩
    go_wp2
    go_ret
    exact ⟨ret_bool rfl, rfl⟩
theorem iValidShops_ok : QBool 16 vsh := fun n A c m zs w h => (iValidShops_any n A c m zs w h).mono fun _ _ ⟨he, hw⟩ => ⟨he, hw ▸ Below.refl _ _⟩
end Go.Proofs.Ythphboeboiallaa
