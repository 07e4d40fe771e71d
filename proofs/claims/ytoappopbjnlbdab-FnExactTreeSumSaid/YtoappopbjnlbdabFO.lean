/-
  areFolk: whether each number may be one of people; the search that it makes.
  Conditions: fewer than 2^60 numbers.
-/
import Derived.Test.YtoappopbjnlbdabLR
import Derived.Test.YtoappopbjnlbdabE0
namespace Go.Proofs.Ytoappopbjnlbdab
open Go.ChangeShapes Go.WideShapes Go.ChangeAt Go.RowKit
set_option linter.unusedVariables false
set_option maxRecDepth 4000

def okF (fs : List Int) : Bool := fs.all fun x => decide (0 ≤ x) && decide (x ≤ 20)
theorem okF_iff {fs : List Int} : okF fs = true ↔ ∀ i, i < fs.length → 0 ≤ fs.getD i 0 ∧ fs.getD i 0 ≤ 20 := by
  unfold okF
  rw [List.all_eq_true]
  constructor
  · intro h i hi
    have := h (fs.getD i 0) (by simp [List.getD, List.getElem?_eq_getElem hi])
    simpa using this
  · intro h x hx
    obtain ⟨i, hi, rfl⟩ := List.getElem_of_mem hx
    have := h i hi
    simp only [List.getD, List.getElem?_eq_getElem hi, Option.getD_some] at this
    simpa using this
theorem okF_no {fs : List Int} {k : Nat} {x : Int} (hk : k < fs.length) (hx : fs.getD k 0 = x) (h : x < 0 ∨ 20 < x) : okF fs = false := by
  rw [Bool.eq_false_iff]; intro h'
  have := okF_iff.1 h' k hk
  rw [hx] at this; omega
def FineTo (fs : List Int) (k : Nat) : Prop := ∀ i, i < k → 0 ≤ fs.getD i 0 ∧ fs.getD i 0 ≤ 20
theorem FineTo.step {fs : List Int} {k : Nat} {x : Int} (h : FineTo fs k) (hx : fs.getD k 0 = x) (h1 : 0 ≤ x) (h2 : x ≤ 20) : FineTo fs (k + 1) := fun i hi => by
  by_cases e : i = k
  · rw [e, hx]; exact ⟨h1, h2⟩
  · exact h i (by omega)
theorem FineTo.end_ {fs : List Int} {k : Nat} (h : FineTo fs k) (hk : fs.length ≤ k) : okF fs = true := okF_iff.2 fun i hi => h i (by omega)

theorem folk1_any (x : Int) (w : World) : Calls Try.prog 86 #[.int .i64 x] w fun e w' => e = .returned (.bool (decide (x < 0) || decide (20 < x))) ∧ w = w' := by
  by_cases h1 : x < 0 <;> by_cases h2 : 20 < x
  all_goals
    go_enter Try.func86, Try.ntmps86
    go_wp2
    go_ret
    exact ⟨ret_bool (by simp [h1, h2]), rfl⟩
theorem folk1_yes (x : Int) (w : World) (h : x < 0 ∨ 20 < x) : Calls Try.prog 86 #[.int .i64 x] w fun e w' => e = .returned (.bool true) ∧ w = w' :=
  (folk1_any x w).mono fun _ _ ⟨he, hw⟩ => ⟨by rw [he]; rcases h with h | h <;> simp [h], hw⟩
theorem folk1_no (x : Int) (w : World) (h1 : 0 ≤ x) (h2 : x ≤ 20) : Calls Try.prog 86 #[.int .i64 x] w fun e w' => e = .returned (.bool false) ∧ w = w' :=
  (folk1_any x w).mono fun _ _ ⟨he, hw⟩ => ⟨by rw [he]; simp; omega, hw⟩

def FolkIdx (fs : List Int) (w : World) (e : Ending) (w' : World) : Prop := ∃ r : Int, e = .returned (.int .i64 r) ∧ (okF fs = true → r = -1) ∧ (okF fs = false → 0 ≤ r) ∧ w = w'
set_option maxHeartbeats 800000 in
theorem indexFolk_any (A : Option Addr) (c n : Nat) (fs : List Int) (w : World) (B : Nat) (hr : RdI w B A fs) (hn : fs.length = n) (hb : n ≤ 1152921504606846976) :
    Calls Try.prog 91 #[.slice A n c, .func (.func 86) #[] #[]] w (FolkIdx fs w) := by
  have Hn := Lib.hid hn
  clear hn
  go_enter Try.func91, Try.ntmps91
  go_wp2
  go_loop [8] (fun i => ∃ k : Nat, k ≤ n ∧ i = .int .i64 k ∧ Hid (FineTo fs k)) (fun i => n - (intOf i).toNat)
  case atStart => exact ⟨0, by omega, rfl, fun i hi => by omega⟩
  case round =>
    obtain ⟨k, hk, rfl, Ho⟩ := hrel
    by_cases hlt : k < n
    · obtain ⟨b, off, x, rfl, -, Hx, hcx⟩ := hr.x (k := k) (by rw [Hn.out]; omega)
      by_cases h1 : x < 0 ∨ 20 < x
      · have Hs := Lib.hid (okF_no (by rw [Hn.out]; exact hlt) Hx.out h1)
        have Hf := Lib.hid (folk1_yes x w h1)
        clear h1
        go_wp2_with fail
        refine Hf.out.mono ?_
        rintro e w' ⟨rfl, rfl⟩
        go_wp2
        go_ret
        exact ⟨_, rfl, fun h => absurd (Hs.out.symm.trans h) (by decide), fun _ => by omega, rfl⟩
      · have Hs := Lib.hid (Ho.out.step Hx.out (by omega) (by omega))
        have Hf := Lib.hid (folk1_no x w (by omega) (by omega))
        clear h1
        go_wp2_with fail
        refine Hf.out.mono ?_
        rintro e w' ⟨rfl, rfl⟩
        go_wp2
        go_round
        case rel => exact ⟨k + 1, by omega, by go_num, Hs⟩
        case measure => simp [intOf]; omega
    · have Hs := Lib.hid (Ho.out.end_ (by rw [Hn.out]; omega))
      go_wp2
      go_ret
      exact ⟨_, rfl, fun _ => rfl, fun h => absurd (Hs.out.symm.trans h) (by decide), rfl⟩
theorem containsFolk_any (A : Option Addr) (c n : Nat) (fs : List Int) (w : World) (B : Nat) (hr : RdI w B A fs) (hn : fs.length = n) (hb : n ≤ 1152921504606846976) :
    Calls Try.prog 85 #[.slice A n c, .func (.func 86) #[] #[]] w fun e w' => e = .returned (.bool (!(okF fs))) ∧ w = w' := by
  have H := Lib.hid (indexFolk_any A c n fs w B hr hn hb)
  clear hn hr
  go_enter Try.func85, Try.ntmps85
  go_wp2_with fail
  refine H.out.mono ?_
  rintro e w' ⟨r, rfl, h1, h2, rfl⟩
  by_cases hf : okF fs = true
  · have := h1 hf
    subst this
    have Hf := Lib.hid hf
    clear h1 h2 hf
    go_wp2
    go_ret
    exact ⟨ret_bool (by rw [Hf.out]; rfl), rfl⟩
  · have hf' : okF fs = false := by simpa using hf
    have hr0 := h2 hf'
    have Hf := Lib.hid hf'
    clear h1 h2 hf hf'
    go_wp2
    go_ret
    exact ⟨ret_bool (by rw [Hf.out]; simp), rfl⟩
theorem areFolk_any (A : Option Addr) (c n : Nat) (fs : List Int) (w : World) (B : Nat) (hr : RdI w B A fs) (hn : fs.length = n) (hb : n ≤ 1152921504606846976) :
    Calls Try.prog 74 #[.slice A n c] w fun e w' => e = .returned (.bool (okF fs)) ∧ w = w' := by
  have H := Lib.hid (containsFolk_any A c n fs w B hr hn hb)
  clear hr hn
  go_enter Try.func74, Try.ntmps74
  go_wp2_with fail
  refine H.out.mono ?_
  rintro e w' ⟨rfl, rfl⟩
  go_wp2
  go_ret
  exact ⟨ret_bool (by simp), rfl⟩
end Go.Proofs.Ytoappopbjnlbdab
