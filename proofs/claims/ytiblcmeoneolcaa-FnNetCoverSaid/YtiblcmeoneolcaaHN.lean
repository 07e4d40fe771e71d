/-
  hasAllNear of the program, walked: whether each node's near ones meet a set.
  Conditions: at most seven nodes, sets below 128.
-/
import Derived.Test.YtiblcmeoneolcaaNS
import Derived.Test.YtiblcmeoneolcaaQ4
import Derived.Test.YtiblcmeoneolcaaS1
namespace Go.Proofs.Ytiblcmeoneolcaa
open Go.ChangeShapes Go.WideShapes Go.ChangeAt Go.RowKit
set_option linter.unusedVariables false
set_option maxRecDepth 4000

theorem ones_bc : ∀ s : Fin 128, (bitsOf s.val).length = bc 7 s.val := by decide +kernel
/-- Each of the first n sets meets S. -/
def hits (N : Nat → Nat) (S n : Nat) : Bool := (List.range n).all fun i => !decide (N i &&& S = 0)
theorem hits_iff {N : Nat → Nat} {S n : Nat} : hits N S n = true ↔ ∀ v, v < n → ¬ N v &&& S = 0 := by
  unfold hits
  rw [List.all_eq_true]
  simp only [List.mem_range, Bool.not_eq_true', decide_eq_false_iff_not]
theorem hits_no {N : Nat → Nat} {S n v : Nat} (hv : v < n) (h : N v &&& S = 0) : hits N S n = false := by
  rw [Bool.eq_false_iff]
  intro h2
  exact hits_iff.1 h2 v hv h
theorem nmk_iff {d : Nat → Nat → Int} {far : Int} {n : Nat} (hb : ∀ a b, a < n → b < n → -1 ≤ d a b) {i : Nat} (hi : i < n) (v : Nat) : (nmk d far i n).testBit v = true ↔ v < n ∧ 0 ≤ d i v ∧ d i v ≤ far := by
  rw [nmk_bit]
  constructor
  · rintro ⟨h1, h2, h3⟩
    have := hb i v hi h1
    exact ⟨h1, by omega, h3⟩
  · rintro ⟨h1, h2, h3⟩
    exact ⟨h1, by omega, h3⟩
/-- A cover is a set that each node's near ones meet. -/
theorem cover_hits {d : Nat → Nat → Int} {far : Int} {n S : Nat} (hb : ∀ a b, a < n → b < n → -1 ≤ d a b) : cvF d far S n n = hits (fun i => nmk d far i n) S n := by
  rw [Bool.eq_iff_iff, hits_iff, cover_iff (N := fun i => nmk d far i n) (fun i hi v => nmk_iff hb hi v)]

theorem miss_is (x S pb : Nat) (w : World) (hx : x < 128) (hS : S < 128) (hc : w.cell? ⟨pb, 0, none⟩ = some (.int .u64 S)) {b : Bool} (h : decide (x &&& S = 0) = b) :
    Calls Try.prog 87 #[.int .u64 x, .pointer (some ⟨pb, 0, none⟩)] w fun e w' => e = .returned (.bool b) ∧ ∃ q, w' = w.drewN q := by
  have ha := and2_u64 ⟨x, hx⟩ ⟨S, hS⟩
  simp only at ha
  obtain ⟨y, Hy⟩ : ∃ y, Hid (x &&& S = y) := ⟨_, rfl⟩
  rw [Hy.out] at ha h
  have hb : (((y : Nat) : Int) == 0) = b := by
    rw [← h]
    by_cases e : y = 0
    · subst e; rfl
    · rw [decide_eq_false e, beq_eq_false_iff_ne]; omega
  clear h
  go_enter Try.func87, Try.ntmps87
  go_wp2
  go_ret
  exact ⟨rfl, 0, rfl⟩
def HitIdx (N : Nat → Nat) (S n : Nat) (w : World) (e : Ending) (w' : World) : Prop := ∃ r : Int, e = .returned (.int .i64 r) ∧ (hits N S n = true → r = -1) ∧ (hits N S n = false → 0 ≤ r) ∧ Below w.heap.size w w'
set_option maxHeartbeats 800000 in
theorem indexHit_any (N : Nat → Nat) (A : Option Addr) (c n S pb : Nat) (w : World) (hN : ∀ i, N i < 128) (hS : S < 128) (h7 : n ≤ 7) (hpb : pb < w.heap.size) (hr : ∀ w', Below w.heap.size w w' → RdU w' A N 0 n) (hc : w.cell? ⟨pb, 0, none⟩ = some (.int .u64 S)) :
    Calls Try.prog 93 #[.slice A n c, .func (.func 87) #[] #[.pointer (some ⟨pb, 0, none⟩)]] w (HitIdx N S n w) := by
  have HR := Lib.hid hr
  clear hr
  go_enter Try.func93, Try.ntmps93
  go_wp2
  go_loopw [8] (fun i wr => ∃ k : Nat, k ≤ n ∧ i = .int .i64 k ∧ Hid (∀ v, v < k → ¬ N v &&& S = 0) ∧ Below w.heap.size w wr) (fun i _ => n - (intOf i).toNat)
  case atStart => exact ⟨0, by omega, rfl, fun v hv => by omega, Below.refl _ _⟩
  case round =>
    obtain ⟨k, hk, rfl, Ho, hnx⟩ := hrel
    have hc2 : wr.cell? ⟨pb, 0, none⟩ = some (.int .u64 S) := (hnx.cell (p := ⟨pb, 0, none⟩) hpb).trans hc
    by_cases hlt : k < n
    · obtain ⟨b, off, rfl, hcell⟩ := HR.out wr hnx (by omega)
      have hx := hcell k hlt
      rw [Nat.zero_add] at hx
      have hN128 := hN k
      by_cases h1 : N k &&& S = 0
      · have Hs := Lib.hid (hits_no hlt h1)
        have Hf := Lib.hid (miss_is (N k) S pb wr hN128 hS hc2 (b := true) (decide_eq_true h1))
        clear h1 hc2 hcell
        go_wp2_with fail
        refine Hf.out.mono ?_
        rintro e w' ⟨rfl, q, rfl⟩
        go_wp2
        go_ret
        exact ⟨_, rfl, fun h => absurd (Hs.out.symm.trans h) (by decide), fun _ => by omega, below_drewN hnx q⟩
      · have Hs : Hid (∀ v, v < k + 1 → ¬ N v &&& S = 0) := fun v hv => by
          by_cases e : v = k
          · subst e; exact h1
          · exact Ho.out v (by omega)
        have Hf := Lib.hid (miss_is (N k) S pb wr hN128 hS hc2 (b := false) (decide_eq_false h1))
        clear h1 hc2 hcell
        go_wp2_with fail
        refine Hf.out.mono ?_
        rintro e w' ⟨rfl, q, rfl⟩
        go_wp2
        go_roundw
        case rel => exact ⟨k + 1, by omega, by go_num, Hs, below_drewN hnx q⟩
        case measure => simp [intOf]; omega
    · obtain rfl : k = n := by omega
      have Hs := Lib.hid (hits_iff.2 Ho.out)
      go_wp2
      go_ret
      exact ⟨_, rfl, fun _ => rfl, fun h => absurd (Hs.out.symm.trans h) (by decide), hnx⟩
theorem containsHit_any (N : Nat → Nat) (A : Option Addr) (c n S pb : Nat) (w : World) (hN : ∀ i, N i < 128) (hS : S < 128) (h7 : n ≤ 7) (hpb : pb < w.heap.size) (hr : ∀ w', Below w.heap.size w w' → RdU w' A N 0 n) (hc : w.cell? ⟨pb, 0, none⟩ = some (.int .u64 S)) :
    Calls Try.prog 86 #[.slice A n c, .func (.func 87) #[] #[.pointer (some ⟨pb, 0, none⟩)]] w fun e w' => e = .returned (.bool (!(hits N S n))) ∧ Below w.heap.size w w' := by
  have H := Lib.hid (indexHit_any N A c n S pb w hN hS h7 hpb hr hc)
  clear hr hc
  go_enter Try.func86, Try.ntmps86
  go_wp2_with fail
  refine H.out.mono ?_
  rintro e w' ⟨r, rfl, h1, h2, hnx⟩
  by_cases hf : hits N S n = true
  · have := h1 hf
    subst this
    have Hf := Lib.hid hf
    clear h1 h2 hf
    go_wp2
    go_ret
    exact ⟨ret_bool (by rw [Hf.out]; rfl), hnx⟩
  · have hf' : hits N S n = false := by simpa using hf
    have hr0 := h2 hf'
    have Hf := Lib.hid hf'
    clear h1 h2 hf hf'
    go_wp2
    go_ret
    exact ⟨ret_bool (by rw [Hf.out]; simp), hnx⟩
theorem hasAll_any (N : Nat → Nat) (A : Option Addr) (c n S : Nat) (w : World) (hN : ∀ i, N i < 128) (hS : S < 128) (h7 : n ≤ 7) (hr : ∀ w', Below w.heap.size w w' → RdU w' A N 0 n) :
    Calls Try.prog 69 #[.slice A n c, .int .u64 S] w fun e w' => e = .returned (.bool (hits N S n)) ∧ Below w.heap.size w w' := by
  have hb0 := (Below.refl w.heap.size w).alloc (Nat.le_refl _) (.cells #[.int .u64 S] 65)
  obtain ⟨W, HW⟩ : ∃ W, Hid (w.alloc (.cells #[.int .u64 S] 65) = W) := ⟨_, rfl⟩
  have hsz : W.heap.size = w.heap.size + 1 := by rw [← HW.out]; exact size_alloc1 _ _
  have hcc : W.cell? ⟨w.heap.size, 0, none⟩ = some (.int .u64 S) := by rw [← HW.out, cell_of_row _ _ _ _ _ _ (heap_alloc_new w _)]; rfl
  rw [HW.out] at hb0
  have Hf := Lib.hid (containsHit_any N A c n S w.heap.size W hN hS h7 (by omega) (fun w' h => hr w' (hb0.trans (h.mono (by omega)))) hcc)
  have HB := Lib.hid hb0
  clear hr hb0 hcc hsz
  go_enter Try.func69, Try.ntmps69
  go_wp2_with fail
  rw [HW.out]
  refine Hf.out.mono ?_
  rintro e w' ⟨rfl, hnx2⟩
  go_wp2
  go_ret
  exact ⟨ret_bool (by simp), HB.out.trans (hnx2.mono HB.out.size)⟩
end Go.Proofs.Ytiblcmeoneolcaa
