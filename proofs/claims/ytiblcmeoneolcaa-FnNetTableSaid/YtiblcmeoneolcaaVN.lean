/-
  ValidNet of the program, walked: the search for a street that is no street of a net.
  Conditions: fewer than 2^60 streets.
-/
import Derived.Test.YtiblcmeoneolcaaNW
import Derived.Test.YtiblcmeoneolcaaCT
namespace Go.Proofs.Ytiblcmeoneolcaa
open Go.ChangeShapes Go.WideShapes Go.ChangeAt Go.RowKit
set_option linter.unusedVariables false
set_option maxRecDepth 4000

def okS (n x y z : Int) : Bool := decide (OkS n (x, y, z))
theorem netBad_any (n x y z : Int) (pb : Nat) (w : World) (hpb : pb < w.heap.size) (hc : w.cell? ⟨pb, 0, none⟩ = some (.int .i64 n)) :
    Calls Try.prog 55 #[.agg #[.int .i64 x, .int .i64 y, .int .i64 z], .pointer (some ⟨pb, 0, none⟩)] w fun e w' => e = .returned (.bool (!(okS n x y z))) ∧ Below w.heap.size w w' := by
  have hc2 : (w.alloc (.cells #[.int .i64 x, .int .i64 y, .int .i64 z] 45)).cell? ⟨pb, 0, none⟩ = some (.int .i64 n) := by rw [World.cell?_alloc_lt w _ _ hpb]; exact hc
  have HBW := Lib.hid ((Below.refl w.heap.size w).alloc (Nat.le_refl _) (.cells #[.int .i64 x, .int .i64 y, .int .i64 z] 45))
  clear hc hpb
  by_cases hx : 0 ≤ x ∧ x < n
  · have H1 := Lib.hid (fun W => validNode_is n x W (b := true) (by simp [hx.1, hx.2]))
    by_cases hy : 0 ≤ y ∧ y < n
    · have H2 := Lib.hid (fun W => validNode_is n y W (b := true) (by simp [hy.1, hy.2]))
      by_cases hz1 : z < 1
      · have hs : okS n x y z = false := decide_eq_false (fun h => by unfold OkS at h; simp only at h; omega)
        rw [hs]
        go_enter Try.func55, Try.ntmps55
        go_wp2_with fail
        refine (H1.out _).mono ?_
        rintro r w' ⟨rfl, rfl⟩
        go_wp2_with fail
        refine (H2.out _).mono ?_
        rintro r w' ⟨rfl, rfl⟩
        go_wp2
        go_ret
        exact ⟨rfl, HBW.out⟩
      · by_cases hz9 : 9 < z
        · have hs : okS n x y z = false := decide_eq_false (fun h => by unfold OkS at h; simp only at h; omega)
          rw [hs]
          go_enter Try.func55, Try.ntmps55
          go_wp2_with fail
          refine (H1.out _).mono ?_
          rintro r w' ⟨rfl, rfl⟩
          go_wp2_with fail
          refine (H2.out _).mono ?_
          rintro r w' ⟨rfl, rfl⟩
          go_wp2
          go_ret
          exact ⟨ret_bool (by simp), HBW.out⟩
        · have hs : okS n x y z = true := decide_eq_true (by unfold OkS; simp only; omega)
          rw [hs]
          go_enter Try.func55, Try.ntmps55
          go_wp2_with fail
          refine (H1.out _).mono ?_
          rintro r w' ⟨rfl, rfl⟩
          go_wp2_with fail
          refine (H2.out _).mono ?_
          rintro r w' ⟨rfl, rfl⟩
          go_wp2
          go_ret
          exact ⟨ret_bool (by simp; omega), HBW.out⟩
    · have H2 := Lib.hid (fun W => validNode_is n y W (b := false) (by simp; omega))
      have hs : okS n x y z = false := decide_eq_false (fun h => by unfold OkS at h; simp only at h; omega)
      rw [hs]
      go_enter Try.func55, Try.ntmps55
      go_wp2_with fail
      refine (H1.out _).mono ?_
      rintro r w' ⟨rfl, rfl⟩
      go_wp2_with fail
      refine (H2.out _).mono ?_
      rintro r w' ⟨rfl, rfl⟩
      go_wp2
      go_ret
      exact ⟨rfl, HBW.out⟩
  · have H1 := Lib.hid (fun W => validNode_is n x W (b := false) (by simp; omega))
    have hs : okS n x y z = false := decide_eq_false (fun h => by unfold OkS at h; simp only at h; omega)
    rw [hs]
    go_enter Try.func55, Try.ntmps55
    go_wp2_with fail
    refine (H1.out _).mono ?_
    rintro r w' ⟨rfl, rfl⟩
    go_wp2
    go_ret
    exact ⟨rfl, HBW.out⟩
theorem netBad_is (n x y z : Int) (pb : Nat) (w : World) (hpb : pb < w.heap.size) (hc : w.cell? ⟨pb, 0, none⟩ = some (.int .i64 n)) {b : Bool} (h : (!(okS n x y z)) = b) :
    Calls Try.prog 55 #[.agg #[.int .i64 x, .int .i64 y, .int .i64 z], .pointer (some ⟨pb, 0, none⟩)] w fun e w' => e = .returned (.bool b) ∧ Below w.heap.size w w' := by
  subst h; exact netBad_any n x y z pb w hpb hc

/-- All are streets of a net. -/
def okAll (n : Int) (ss : List Str) : Bool := decide (∀ p ∈ ss, OkS n p)
theorem okAll_end {n : Int} {ss : List Str} {k : Nat} (h : OkN n ss k) (hk : ss.length ≤ k) : okAll n ss = true := decide_eq_true fun p hp => by
  obtain ⟨i, hi, e⟩ := mem_getD3 hp
  rw [← e]; exact h i (by omega)
theorem okAll_no {n : Int} {ss : List Str} {k : Nat} {x y z : Int} (hk : k < ss.length) (hx : ss.getD k str0 = (x, y, z)) (h : ¬ OkS n (x, y, z)) : okAll n ss = false := decide_eq_false fun h' => h (by rw [← hx]; exact h' _ (getD_mem3 hk))
def NetIdx (n : Int) (ss : List Str) (w : World) (e : Ending) (w' : World) : Prop := ∃ r : Int, e = .returned (.int .i64 r) ∧ (okAll n ss = true → r = -1) ∧ (okAll n ss = false → 0 ≤ r) ∧ Below w.heap.size w w'
set_option maxHeartbeats 800000 in
theorem indexNet_any (n : Int) (A : Option Addr) (c m : Nat) (ss : List Str) (w : World) (B pb : Nat) (hr : RdS w B A ss) (hB : B ≤ w.heap.size) (hm : ss.length = m) (hb : m ≤ 1152921504606846976) (hpb : pb < w.heap.size) (hc : w.cell? ⟨pb, 0, none⟩ = some (.int .i64 n)) :
    Calls Try.prog 83 #[.slice A m c, .func (.func 55) #[] #[.pointer (some ⟨pb, 0, none⟩)]] w (NetIdx n ss w) := by
  have Hm := Lib.hid hm
  clear hm
  go_enter Try.func83, Try.ntmps83
  go_wp2
  go_loopw [8] (fun i wr => ∃ k : Nat, k ≤ m ∧ i = .int .i64 k ∧ Hid (OkN n ss k) ∧ Below w.heap.size w wr) (fun i _ => m - (intOf i).toNat)
  case atStart => exact ⟨0, by omega, rfl, OkN.zero _ _, Below.refl _ _⟩
  case round =>
    obtain ⟨k, hk, rfl, Ho, hnx⟩ := hrel
    have hc2 : wr.cell? ⟨pb, 0, none⟩ = some (.int .i64 n) := (hnx.cell (p := ⟨pb, 0, none⟩) hpb).trans hc
    by_cases hlt : k < m
    · obtain ⟨b, off, x, y, z, rfl, -, Hx, hcx, hcy, hcz⟩ := (hr.below (hnx.mono hB)).x (k := k) (by rw [Hm.out]; omega)
      by_cases h1 : OkS n (x, y, z)
      · have Hs := Lib.hid (Ho.out.step Hx.out h1.1.1 h1.1.2 h1.2.1.1 h1.2.1.2 h1.2.2.1 h1.2.2.2)
        have Hf := Lib.hid (netBad_is n x y z pb wr (Nat.lt_of_lt_of_le hpb hnx.size) hc2 (b := false) (by unfold okS; rw [decide_eq_true h1]; rfl))
        clear h1 hc2
        go_wp2_with fail
        refine Hf.out.mono ?_
        rintro e w' ⟨rfl, hnx2⟩
        go_wp2
        go_roundw
        case rel => exact ⟨k + 1, by omega, by go_num, Hs, hnx.trans (hnx2.mono hnx.size)⟩
        case measure => simp [intOf]; omega
      · have Hs := Lib.hid (okAll_no (by rw [Hm.out]; exact hlt) Hx.out h1)
        have Hf := Lib.hid (netBad_is n x y z pb wr (Nat.lt_of_lt_of_le hpb hnx.size) hc2 (b := true) (by unfold okS; rw [decide_eq_false h1]; rfl))
        clear h1 hc2
        go_wp2_with fail
        refine Hf.out.mono ?_
        rintro e w' ⟨rfl, hnx2⟩
        go_wp2
        go_ret
        exact ⟨_, rfl, fun h => absurd (Hs.out.symm.trans h) (by decide), fun _ => by omega, hnx.trans (hnx2.mono hnx.size)⟩
    · have Hs := Lib.hid (okAll_end Ho.out (by rw [Hm.out]; omega))
      go_wp2
      go_ret
      exact ⟨_, rfl, fun _ => rfl, fun h => absurd (Hs.out.symm.trans h) (by decide), hnx⟩
theorem containsNet_any (n : Int) (A : Option Addr) (c m : Nat) (ss : List Str) (w : World) (B pb : Nat) (hr : RdS w B A ss) (hB : B ≤ w.heap.size) (hm : ss.length = m) (hb : m ≤ 1152921504606846976) (hpb : pb < w.heap.size) (hc : w.cell? ⟨pb, 0, none⟩ = some (.int .i64 n)) :
    Calls Try.prog 54 #[.slice A m c, .func (.func 55) #[] #[.pointer (some ⟨pb, 0, none⟩)]] w fun e w' => e = .returned (.bool (!(okAll n ss))) ∧ Below w.heap.size w w' := by
  have H := Lib.hid (indexNet_any n A c m ss w B pb hr hB hm hb hpb hc)
  clear hm hr hc
  go_enter Try.func54, Try.ntmps54
  go_wp2_with fail
  refine H.out.mono ?_
  rintro e w' ⟨r, rfl, h1, h2, hnx⟩
  by_cases hf : okAll n ss = true
  · have := h1 hf
    subst this
    have Hf := Lib.hid hf
    clear h1 h2 hf
    go_wp2
    go_ret
    exact ⟨ret_bool (by rw [Hf.out]; rfl), hnx⟩
  · have hf' : okAll n ss = false := by simpa using hf
    have hr0 := h2 hf'
    have Hf := Lib.hid hf'
    clear h1 h2 hf hf'
    go_wp2
    go_ret
    exact ⟨ret_bool (by rw [Hf.out]; simp), hnx⟩
theorem vnet_all {n : Int} {ss : List Str} (h1 : 1 ≤ n) (h7 : n ≤ 7) (h12 : ss.length ≤ 12) : vnet n ss = okAll n ss := by
  unfold vnet okAll
  by_cases h : ∀ p ∈ ss, OkS n p
  · rw [decide_eq_true h, decide_eq_true ⟨⟨h1, h7⟩, h12, h⟩]
  · rw [decide_eq_false h, decide_eq_false (fun h' => h h'.2.2)]
set_option maxHeartbeats 800000 in
theorem iValidNet_in (A : Option Addr) (c m : Nat) (n : Int) (ss : List Str) (w : World) (hr : RdS w w.heap.size A ss) (hm : ss.length = m) (hb : m ≤ 1048576) (hwf : (Lit.int .i64 n).wf = true) :
    Calls Try.prog 21 #[.int .i64 n, .slice A m c] w fun e w' => e = .returned (.bool (vnet n ss)) ∧ Below w.heap.size w w' := by
  have hB0 := (Below.refl w.heap.size w).alloc (Nat.le_refl _) (.cells #[.int .i64 n] 3)
  by_cases h1 : n < 1
  · have Hs := Lib.hid (vnet_no_n (ss := ss) (.inl h1))
    have HB0 := Lib.hid hB0
    clear hm hr hB0
    go_enter Try.func21, Try.ntmps21
    go_wp2
    go_ret
    exact ⟨ret_bool Hs.out.symm, HB0.out⟩
  by_cases h7 : 7 < n
  · have Hs := Lib.hid (vnet_no_n (ss := ss) (.inr h7))
    have HB0 := Lib.hid hB0
    clear hm hr hB0
    go_enter Try.func21, Try.ntmps21
    go_wp2
    go_ret
    exact ⟨ret_bool Hs.out.symm, HB0.out⟩
  by_cases h12 : 12 < m
  · have Hs := Lib.hid (vnet_no_len (n := n) (ss := ss) (by omega))
    have HB0 := Lib.hid hB0
    clear hm hr hB0
    go_enter Try.func21, Try.ntmps21
    go_wp2
    go_ret
    exact ⟨ret_bool Hs.out.symm, HB0.out⟩
  have Hs := Lib.hid (vnet_all (n := n) (ss := ss) (by omega) (by omega) (by omega))
  obtain ⟨W, HW⟩ : ∃ W, Hid (w.alloc (.cells #[.int .i64 n] 3) = W) := ⟨_, rfl⟩
  have hsz : W.heap.size = w.heap.size + 1 := by rw [← HW.out]; show (w.heap.push _).size = _; simp
  have hcc : W.cell? ⟨w.heap.size, 0, none⟩ = some (.int .i64 n) := by rw [← HW.out, cell_of_row _ _ _ _ _ _ (heap_alloc_new w _)]; rfl
  have hnx : Below w.heap.size w W := by rw [← HW.out]; exact hB0
  have Hf := Lib.hid (containsNet_any n A c m ss W w.heap.size w.heap.size (hr.below hnx) (by omega) hm (by omega) (by omega) hcc)
  have HB := Lib.hid hnx
  clear hm hr hB0 hcc hnx hsz
  go_enter Try.func21, Try.ntmps21
  go_wp2_with fail
  rw [HW.out]
  refine Hf.out.mono ?_
  rintro e w' ⟨rfl, hnx2⟩
  go_wp2
  go_ret
  exact ⟨ret_bool (by rw [Hs.out]), HB.out.trans (hnx2.mono HB.out.size)⟩
theorem iValidNet_ok : IBool 21 := fun A c m n ss w h => iValidNet_in A c m n ss w h.rd h.len h.most h.wf
theorem iValidNet_is (A : Option Addr) (c m : Nat) (n : Int) (ss : List Str) (w : World) (h : NetIn w A c m n ss) {b : Bool} (hv : vnet n ss = b) :
    Calls Try.prog 21 #[.int .i64 n, .slice A m c] w fun e w' => e = .returned (.bool b) ∧ Below w.heap.size w w' := by
  subst hv; exact iValidNet_ok A c m n ss w h
end Go.Proofs.Ytiblcmeoneolcaa
