/-
  How many homes a watch of the program reaches, walked.
  Conditions: homes and spots within the document's limits.
-/
import Derived.Test.Ythphboeboiallab1W
import Derived.Test.YthphboeboiallabIA
namespace Go.Proofs.Ythphboeboiallab
open Go.ChangeShapes Go.WideShapes Go.ChangeAt Go.RowKit
set_option linter.unusedVariables false
set_option maxRecDepth 4000

theorem tm_le4 {U D k b : Nat} (hD : D ≤ 10) (hk : k ≤ 4) : tmB U D k b ≤ 10000 := Nat.le_trans tmB_le (pow_le4 hD hk)
theorem closQ_any (pb U D b k n c c' : Nat) (far : Int) (A A' : Option Addr) (ty : Nat) (w : World) (h : w.heap[pb]? = some (.cells (wtC (U : Int) (D : Int) A n c far A' k c') ty (0, 0))) (hU : U ≤ D) (hD : D ≤ 10) (hk : k ≤ 4) (hb : b ≤ k) :
    Calls Try.prog 71 #[.int .i64 (b : Int), .pointer (some ⟨pb, 0, none⟩)] w fun e w' => e = .returned (.int .i64 ((tmB U D k b : Nat) : Int)) ∧ Below w.heap.size w w' := by
  have H := Lib.hid (icasesFree_any U D b k w hU hD hk hb)
  obtain ⟨a0, a1, a2, a3, a4⟩ := wtC_cells h
  clear h
  go_enter Try.func71, Try.ntmps71
  go_wp2_with fail
  refine H.out.mono ?_
  rintro e w' ⟨rfl, hb'⟩
  go_wp2
  go_ret
  exact ⟨rfl, hb'⟩
/-- What the first homes have. -/
def smQ (U D k : Nat) (far : Int) (zs ss : List Int) (i : Nat) : Nat := bzS (fun j => tmB U D k (nbB (nrF far) ss (zs.getD j 0))) i
theorem smQ_le (U D k : Nat) (far : Int) (zs ss : List Int) (hD : D ≤ 10) (hk : k ≤ 4) : ∀ i, smQ U D k far zs ss i ≤ 10000 * i
  | 0 => by simp [smQ, bzS]
  | i + 1 => by
    have h1 := smQ_le U D k far zs ss hD hk i
    have h2 := tm_le4 (U := U) (b := nbB (nrF far) ss (zs.getD i 0)) hD hk
    show bzS _ i + tmB U D k (nbB (nrF far) ss (zs.getD i 0)) ≤ _
    unfold smQ at h1
    omega
theorem bzS_cons (f : Nat → Nat) : ∀ n, bzS f (n + 1) = f 0 + bzS (fun j => f (j + 1)) n
  | 0 => by simp [bzS]
  | n + 1 => by
    have h := bzS_cons f n
    show bzS f (n + 1) + f (n + 1) = f 0 + (bzS (fun j => f (j + 1)) n + f (n + 1))
    omega
theorem smQ_all (U D k : Nat) (far : Int) : ∀ (zs ss : List Int), smQ U D k far zs ss zs.length = wB (nrF far) U D k zs ss
  | [], ss => rfl
  | x :: r, ss => by
    have h := smQ_all U D k far r ss
    unfold smQ at h ⊢
    rw [List.length_cons, bzS_cons]
    simp only [List.getD_cons_zero, List.getD_cons_succ]
    rw [h]
    unfold wB
    rw [List.map_cons, List.sum_cons]
def SmR (U D k n : Nat) (far : Int) (zs ss : List Int) (w : World) (s i : Value) (wr : World) : Prop :=
  ∃ j x : Nat, j ≤ n ∧ s = .int .i64 (x : Int) ∧ i = .int .i64 (j : Int) ∧ Hid (smQ U D k far zs ss j = x) ∧ Hid (Below w.heap.size w wr)
set_option maxHeartbeats 1600000 in
theorem sumQ_any (pb U D k n c c' n0 c0 ty : Nat) (far : Int) (A A' A0 : Option Addr) (zs ss : List Int) (w : World) (h : w.heap[pb]? = some (.cells (wtC (U : Int) (D : Int) A0 n0 c0 far A' k c') ty (0, 0))) (hU : U ≤ D) (hD : D ≤ 10) (hk : k ≤ 4) (hl : ss.length = k)
    (hz : zs.length = n) (hn : n ≤ 10) (hr : RdI w w.heap.size A (bkL far zs ss)) :
    Calls Try.prog 70 #[.slice A n c, .func (.func 71) #[] #[.pointer (some ⟨pb, 0, none⟩)]] w fun e w' => e = .returned (.int .i64 ((wB (nrF far) U D k zs ss : Nat) : Int)) ∧ Below w.heap.size w w' := by
  have HB0 := Lib.hid (fun i => smQ_le U D k far zs ss hD hk i)
  have HA := Lib.hid (smQ_all U D k far zs ss)
  have Hz := Lib.hid hz
  rw [Hz.out] at HA
  obtain ⟨X, HX⟩ : ∃ X, Hid (wB (nrF far) U D k zs ss = X) := ⟨_, rfl⟩
  rw [HX.out] at HA ⊢
  have Hr := Lib.hid hr
  have HC : Hid (∀ (b : Nat) (W : World), Below w.heap.size w W → b ≤ k → Calls Try.prog 71 #[.int .i64 (b : Int), .pointer (some ⟨pb, 0, none⟩)] W fun e w' => e = .returned (.int .i64 ((tmB U D k b : Nat) : Int)) ∧ Below W.heap.size W w') :=
    fun b W hW hb => closQ_any pb U D b k n0 c0 c' far A0 A' ty W ((hW.block _ (row_lt h)).trans h) hU hD hk hb
  have Hnb := Lib.hid (fun x => nbB_le (nrF far) ss x)
  have Hl := Lib.hid hl
  have Htm := Lib.hid (fun b => tm_le4 (U := U) (b := b) hD hk)
  clear h hr hz hl HX
  go_enter Try.func70, Try.ntmps70
  go_wp2
  go_loopw [5, 10] (fun s i wr => SmR U D k n far zs ss w s i wr) (fun _ i _ => n - (intOf i).toNat)
  case atStart => exact ⟨0, 0, Nat.zero_le _, rfl, rfl, rfl, Below.refl _ _⟩
  case round =>
    obtain ⟨j, x, hj, rfl, rfl, Hx, HB⟩ := hrel
    have hx : x ≤ 10000 * j := by rw [← Hx.out]; exact HB0.out j
    by_cases hlt : j < n
    · obtain ⟨b, off, y, rfl, hbl, Hy, hc⟩ := (Hr.out.below HB.out).x (k := j) (by rw [bkL_length, Hz.out]; exact hlt)
      obtain ⟨q, Hq⟩ : ∃ q, Hid (nbB (nrF far) ss (zs.getD j 0) = q) := ⟨_, rfl⟩
      have hy : y = (q : Int) := by
        rw [← Hy.out, ← Hq.out]
        have := show j < zs.length by rw [Hz.out]; exact hlt
        simp [bkL, List.getD, this]
      have hqk : q ≤ k := by rw [← Hq.out, ← Hl.out]; exact Hnb.out _
      subst hy
      obtain ⟨t, Ht⟩ : ∃ t, Hid (tmB U D k q = t) := ⟨_, rfl⟩
      have ht : t ≤ 10000 := by rw [← Ht.out]; exact Htm.out q
      have HCq := Lib.hid (HC.out q wr HB.out hqk)
      rw [Ht.out] at HCq
      have Hn : Hid (smQ U D k far zs ss (j + 1) = x + t) := by
        show smQ U D k far zs ss j + tmB U D k (nbB (nrF far) ss (zs.getD j 0)) = _
        rw [Hx.out, Hq.out, Ht.out]
      go_wp2_with fail
      refine HCq.out.mono ?_
      rintro e w3 ⟨rfl, hb3⟩
      have HB3 : Hid (Below w.heap.size w w3) := HB.out.trans (hb3.mono HB.out.size)
      clear hb3 hc hbl
      go_wp2
      go_roundw
      case rel => exact ⟨j + 1, x + t, by omega, by go_num, by go_num, Hn, HB3⟩
      case measure => simp [intOf]; omega
    · obtain rfl : j = n := by omega
      have e : x = X := by rw [← Hx.out]; exact HA.out
      subst e
      go_wp2
      go_ret
      exact ⟨rfl, HB.out⟩
set_option maxHeartbeats 1600000 in
theorem reached_any (U D k n c c' : Nat) (far : Int) (A A' : Option Addr) (zs ss : List Int) (w : World) (h0 : PIn w A c n zs) (h1 : PIn w A' c' k ss) (hv : vbB zs ss far = true) (hU : U ≤ D) (hD : D ≤ 10) :
    Calls Try.prog 47 #[.agg (wtC (U : Int) (D : Int) A n c far A' k c')] w fun e w' => e = .returned (.int .i64 ((rcB (nrF far) U D zs ss : Nat) : Int)) ∧ Below w.heap.size w w' := by
  obtain ⟨v1, v2, v3, v4, v5⟩ := vbB_get hv
  have hk4 : k ≤ 4 := by rw [← h1.len]; exact v3
  have hn10 : n ≤ 10 := by rw [← h0.len]; exact vh_len v1
  have hb1 : Below w.heap.size w (w.alloc (.cells (wtC (U : Int) (D : Int) A n c far A' k c') 59)) := (Below.refl _ _).alloc (Nat.le_refl _) _
  have hh1 : (w.alloc (.cells (wtC (U : Int) (D : Int) A n c far A' k c') 59)).heap[w.heap.size]? = some (.cells (wtC (U : Int) (D : Int) A n c far A' k c') 59 (0, 0)) := heap_alloc_new _ _
  obtain ⟨w1, Hw1⟩ : ∃ w1, Hid (w.alloc (.cells (wtC (U : Int) (D : Int) A n c far A' k c') 59) = w1) := ⟨_, rfl⟩
  rw [Hw1.out] at hb1 hh1
  have HBk := Lib.hid (iBacksOf_ok A A' c c' n k zs ss far w1 (h0.later hb1) (h1.later hb1))
  rw [bkQ_yes hv] at HBk
  obtain ⟨pb, Hpb⟩ : ∃ pb, Hid (w.heap.size = pb) := ⟨_, rfl⟩
  rw [Hpb.out] at hh1
  obtain ⟨a0, a1, a2, a3, a4⟩ := wtC_cells hh1
  have HH1 := Lib.hid hh1
  have HB1 := Lib.hid hb1
  have Hl0 := Lib.hid h0.len
  have Hl1 := Lib.hid h1.len
  have Hbl : Hid ((bkL far zs ss).length = n) := by show _ = _; rw [bkL_length]; exact h0.len
  obtain ⟨X, HX⟩ : ∃ X, Hid (rcB (nrF far) U D zs ss = X) := ⟨_, rfl⟩
  have HX2 : Hid (wB (nrF far) U D k zs ss = X) := by show _ = _; rw [← HX.out, ← Hl1.out]; rfl
  rw [HX.out]
  clear h0 h1 hv v1 v2 v3 hb1 hh1
  unfold wtC at Hw1 ⊢
  go_enter Try.func47, Try.ntmps47
  go_wp2_with fail
  rw [Hw1.out, Hpb.out]
  refine HBk.out.mono ?_
  rintro e w2 ⟨A2, c2, rfl, ho2, hb2⟩
  rw [Hbl.out] at ho2 ⊢
  obtain ⟨A3, c3, e3, -, -, hr3⟩ := own_slice ho2.out Hbl.out
  injection e3 with e4 _ e5
  subst e4 e5
  have HS := Lib.hid (sumQ_any pb U D k n c2 c' n c 59 far A2 A' A zs ss w2 ((hb2.out.block _ (row_lt HH1.out)).trans HH1.out) hU hD hk4 Hl1.out Hl0.out hn10 hr3)
  rw [HX2.out] at HS
  have HB2 : Hid (Below w.heap.size w w2) := HB1.out.trans (hb2.out.mono HB1.out.size)
  clear ho2 hb2 hr3
  go_wp2_with fail
  refine HS.out.mono ?_
  rintro e w3 ⟨rfl, hb3⟩
  have HB3 : Hid (Below w.heap.size w w3) := HB2.out.trans (hb3.mono HB2.out.size)
  clear hb3
  go_wp2
  go_ret
  exact ⟨rfl, HB3.out⟩
end Go.Proofs.Ythphboeboiallab
