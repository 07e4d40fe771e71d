/-
  TreeMiddle: the program answers the first node without which no part has more than half of all people.
  Conditions: fewer than 2^60 roads and numbers.
-/
import Derived.Test.YtoappopbjnlbdabF6
namespace Go.Proofs.Ytoappopbjnlbdab
open Go.ChangeShapes Go.WideShapes Go.ChangeAt Go.RowKit
set_option linter.unusedVariables false
set_option maxRecDepth 4000

/-- The first from i on, among the next m, for which q holds; -1 if there is none. -/
def fstI (q : Nat → Bool) : Nat → Nat → Int
  | 0, _ => -1
  | m + 1, i => if q i then (i : Int) else fstI q m (i + 1)
theorem fstI_yes {q : Nat → Bool} {n k : Nat} (hk : k < n) (h : q k = true) : fstI q (n - k) k = k := by
  rw [show n - k = (n - (k + 1)) + 1 by omega]; simp [fstI, h]
theorem fstI_no {q : Nat → Bool} {n k : Nat} (hk : k < n) (h : q k = false) : fstI q (n - k) k = fstI q (n - (k + 1)) (k + 1) := by
  rw [show n - k = (n - (k + 1)) + 1 by omega]; simp [fstI, h]
theorem fstI_end {q : Nat → Bool} {n k : Nat} (hk : n ≤ k) : fstI q (n - k) k = -1 := by
  rw [show n - k = 0 by omega]; rfl
theorem fstI_is {q : Nat → Bool} : ∀ m i, fstI q m i = -1 ∨ ∃ k, i ≤ k ∧ k < i + m ∧ q k = true ∧ fstI q m i = k
  | 0, i => .inl rfl
  | m + 1, i => by
    simp only [fstI]
    by_cases h : q i = true
    · rw [if_pos h]; exact .inr ⟨i, by omega, by omega, h, rfl⟩
    · rw [if_neg h]
      rcases fstI_is (q := q) m (i + 1) with h' | ⟨k, h1, h2, h3, h4⟩
      · exact .inl h'
      · exact .inr ⟨k, by omega, by omega, h3, h4⟩
/-- TreeMiddle's answer. -/
def midv (t : List (Int × Int)) (fs : List Int) : Int := if vt t = true ∧ fk t.length fs = true then fstI (midOk t fs t.length) t.length 0 else -1

theorem middle1_any (w : World) (P : Nat → Nat) (RV : Nat → Value) (B n i cf fb : Nat) (Af : Option Addr) (fs : List Int) (t : List (Int × Int)) (ht : Ahead t) (hn : t.length = n) (hn7 : n ≤ 7) (hlk : LkN w B n P RV t) (hi : i < n)
    (hf : fk n fs = true) (hrf : RdI w w.heap.size Af fs) (cfb : w.cell? ⟨fb, 0, none⟩ = some (.slice Af n cf)) :
    Calls Try.prog 56 #[.pointer (some ⟨P i, 0, none⟩), .pointer (some ⟨fb, 0, none⟩)] w (HalvesAns t fs n i w) := by
  have H := Lib.hid (halves_any w P RV B n i cf Af fs t ht hn hn7 hlk hi hf hrf)
  clear hlk hf hrf
  go_enter Try.func56, Try.ntmps56
  go_wp2_with fail
  refine H.out.mono ?_
  rintro e w1 ⟨rfl, hnx⟩
  have HB := Lib.hid hnx
  clear hnx
  go_wp2
  go_ret
  exact ⟨rfl, HB.out⟩
def FirstAns (q : Nat → Bool) (n : Nat) (w : World) (e : Ending) (w' : World) : Prop := e = .returned (.int .i64 (fstI q n 0)) ∧ Below w.heap.size w w'
set_option maxHeartbeats 1600000 in
theorem indexNode_any (w : World) (P : Nat → Nat) (B n gn cA fb : Nat) (fs : List Int) (t : List (Int × Int)) (hn7 : n ≤ 7) (hown : w.ownsRow B 62 1 (.slice (some ⟨gn, 0, none⟩) n cA) n (ptrs P n))
    (hone : ∀ W, Below w.heap.size w W → ∀ i, i < n → Calls Try.prog 56 #[.pointer (some ⟨P i, 0, none⟩), .pointer (some ⟨fb, 0, none⟩)] W (HalvesAns t fs n i W)) :
    Calls Try.prog 55 #[.slice (some ⟨gn, 0, none⟩) n cA, .func (.func 56) #[] #[.pointer (some ⟨fb, 0, none⟩)]] w (FirstAns (midOk t fs n) n w) := by
  have Hown := Lib.hid hown
  have Hone := Lib.hid hone
  clear hown hone
  go_enter Try.func55, Try.ntmps55
  go_wp2
  go_loopw [8] (fun i' wr => ∃ k : Nat, k ≤ n ∧ i' = .int .i64 k ∧ Hid (fstI (midOk t fs n) n 0 = fstI (midOk t fs n) (n - k) k) ∧ Below w.heap.size w wr) (fun i _ => n - (intOf i).toNat)
  case atStart => exact ⟨0, by omega, rfl, rfl, Below.refl _ _⟩
  case round =>
    obtain ⟨k, hk, rfl, Ho, hnx⟩ := hrel
    by_cases hlt : k < n
    · have cn : wr.cell? ⟨gn, k, none⟩ = some (.pointer (some ⟨P k, 0, none⟩)) := by
        rw [hnx.cell (p := ⟨gn, k, none⟩) (own_heap Hown.out (g := gn) rfl).2.2, Hown.out.cellAt k (by omega)]
        simp [ptrs, ptr, hlt]
      have Hc := Lib.hid (Hone.out wr hnx k hlt)
      have HB := Lib.hid hnx
      clear hnx
      go_wp2_with fail
      refine Hc.out.mono ?_
      rintro e w3 ⟨rfl, hnx3⟩
      have hb3 := Lib.hid (HB.out.trans (hnx3.mono HB.out.size))
      clear hnx3
      by_cases hq : midOk t fs n k = true
      · have Hs := Lib.hid (Ho.out.trans (fstI_yes hlt hq))
        rw [hq]
        clear hq
        go_wp2
        go_ret
        exact ⟨ret_int Hs.out.symm, hb3.out⟩
      · have hq' : midOk t fs n k = false := by simpa using hq
        have Hs := Lib.hid (Ho.out.trans (fstI_no hlt hq'))
        rw [hq']
        clear hq hq'
        go_wp2
        go_roundw
        case rel => exact ⟨k + 1, by omega, by go_num, Hs, hb3.out⟩
        case measure => simp [intOf]; omega
    · have Hs := Lib.hid (Ho.out.trans (fstI_end (by omega)))
      go_wp2
      go_ret
      exact ⟨ret_int Hs.out.symm, hnx⟩
def NotMid (t : List (Int × Int)) (fs : List Int) : Prop := vt t = false ∨ (vt t = true ∧ fk t.length fs = false)
theorem midv_no {t : List (Int × Int)} {fs : List Int} (h : NotMid t fs) : midv t fs = -1 := by
  unfold midv
  rw [if_neg]
  rintro ⟨h1, h2⟩
  rcases h with h | ⟨_, h⟩
  · rw [h1] at h; cases h
  · rw [h2] at h; cases h

set_option maxHeartbeats 1600000 in
theorem iTreeMiddle_any (A Af : Option Addr) (c n cf nf : Nat) (ts : List (Int × Int)) (fs : List Int) (w : World) (hr : RdR w w.heap.size A ts) (hn : ts.length = n) (hc : n ≤ c) (hb : n ≤ 1152921504606846976)
    (hrf : RdI w w.heap.size Af fs) (hnf : fs.length = nf) (hbf : nf ≤ 1152921504606846976) :
    Calls Try.prog 21 #[.slice A n c, .slice Af nf cf] w fun e w' => e = .returned (.int .i64 (midv ts fs)) ∧ Below w.heap.size w w' := by
  have hb1 := (Below.refl w.heap.size w).alloc (Nat.le_refl _) (.cells #[.slice Af nf cf] 27)
  have hsz1 := size_alloc1 w (.cells #[.slice Af nf cf] 27)
  have hr1 := (hr.below hb1).more hb1.size
  have hrf1 := (hrf.below hb1).more hb1.size
  have c1 : (w.alloc (.cells #[.slice Af nf cf] 27)).cell? ⟨w.heap.size, 0, none⟩ = some (.slice Af nf cf) := by
    rw [cell_of_row _ _ _ _ _ _ (heap_alloc_new w _)]; rfl
  have HB := Lib.hid hb1
  have HC := Lib.hid c1
  by_cases hv : vt ts = true
  · have H1 := Lib.hid (iValidTree_is A c n ts _ _ hr1 hn hc hb (Nat.le_refl _) hv)
    by_cases hf : fk n fs = true
    · obtain ⟨h1, h7, -⟩ := (vt_iff ts).1 hv
      rw [hn] at h1 h7
      have Hs := Lib.hid (show midv ts fs = fstI (midOk ts fs n) n 0 by unfold midv; rw [if_pos ⟨hv, by rw [hn]; exact hf⟩, hn])
      have H2 := Lib.hid (fun (w2 : World) (h : Below (w.alloc (.cells #[.slice Af nf cf] 27)).heap.size (w.alloc (.cells #[.slice Af nf cf] 27)) w2) => iValidFolk_is Af A cf c nf n fs w2 _ (hrf1.below h) hnf hbf hf)
      have Hn := Lib.hid hn
      have Hv := Lib.hid hv
      have Hf := Lib.hid hf
      have Hr := Lib.hid hr
      have Hrf := Lib.hid hrf
      have hnfn : nf = n := by have := (fk_iff hf).1; omega
      have Hnf := Lib.hid hnf
      subst hnfn
      clear hv hf hr hrf hr1 hrf1 hn hnf hb1 c1 hsz1
      go_enter Try.func21, Try.ntmps21
      go_wp2_with fail
      refine H1.out.mono ?_
      rintro e w2 ⟨rfl, hnx2⟩
      have c2 : w2.cell? ⟨w.heap.size, 0, none⟩ = some (.slice Af nf cf) := (hnx2.cell (p := ⟨w.heap.size, 0, none⟩) (by rw [size_alloc1]; exact Nat.lt_succ_self _)).trans HC.out
      have H3 := Lib.hid (H2.out w2 hnx2)
      have HB2 := Lib.hid (HB.out.trans (hnx2.mono HB.out.size))
      have C2 := Lib.hid c2
      clear hnx2
      go_wp2_with fail
      refine H3.out.mono ?_
      rintro e w' ⟨rfl, rfl⟩
      have Hl3 := Lib.hid (linked_any A c nf ts w2 ((Hr.out.below HB2.out).more HB2.out.size) Hn.out hc Hv.out)
      go_wp2_with fail
      refine Hl3.out.mono ?_
      rintro e w4 ⟨v, P, RV, rfl, hlk, hown, hnx4⟩
      rw [Hn.out] at hlk hown
      obtain ⟨A', c', rfl, -, -, hA⟩ := own_sliceN hown
      obtain ⟨gn, rfl, -, -⟩ := hA (by omega)
      have hb4 := HB2.out.trans (hnx4.mono HB2.out.size)
      have c4 : w4.cell? ⟨w.heap.size, 0, none⟩ = some (.slice Af nf cf) := (hnx4.cell (p := ⟨w.heap.size, 0, none⟩) (World.block_lt_of_cell? w2 _ C2.out)).trans C2.out
      have hone : ∀ W, Below w4.heap.size w4 W → ∀ i, i < nf → Calls Try.prog 56 #[.pointer (some ⟨P i, 0, none⟩), .pointer (some ⟨w.heap.size, 0, none⟩)] W (HalvesAns ts fs nf i W) := fun W hW i hi =>
        middle1_any W P RV w2.heap.size nf i cf w.heap.size Af fs ts (vt_ahead Hv.out) Hn.out h7 (hlk.below hW) hi Hf.out (((Hrf.out.below hb4).below (hW.mono hb4.size)).more (Nat.le_trans hb4.size hW.size)) ((hW.cell (p := ⟨w.heap.size, 0, none⟩) (World.block_lt_of_cell? w4 _ c4)).trans c4)
      have Hc := Lib.hid (indexNode_any w4 P w2.heap.size nf gn c' w.heap.size fs ts h7 hown hone)
      have HB4 := Lib.hid hb4
      clear hlk hown hnx4 hA hb4 hone c4
      go_wp2_with fail
      refine Hc.out.mono ?_
      rintro e w5 ⟨rfl, hnx5⟩
      have HB5 := Lib.hid (HB4.out.trans (hnx5.mono HB4.out.size))
      clear hnx5
      go_wp2
      go_ret
      exact ⟨ret_int Hs.out.symm, HB5.out⟩
    · have hf' : fk n fs = false := by simpa using hf
      have Hs := Lib.hid (midv_no (.inr ⟨hv, by rw [hn]; exact hf'⟩))
      have H2 := Lib.hid (fun (w2 : World) (h : Below (w.alloc (.cells #[.slice Af nf cf] 27)).heap.size (w.alloc (.cells #[.slice Af nf cf] 27)) w2) => iValidFolk_is Af A cf c nf n fs w2 _ (hrf1.below h) hnf hbf hf')
      clear hv hf hf' hr hrf hr1 hrf1 hn hnf hb1 c1 hsz1
      go_enter Try.func21, Try.ntmps21
      go_wp2_with fail
      refine H1.out.mono ?_
      rintro e w2 ⟨rfl, hnx2⟩
      have c2 : w2.cell? ⟨w.heap.size, 0, none⟩ = some (.slice Af nf cf) := (hnx2.cell (p := ⟨w.heap.size, 0, none⟩) (by rw [size_alloc1]; exact Nat.lt_succ_self _)).trans HC.out
      have H3 := Lib.hid (H2.out w2 hnx2)
      have HB2 := Lib.hid (HB.out.trans (hnx2.mono HB.out.size))
      clear hnx2
      go_wp2_with fail
      refine H3.out.mono ?_
      rintro e w' ⟨rfl, rfl⟩
      go_wp2
      go_ret
      exact ⟨ret_int Hs.out.symm, HB2.out⟩
  · have hv' : vt ts = false := by simpa using hv
    have Hs := Lib.hid (midv_no (fs := fs) (.inl hv'))
    have H1 := Lib.hid (iValidTree_is A c n ts _ _ hr1 hn hc hb (Nat.le_refl _) hv')
    clear hv hv' hr hrf hr1 hrf1 hn hnf hb1 c1 hsz1
    go_enter Try.func21, Try.ntmps21
    go_wp2_with fail
    refine H1.out.mono ?_
    rintro e w2 ⟨rfl, hnx2⟩
    have HB2 := Lib.hid (HB.out.trans (hnx2.mono HB.out.size))
    clear hnx2
    go_wp2
    go_ret
    exact ⟨ret_int Hs.out.symm, HB2.out⟩
end Go.Proofs.Ytoappopbjnlbdab
