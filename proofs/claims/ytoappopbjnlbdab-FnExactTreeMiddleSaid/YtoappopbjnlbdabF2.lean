/-
  TreeSum: the program answers the sum over all nodes of people times the way.
  Conditions: fewer than 2^60 roads and numbers.
-/
import Derived.Test.YtoappopbjnlbdabF1
import Derived.Test.YtoappopbjnlbdabN1
import Derived.Test.YtoappopbjnlbdabV1
namespace Go.Proofs.Ytoappopbjnlbdab
open Go.ChangeShapes Go.WideShapes Go.ChangeAt Go.RowKit
set_option linter.unusedVariables false
set_option maxRecDepth 4000

/-- TreeSum's answer. -/
def tsv (t : List (Int × Int)) (fs : List Int) (a : Int) : Int := if vt t = true ∧ fk t.length fs = true ∧ 0 ≤ a ∧ a < t.length then tsm t fs t.length a.toNat t.length else -1
theorem sumN_tsm (t : List (Int × Int)) (fs : List Int) (n a : Nat) : ∀ m, sumN (fun j => if True then fs.getD j 0 * (0 + dn t n a j) else 0) m = tsm t fs n a m
  | 0 => rfl
  | m + 1 => by
    have := sumN_tsm t fs n a m
    simp only [if_true, Int.zero_add] at this
    simp only [sumN, tsm, if_true, Int.zero_add, this]
theorem fk_iff {n : Nat} {fs : List Int} (h : fk n fs = true) : fs.length = n ∧ ∀ i, i < n → 0 ≤ fs.getD i 0 ∧ fs.getD i 0 ≤ 20 := by
  unfold fk at h
  simp only [Bool.and_eq_true, decide_eq_true_eq] at h
  exact ⟨h.1, fun i hi => okF_iff.1 h.2 i (by omega)⟩
theorem iValidTree_is (A : Option Addr) (c n : Nat) (ts : List (Int × Int)) (w : World) (B : Nat) (hr : RdR w B A ts) (hn : ts.length = n) (hc : n ≤ c) (hb : n ≤ 1152921504606846976) (hB : B ≤ w.heap.size) {b : Bool} (h : vt ts = b) :
    Calls Try.prog 14 #[.slice A n c] w fun e w' => e = .returned (.bool b) ∧ Below w.heap.size w w' := by
  subst h; exact iValidTree_any A c n ts w B hr hn hc hb hB
theorem iValidFolk_is (A A' : Option Addr) (c c' n m : Nat) (fs : List Int) (w : World) (B : Nat) (hr : RdI w B A fs) (hn : fs.length = n) (hb : n ≤ 1152921504606846976) {b : Bool} (h : fk m fs = b) :
    Calls Try.prog 47 #[.slice A' m c', .slice A n c] w fun e w' => e = .returned (.bool b) ∧ w = w' := by
  subst h; exact iValidFolk_any A A' c c' n m fs w B hr hn hb
/-- What is not valid has no sum. -/
def NotSum (t : List (Int × Int)) (fs : List Int) (a : Int) : Prop := vt t = false ∨ (vt t = true ∧ fk t.length fs = false) ∨ (vt t = true ∧ fk t.length fs = true ∧ (a < 0 ∨ (t.length : Int) ≤ a))
theorem tsv_no {t : List (Int × Int)} {fs : List Int} {a : Int} (h : NotSum t fs a) : tsv t fs a = -1 := by
  unfold tsv
  rw [if_neg]
  rintro ⟨h1, h2, h3, h4⟩
  rcases h with h | ⟨_, h⟩ | ⟨_, _, h⟩
  · rw [h1] at h; cases h
  · rw [h2] at h; cases h
  · omega

/-- The walk from node k, with people and ways added up. -/
theorem treeSum_walk {w4 : World} {P : Nat → Nat} {RV : Nat → Value} {B R fb n cf k : Nat} {Af : Option Addr} {fs : List Int} {t : List (Int × Int)} (ht : Ahead t) (hn : t.length = n) (hn7 : n ≤ 7) (hk : k < n) (hlk : LkN w4 B n P RV t)
    (hR : w4.heap[R]? = some (.cells #[.int .i64 0] 3 (0, 0))) (hfb : fb ≠ R) (hcf : w4.cell? ⟨fb, 0, none⟩ = some (.slice Af fs.length cf)) (B' : Nat) (hrd : RdI w4 B' Af fs) (hBR : B' ≤ R) (hB' : B' ≤ w4.heap.size)
    (hfk : fs.length = n ∧ ∀ i, i < n → 0 ≤ fs.getD i 0 ∧ fs.getD i 0 ≤ 20) :
    Calls Try.prog 48 #[.pointer (some ⟨P k, 0, none⟩), .pointer none, .func (.func 50) #[] #[.pointer (some ⟨R, 0, none⟩), .pointer (some ⟨fb, 0, none⟩)]] w4 fun e w' => e = .returned (.tuple #[]) ∧ w'.cell? ⟨R, 0, none⟩ = some (.int .i64 (tsm t fs n k n)) ∧ w4.grownBy w' (some R) := by
  obtain ⟨M, hV, hs⟩ := walks_all ht n (by omega) k hk 0
  have hway := visited_way hs
  have hF : ∀ y ∈ (k, (0 : Int)) :: M, y.1 < n ∧ 0 ≤ y.2 ∧ y.2 ≤ 1000 := fun y hy => by
    obtain ⟨h1, _, h2⟩ := hway y hy
    have := dn_bd ht n k y.1 (by omega) hk h1
    omega
  have hlen := visited_len hs
  have hvis := visitS_any w4 P RV B R fb n cf Af fs ((k, 0) :: M) t hlk ⟨_, hR⟩ hfb hcf B' hrd hBR hB' hfk.1 hn7 hfk.2 hF (by simp; omega)
  refine (walkS_any w4 P RV B R n _ _ (sumObj fs) t ht (by omega) hn7 hlk ⟨_, _, _, hR, by decide, by decide⟩ hR k none M hk (fun g e => by cases e) hV hvis (fun y hy => by have := hF y hy; omega)).mono ?_
  rintro e w' ⟨he, hh, hg⟩
  refine ⟨he, ?_, hg⟩
  have e1 : wsum fs ((k, 0) :: M) = tsm t fs n k n := by
    have := hs fun i x => fs.getD i 0 * x
    rw [sumN_tsm] at this
    rw [← this]; rfl
  rw [cell_of_row _ _ _ _ _ _ hh, e1]; rfl

set_option maxHeartbeats 1600000 in
theorem iTreeSum_any (A Af : Option Addr) (c n cf nf : Nat) (ts : List (Int × Int)) (fs : List Int) (a : Int) (w : World) (hr : RdR w w.heap.size A ts) (hn : ts.length = n) (hc : n ≤ c) (hb : n ≤ 1152921504606846976)
    (hrf : RdI w w.heap.size Af fs) (hnf : fs.length = nf) (hbf : nf ≤ 1152921504606846976) (hwa : (Lit.int .i64 a).wf = true) :
    Calls Try.prog 17 #[.slice A n c, .slice Af nf cf, .int .i64 a] w fun e w' => e = .returned (.int .i64 (tsv ts fs a)) ∧ Below w.heap.size w w' := by
  have hb1 := (Below.refl w.heap.size w).alloc (Nat.le_refl _) (.cells #[.slice Af nf cf] 27)
  have hsz1 := size_alloc1 w (.cells #[.slice Af nf cf] 27)
  have hr1 := (hr.below hb1).more hb1.size
  have hrf1 := (hrf.below hb1).more hb1.size
  have c1 : (w.alloc (.cells #[.slice Af nf cf] 27)).cell? ⟨w.heap.size, 0, none⟩ = some (.slice Af nf cf) := by
    rw [cell_of_row _ _ _ _ _ _ (heap_alloc_new w _)]; rfl
  by_cases hv : vt ts = true
  · by_cases hf : fk n fs = true
    · by_cases ha : a < 0
      · have Hs := Lib.hid (tsv_no (a := a) (.inr (.inr ⟨hv, by rw [hn]; exact hf, by rw [hn]; omega⟩)))
        have HB := Lib.hid hb1
        have HC := Lib.hid c1
        have H1 := Lib.hid (iValidTree_is A c n ts _ _ hr1 hn hc hb (Nat.le_refl _) hv)
        have H2 := Lib.hid (fun (w2 : World) (h : Below (w.alloc (.cells #[.slice Af nf cf] 27)).heap.size (w.alloc (.cells #[.slice Af nf cf] 27)) w2) => iValidFolk_is Af A cf c nf n fs w2 _ (hrf1.below h) hnf hbf hf)
        clear hv hf hr hrf hr1 hrf1 hn hnf hb1 c1 hsz1
        go_enter Try.func17, Try.ntmps17
        go_wp2_with fail
        refine H1.out.mono ?_
        rintro e w2 ⟨rfl, hnx2⟩
        have c2 : w2.cell? ⟨w.heap.size, 0, none⟩ = some (.slice Af nf cf) := (hnx2.cell (p := ⟨w.heap.size, 0, none⟩) (by rw [size_alloc1]; exact Nat.lt_succ_self _)).trans HC.out
        have H3 := Lib.hid (H2.out w2 hnx2)
        have HB2 := Lib.hid (HB.out.trans (hnx2.mono HB.out.size))
        clear hnx2
        go_wp2_with fail
        refine H3.out.mono ?_
        rintro e w' ⟨rfl, rfl⟩
        go_wp2
        go_ret
        exact ⟨ret_int Hs.out.symm, HB2.out⟩
      · by_cases ha2 : (n : Int) ≤ a
        · have Hs := Lib.hid (tsv_no (a := a) (.inr (.inr ⟨hv, by rw [hn]; exact hf, by rw [hn]; omega⟩)))
          have HB := Lib.hid hb1
          have HC := Lib.hid c1
          have H1 := Lib.hid (iValidTree_is A c n ts _ _ hr1 hn hc hb (Nat.le_refl _) hv)
          have H2 := Lib.hid (fun (w2 : World) (h : Below (w.alloc (.cells #[.slice Af nf cf] 27)).heap.size (w.alloc (.cells #[.slice Af nf cf] 27)) w2) => iValidFolk_is Af A cf c nf n fs w2 _ (hrf1.below h) hnf hbf hf)
          clear hv hf hr hrf hr1 hrf1 hn hnf hb1 c1 hsz1
          go_enter Try.func17, Try.ntmps17
          go_wp2_with fail
          refine H1.out.mono ?_
          rintro e w2 ⟨rfl, hnx2⟩
          have c2 : w2.cell? ⟨w.heap.size, 0, none⟩ = some (.slice Af nf cf) := (hnx2.cell (p := ⟨w.heap.size, 0, none⟩) (by rw [size_alloc1]; exact Nat.lt_succ_self _)).trans HC.out
          have H3 := Lib.hid (H2.out w2 hnx2)
          have HB2 := Lib.hid (HB.out.trans (hnx2.mono HB.out.size))
          clear hnx2
          go_wp2_with fail
          refine H3.out.mono ?_
          rintro e w' ⟨rfl, rfl⟩
          go_wp2
          go_ret
          exact ⟨ret_int Hs.out.symm, HB2.out⟩
        · obtain ⟨k, rfl⟩ := Int.eq_ofNat_of_zero_le (show 0 ≤ a by omega)
          have hk : k < n := by omega
          obtain ⟨h1, h7, -⟩ := (vt_iff ts).1 hv
          rw [hn] at h1 h7
          have Hs := Lib.hid (show tsv ts fs (k : Int) = tsm ts fs n k n by unfold tsv; rw [if_pos ⟨hv, by rw [hn]; exact hf, by omega, by rw [hn]; omega⟩, hn]; rfl)
          have HB := Lib.hid hb1
          have HC := Lib.hid c1
          have H1 := Lib.hid (iValidTree_is A c n ts _ _ hr1 hn hc hb (Nat.le_refl _) hv)
          have H2 := Lib.hid (fun (w2 : World) (h : Below (w.alloc (.cells #[.slice Af nf cf] 27)).heap.size (w.alloc (.cells #[.slice Af nf cf] 27)) w2) => iValidFolk_is Af A cf c nf n fs w2 _ (hrf1.below h) hnf hbf hf)
          have Hn := Lib.hid hn
          have Hv := Lib.hid hv
          have Hf := Lib.hid hf
          have Hr := Lib.hid hr
          have Hrf := Lib.hid hrf
          have hnfn : nf = n := by have := (fk_iff hf).1; omega
          have Hnf := Lib.hid hnf
          subst hnfn
          clear hv hf hr hrf hr1 hrf1 hn hnf hb1 c1 hsz1
          go_enter Try.func17, Try.ntmps17
          go_wp2_with fail
          refine H1.out.mono ?_
          rintro e w2 ⟨rfl, hnx2⟩
          have c2 : w2.cell? ⟨w.heap.size, 0, none⟩ = some (.slice Af nf cf) := (hnx2.cell (p := ⟨w.heap.size, 0, none⟩) (by rw [size_alloc1]; exact Nat.lt_succ_self _)).trans HC.out
          have H3 := Lib.hid (H2.out w2 hnx2)
          have HB2 := Lib.hid (HB.out.trans (hnx2.mono HB.out.size))
          have HS2 : Hid (w.heap.size < w2.heap.size) := by have := hnx2.size; rw [size_alloc1] at this; exact Nat.lt_of_succ_le this
          have C2 := Lib.hid c2
          clear hnx2
          go_wp2_with fail
          refine H3.out.mono ?_
          rintro e w' ⟨rfl, rfl⟩
          have hb3 := HB2.out.alloc HB2.out.size (.cells #[.int .i64 0] 3)
          have hl3 := linked_any A c nf ts (w2.alloc (.cells #[.int .i64 0] 3)) ((Hr.out.below hb3).more hb3.size) Hn.out hc Hv.out
          have Hl3 := Lib.hid hl3
          have HB3 := Lib.hid hb3
          clear hb3 hl3
          go_wp2_with fail
          refine Hl3.out.mono ?_
          rintro e w4 ⟨v, P, RV, rfl, hlk, hown, hnx4⟩
          rw [Hn.out] at hlk hown
          obtain ⟨A', c', rfl, -, -, hA⟩ := own_sliceN hown
          obtain ⟨gn, rfl, -, -⟩ := hA (by omega)
          have cn : w4.cell? ⟨gn, k, none⟩ = some (.pointer (some ⟨P k, 0, none⟩)) := by
            rw [hown.cellAt k (by omega)]
            simp [ptrs, ptr, hk]
          have hcall := treeSum_walk (w4 := w4) (R := w2.heap.size) (fb := w.heap.size) (cf := cf) (Af := Af) (fs := fs) (vt_ahead Hv.out) Hn.out h7 hk hlk ((hnx4.block w2.heap.size (by rw [size_alloc1]; exact Nat.lt_succ_self _)).trans (heap_alloc_new w2 _)) (Nat.ne_of_lt HS2.out)
            (by rw [Hnf.out]; exact (hnx4.cell (p := ⟨w.heap.size, 0, none⟩) (by rw [size_alloc1]; exact Nat.lt_succ_of_lt HS2.out)).trans ((World.cell?_alloc_lt w2 _ ⟨w.heap.size, 0, none⟩ HS2.out).trans C2.out)) w.heap.size (Hrf.out.below (HB3.out.trans (hnx4.mono HB3.out.size))) (Nat.le_of_lt HS2.out) (Nat.le_trans HB3.out.size hnx4.size) (fk_iff Hf.out)
          have Hcall := Lib.hid hcall
          have HB4 := Lib.hid (HB3.out.trans (hnx4.mono HB3.out.size))
          clear hcall hlk hown hnx4 hA
          go_wp2_with fail
          refine Hcall.out.mono ?_
          rintro e w5 ⟨rfl, h5, hg5⟩
          have hb5 := HB4.out.grown hg5 HB4.out.size (fun g e => by injection e with e; have := HS2.out; omega)
          have HB5 := Lib.hid hb5
          clear hg5 hb5 cn
          go_wp2
          go_ret
          exact ⟨ret_int Hs.out.symm, HB5.out⟩
    · have hf' : fk n fs = false := by simpa using hf
      have Hs := Lib.hid (tsv_no (a := a) (.inr (.inl ⟨hv, by rw [hn]; exact hf'⟩)))
      have HB := Lib.hid hb1
      have HC := Lib.hid c1
      have H1 := Lib.hid (iValidTree_is A c n ts _ _ hr1 hn hc hb (Nat.le_refl _) hv)
      have H2 := Lib.hid (fun (w2 : World) (h : Below (w.alloc (.cells #[.slice Af nf cf] 27)).heap.size (w.alloc (.cells #[.slice Af nf cf] 27)) w2) => iValidFolk_is Af A cf c nf n fs w2 _ (hrf1.below h) hnf hbf hf')
      clear hv hf hf' hr hrf hr1 hrf1 hn hnf hb1 c1 hsz1
      go_enter Try.func17, Try.ntmps17
      go_wp2_with fail
      refine H1.out.mono ?_
      rintro e w2 ⟨rfl, hnx2⟩
      have c2 : w2.cell? ⟨w.heap.size, 0, none⟩ = some (.slice Af nf cf) := (hnx2.cell (p := ⟨w.heap.size, 0, none⟩) (by rw [size_alloc1]; exact Nat.lt_succ_self _)).trans HC.out
      have H3 := Lib.hid (H2.out w2 hnx2)
      have HB2 := Lib.hid (HB.out.trans (hnx2.mono HB.out.size))
      clear hnx2
      go_wp2_with fail
      refine H3.out.mono ?_
      rintro e w' ⟨rfl, rfl⟩
      go_wp2
      go_ret
      exact ⟨ret_int Hs.out.symm, HB2.out⟩
  · have hv' : vt ts = false := by simpa using hv
    have Hs := Lib.hid (tsv_no (fs := fs) (a := a) (.inl hv'))
    have HB := Lib.hid hb1
    have H1 := Lib.hid (iValidTree_is A c n ts _ _ hr1 hn hc hb (Nat.le_refl _) hv')
    clear hv hv' hr hrf hr1 hrf1 hn hnf hb1 c1 hsz1
    go_enter Try.func17, Try.ntmps17
    go_wp2_with fail
    refine H1.out.mono ?_
    rintro e w2 ⟨rfl, hnx2⟩
    have HB2 := Lib.hid (HB.out.trans (hnx2.mono HB.out.size))
    clear hnx2
    go_wp2
    go_ret
    exact ⟨ret_int Hs.out.symm, HB2.out⟩
end Go.Proofs.Ytoappopbjnlbdab
