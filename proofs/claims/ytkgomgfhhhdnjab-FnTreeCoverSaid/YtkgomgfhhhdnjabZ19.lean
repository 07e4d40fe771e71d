/-
  TreeSum: the model answers the sum over all nodes of people times the way.
  Conditions: fewer than 2^60 roads and numbers.
  The model's packing: the most nodes no two of which are near one node, over all sets.
  Conditions: at most seven nodes.
  The law FnExactValidTree: the program's answer is the model's, and the argument stays.
  Conditions: none.
  TreeApart: the program and the model answer the same; the law FnExactTreeApart.
  Conditions: none beyond what each theorem states.
  What the laws on trees as nets ask: covers and those apart are as many in the tree as in the net of its roads.
  Conditions: none beyond what each theorem states.
  TreeCover of the model.
  Conditions: none beyond what each theorem states.
  A walk over the program's tree, for the visit TreeCover$1, which writes into one block: walk, walked.
  Conditions: none beyond what each theorem states.
-/
import Derived.Test.YtkgomgfhhhdnjabZ17
import Derived.Test.YtkgomgfhhhdnjabZ18
import Derived.Test.YtkgomgfhhhdnjabZ7
import Derived.Test.YtkgomgfhhhdnjabZ15
import Derived.Test.YtkgomgfhhhdnjabZ5
import Derived.Test.YtkgomgfhhhdnjabZ16
import Derived.Laws.EntriesVeiled
namespace Go.Proofs.Ytkgomgfhhhdnjab
open Go.ChangeShapes Go.WideShapes Go.ChangeAt Go.RowKit
set_option linter.unusedVariables false
set_option maxRecDepth 4000

theorem tsm_bd {t : List (Int × Int)} {fs : List Int} (ht : Ahead t) {n a : Nat} (hn : n ≤ t.length) (hn7 : n ≤ 7) (ha : a < n) (hf : ∀ i, i < n → 0 ≤ fs.getD i 0 ∧ fs.getD i 0 ≤ 20) : ∀ m, m ≤ n → 0 ≤ tsm t fs n a m ∧ tsm t fs n a m ≤ 20000 * m
  | 0, _ => by simp [tsm]
  | m + 1, hm => by
    obtain ⟨h1, h2⟩ := tsm_bd ht hn hn7 ha hf m (by omega)
    obtain ⟨d1, d2⟩ := dn_bd ht n a m hn ha (by omega)
    obtain ⟨f1, f2⟩ := hf m (by omega)
    have m1 : 0 ≤ fs.getD m 0 * dn t n a m := Int.mul_nonneg f1 d1
    have m2 : fs.getD m 0 * dn t n a m ≤ 20 * 1000 := Int.mul_le_mul f2 (by omega) d1 (by omega)
    simp only [tsm]
    omega
theorem sValidTree_is (A : Option Addr) (c n : Nat) (ts : List (Int × Int)) (w : World) (B : Nat) (hr : RdR w B A ts) (hn : ts.length = n) (hb : n ≤ 1152921504606846976) {b : Bool} (h : vt ts = b) :
    Calls Try.prog 57 #[.slice A n c] w fun e w' => e = .returned (.bool b) ∧ w = w' := by
  subst h; exact sValidTree_in A c n ts w B hr hn hb
theorem sValidFolk_is (A : Option Addr) (c n m : Nat) (fs : List Int) (w : World) (B : Nat) (hr : RdI w B A fs) (hn : fs.length = n) (hb : n ≤ 1152921504606846976) {b : Bool} (h : fk m fs = b) :
    Calls Try.prog 70 #[.int .i64 m, .slice A n c] w fun e w' => e = .returned (.bool b) ∧ w = w' := by
  subst h; exact sValidFolk_any A c n m fs w B hr hn hb

set_option maxHeartbeats 1600000 in
theorem sTreeSum_any (A Af : Option Addr) (c n cf nf : Nat) (ts : List (Int × Int)) (fs : List Int) (a : Int) (w : World) (hr : RdR w w.heap.size A ts) (hn : ts.length = n) (hb : n ≤ 1152921504606846976)
    (hrf : RdI w w.heap.size Af fs) (hnf : fs.length = nf) (hbf : nf ≤ 1152921504606846976) (hwa : (Lit.int .i64 a).wf = true) :
    Calls Try.prog 27 #[.slice A n c, .slice Af nf cf, .int .i64 a] w fun e w' => e = .returned (.int .i64 (tsv ts fs a)) ∧ Below w.heap.size w w' := by
  by_cases hv : vt ts = true
  · obtain ⟨h1, h7, -⟩ := (vt_iff ts).1 hv
    rw [hn] at h1 h7
    have H1 := Lib.hid (sValidTree_is A c n ts w _ hr hn hb hv)
    by_cases hf : fk n fs = true
    · have H2 := Lib.hid (sValidFolk_is Af cf nf n fs w _ hrf hnf hbf hf)
      by_cases ha : a < 0 ∨ (n : Int) - 1 < a
      · have Hs := Lib.hid (tsv_no (a := a) (.inr (.inr ⟨hv, by rw [hn]; exact hf, by rw [hn]; omega⟩)))
        have w1 : IntKind.i64.wrap ((n : Int) - 1) = (n : Int) - 1 := IntWalk.i64_in _ (by omega)
        have H3 := Lib.hid (inRange_no a 0 ((n : Int) - 1) w ha)
        clear hv hf hr hrf hn hnf ha
        go_enter Try.func27, Try.ntmps27
        go_wp2_with fail
        refine H1.out.mono ?_
        rintro e w' ⟨rfl, rfl⟩
        go_wp2_with fail
        refine H2.out.mono ?_
        rintro e w' ⟨rfl, rfl⟩
        go_wp2_with fail
        refine H3.out.mono ?_
        rintro e w' ⟨rfl, rfl⟩
        go_wp2
        go_ret
        exact ⟨ret_int Hs.out.symm, Below.refl _ _⟩
      · obtain ⟨k, rfl⟩ := Int.eq_ofNat_of_zero_le (show 0 ≤ a by omega)
        have hk : k < n := by omega
        have Hs := Lib.hid (show tsv ts fs (k : Int) = tsm ts fs n k n by unfold tsv; rw [if_pos ⟨hv, by rw [hn]; exact hf, by omega, by rw [hn]; omega⟩, hn]; rfl)
        have H3 := Lib.hid (inRange_yes (k : Int) 0 ((n : Int) - 1) w (by omega) (by omega))
        have Ht := Lib.hid (treeTable_any A c n ts w hr hn hv)
        have Hn := Lib.hid hn
        have Hk := Lib.hid (fk_iff hf)
        have Hbd := Lib.hid (tsm_bd (fs := fs) (vt_ahead hv) (n := n) (a := k) (by omega) h7 hk (fk_iff hf).2)
        have Hdn := Lib.hid (fun j (hj : j < n) => dn_bd (vt_ahead hv) n k j (by omega) hk hj)
        have hnfn : nf = n := by have := (fk_iff hf).1; omega
        have Hnf := Lib.hid hnf
        subst hnfn
        clear hv hf hr ha hn hnf
        go_enter Try.func27, Try.ntmps27
        go_wp2_with fail
        refine H1.out.mono ?_
        rintro e w' ⟨rfl, rfl⟩
        go_wp2_with fail
        refine H2.out.mono ?_
        rintro e w' ⟨rfl, rfl⟩
        go_wp2_with fail
        refine H3.out.mono ?_
        rintro e w' ⟨rfl, rfl⟩
        go_wp2_with fail
        refine Ht.out.mono ?_
        rintro e w1 ⟨v, VR, rfl, hO, hT, hnx1⟩
        rw [Hn.out] at hO hT
        obtain ⟨A', c', rfl, -, -, hA⟩ := own_sliceN hO
        obtain ⟨g, rfl, -, -⟩ := hA (by omega)
        have HO := Lib.hid hO
        have HT := Lib.hid hT
        have HB1 := Lib.hid hnx1
        clear hO hT hnx1 hA
        go_wp2
        go_loopw [7, 9] (fun o i wr => ∃ m : Nat, ∃ q, m ≤ nf ∧ i = .int .i64 m ∧ o = .int .i64 (tsm ts fs nf k m) ∧ wr = w1.drewN q) (fun _ i _ => nf - (intOf i).toNat)
        case atStart => exact ⟨0, 0, Nat.zero_le _, rfl, rfl, rfl⟩
        case round =>
          obtain ⟨m, q, hm, rfl, rfl, rfl⟩ := hrel
          by_cases hlt : m < nf
          · obtain ⟨b, off, x, rfl, hbb, Hx, hcx⟩ := (hrf.below HB1.out).x (k := m) (by rw [Hnf.out]; exact hlt)
            obtain ⟨gk, ck, hvk, hck⟩ := HT.out.cells hk (k := m) (by rw [rowN_len]; exact hlt)
            have hok := Outer.cell HO.out hk
            rw [hvk, rowN_len] at hok
            rw [rowN_get ts hlt] at hck
            obtain ⟨d, Hd⟩ : ∃ d, Hid (dn ts nf k m = d) := ⟨_, rfl⟩
            have hdb := Hdn.out m hlt
            have hxb := Hk.out.2 m hlt
            have hs1 := Hbd.out m hm
            have hst : Hid (tsm ts fs nf k (m + 1) = tsm ts fs nf k m + x * d) := by
              show tsm ts fs nf k (m + 1) = _
              simp only [tsm]; rw [Hx.out, Hd.out]
            rw [Hd.out] at hck hdb
            rw [Hx.out] at hxb
            obtain ⟨S, HS⟩ : ∃ S, Hid (tsm ts fs nf k m = S) := ⟨_, rfl⟩
            rw [HS.out] at hs1 hst ⊢
            have hxd : 0 ≤ x * d := Int.mul_nonneg hxb.1 hdb.1
            have hxd2 : x * d ≤ 20 * 1000 := Int.mul_le_mul hxb.2 (by omega) hdb.1 (by omega)
            have w1' : IntKind.i64.wrap (x * d) = x * d := IntWalk.i64_in _ (by omega)
            have w2' : IntKind.i64.wrap (S + x * d) = S + x * d := IntWalk.i64_in _ (by omega)
            clear hvk
            go_wp2
            go_quiet (fail)
            clear w1' w2'
            go_wp2
            go_roundw
            case rel => exact ⟨m + 1, _, by omega, by go_num, by rw [hst.out], rfl⟩
            case measure => simp [intOf]; omega
          · have hmn : m = nf := by omega
            subst hmn
            go_wp2
            go_ret
            exact ⟨ret_int Hs.out.symm, below_drewN HB1.out _⟩
    · have hf' : fk n fs = false := by simpa using hf
      have Hs := Lib.hid (tsv_no (a := a) (.inr (.inl ⟨hv, by rw [hn]; exact hf'⟩)))
      have H2 := Lib.hid (sValidFolk_is Af cf nf n fs w _ hrf hnf hbf hf')
      clear hv hf hf' hr hrf hn hnf
      go_enter Try.func27, Try.ntmps27
      go_wp2_with fail
      refine H1.out.mono ?_
      rintro e w' ⟨rfl, rfl⟩
      go_wp2_with fail
      refine H2.out.mono ?_
      rintro e w' ⟨rfl, rfl⟩
      go_wp2
      go_ret
      exact ⟨ret_int Hs.out.symm, Below.refl _ _⟩
  · have hv' : vt ts = false := by simpa using hv
    have Hs := Lib.hid (tsv_no (fs := fs) (a := a) (.inl hv'))
    have H1 := Lib.hid (sValidTree_is A c n ts w _ hr hn hb hv')
    clear hv hv' hr hrf hn hnf
    go_enter Try.func27, Try.ntmps27
    go_wp2_with fail
    refine H1.out.mono ?_
    rintro e w' ⟨rfl, rfl⟩
    go_wp2
    go_ret
    exact ⟨ret_int Hs.out.symm, Below.refl _ _⟩
end Go.Proofs.Ytkgomgfhhhdnjab
namespace Go.Proofs.Ytkgomgfhhhdnjab
open Go.ChangeShapes Go.WideShapes Go.ChangeAt Go.RowKit
set_option linter.unusedVariables false
set_option maxRecDepth 4000

theorem packing_any (w : World) (B n g0 c : Nat) (far : Int) (VR : Nat → Value) (t : List (Int × Int)) (ht : Ahead t) (hnt : n ≤ t.length) (hn1 : 1 ≤ n) (hn7 : n ≤ 7) (hO : Outer w B n (.slice (some ⟨g0, 0, none⟩) n c) VR) (hT : TT w B n VR (rowN t n)) :
    Calls Try.prog 86 #[.slice (some ⟨g0, 0, none⟩) n c, .int .i64 far] w fun e w' => e = .returned (.int .i64 ((pkB (dn t n) far n (2 ^ n) : Nat) : Int)) ∧ w = w' :=
  packX_any w B n g0 c far VR (dn t n) hn1 hn7 hO hT
end Go.Proofs.Ytkgomgfhhhdnjab
namespace Go.Proofs.Ytkgomgfhhhdnjab
open Go.ChangeShapes Go.WideShapes Go.ChangeAt Go.RowKit
set_option linter.unusedVariables false

theorem eqR_same (A A' : Option Addr) (c c' n n' : Nat) (ts : List (Int × Int)) (w : World) (B B' : Nat) (hr : RdR w B A ts) (hn : ts.length = n) (hr' : RdR w B' A' ts) (hn' : ts.length = n') (hb : n ≤ 1048576) (hB : B ≤ w.heap.size) (hB' : B' ≤ w.heap.size) :
    Calls Try.prog 44 #[.slice A n c, .slice A' n' c'] w fun e w' => e = .returned (.bool true) ∧ Below w.heap.size w w' :=
  (eqR_any A A' c c' n n' ts ts w B B' hr hn hr' hn' hb hB hB').mono fun _ _ ⟨he, hw⟩ => ⟨by rw [he]; simp, hw⟩
theorem szR_big (A : Option Addr) (c n : Nat) (w : World) (hn : n ≤ 9223372036854775807) (h : 1048576 < n) :
    Calls Try.prog 42 #[.slice A n c, .int .i64 1048576] w fun e w' => e = .returned (.int .i64 (-1)) ∧ w = w' :=
  (szR_any A c n 1048576 w hn (by omega)).mono fun _ _ ⟨he, hw⟩ => ⟨by rw [he, if_pos (by omega)], hw⟩
theorem szR_fits (A : Option Addr) (c n : Nat) (w : World) (h : n ≤ 1048576) :
    Calls Try.prog 42 #[.slice A n c, .int .i64 1048576] w fun e w' => ∃ q : Int, 0 ≤ q ∧ e = .returned (.int .i64 q) ∧ w = w' :=
  (szR_any A c n 1048576 w (by omega) (by omega)).mono fun _ _ ⟨he, hw⟩ => ⟨1048576 - n, by omega, by rw [he, if_neg (by omega)], hw⟩

theorem exValidTree_walk (A : Option Addr) (c : Nat) (ts : List (Int × Int)) (w : World) (hr : RdR w w.heap.size A ts) (hm : ts.length ≤ maxLen) :
    Calls Try.prog 10 #[.slice A ts.length c] w fun e w' => e = .returned (.bool true) ∧ Below w.heap.size w w' := by
  by_cases hb : 1048576 < ts.length
  · go_enter Try.func10, Try.ntmps10
    go_wp2_with fail
    refine (szR_big A c _ w (by unfold maxLen at hm; omega) hb).mono ?_
    rintro e w' ⟨rfl, rfl⟩
    go_wp2
    go_ret
    exact ⟨rfl, Below.refl _ _⟩
  · go_enter Try.func10, Try.ntmps10
    go_wp2_with fail
    refine (szR_fits A c _ w (by omega)).mono ?_
    rintro e w' ⟨q, hq, rfl, rfl⟩
    go_wp2_with fail
    refine (toR_any A c _ ts w hr rfl (by omega)).mono ?_
    rintro e w1 ⟨b1, rfl, hb1, hr1, hnx1, -⟩
    go_wp2_with fail
    refine (sValidTree_any _ _ _ ts w1 _ hr1 rfl (by omega)).mono ?_
    rintro e w' ⟨rfl, rfl⟩
    go_wp2_with fail
    have hra := (hr.below hnx1).more hnx1.size
    refine (toR_any A c _ ts w1 hra rfl (by omega)).mono ?_
    rintro e w2 ⟨b2, rfl, hb2, hr2, hnx2, -⟩
    go_wp2_with fail
    refine (iValidTree_any _ _ _ ts w2 _ hr2 rfl (Nat.le_refl _) (by omega) (Nat.le_refl _)).mono ?_
    rintro e w3 ⟨rfl, hnx3⟩
    go_wp2_with fail
    have hrb := ((hra.below hnx2).more hnx2.size |>.below hnx3).more hnx3.size
    refine (toR_any A c _ ts w3 hrb rfl (by omega)).mono ?_
    rintro e w4 ⟨b4, rfl, hb4, hr4, hnx4, -⟩
    go_wp2_with fail
    refine (eqR_same _ _ _ _ _ _ ts w4 _ _ ((hr2.below hnx3).below (hnx4.mono hnx3.size)) rfl hr4 rfl (by omega) (Nat.le_trans hnx3.size hnx4.size) (Nat.le_refl _)).mono ?_
    rintro e w5 ⟨rfl, hnx5⟩
    have h12 := hnx1.trans (hnx2.mono hnx1.size)
    have h13 := h12.trans (hnx3.mono h12.size)
    have h14 := h13.trans (hnx4.mono h13.size)
    have h15 := h14.trans (hnx5.mono h14.size)
    go_wp2
    go_ret
    exact ⟨rfl, h15⟩
end Go.Proofs.Ytkgomgfhhhdnjab
namespace Go.Proofs.Ytkgomgfhhhdnjab
open Go.ChangeShapes Go.WideShapes Go.ChangeAt Go.RowKit
set_option linter.unusedVariables false
set_option maxRecDepth 4000

/-- TreeApart's answer. -/
def apv (t : List (Int × Int)) (far : Int) : Int := if vt t = true ∧ 0 ≤ far ∧ far ≤ 50 then ((pkB (dn t t.length) far t.length (2 ^ t.length) : Nat) : Int) else -1
theorem apv_no {t : List (Int × Int)} {far : Int} (h : vt t = false ∨ far < 0 ∨ 50 < far) : apv t far = -1 := by
  unfold apv
  rw [if_neg]
  rintro ⟨h1, h2, h3⟩
  rcases h with h | h | h
  · rw [h1] at h; cases h
  · omega
  · omega
theorem mw_near {t : List (Int × Int)} (ht : Ahead t) {n : Nat} (hn : n ≤ t.length) (h7 : n ≤ 7) (far : Int) : mw (fun i => nmk (dn t n) far i n) n 0 0 = pkB (dn t n) far n (2 ^ n) :=
  mw_pkR h7 (fun i hi v => by
    rw [nmk_bit, dn_symm t n i v]
    constructor
    · rintro ⟨h1, h2, h3⟩; exact ⟨h1, (dn_bd ht n v i hn h1 hi).1, h3⟩
    · rintro ⟨h1, h2, h3⟩; exact ⟨h1, by omega, h3⟩)

set_option maxHeartbeats 1600000 in
theorem iTreeApart_any (A : Option Addr) (c n : Nat) (ts : List (Int × Int)) (far : Int) (w : World) (hr : RdR w w.heap.size A ts) (hn : ts.length = n) (hc : n ≤ c) (hb : n ≤ 1152921504606846976) :
    Calls Try.prog 31 #[.slice A n c, .int .i64 far] w fun e w' => e = .returned (.int .i64 (apv ts far)) ∧ Below w.heap.size w w' := by
  by_cases hv : vt ts = true
  · have H1 := Lib.hid (iValidTree_is A c n ts w _ hr hn hc hb (Nat.le_refl _) hv)
    by_cases hf : far < 0 ∨ 50 < far
    · have Hs := Lib.hid (apv_no (t := ts) (.inr hf))
      have H2 := Lib.hid (fun w2 => farOk_no far w2 hf)
      clear hv hf hr hn
      go_enter Try.func31, Try.ntmps31
      go_wp2_with fail
      refine H1.out.mono ?_
      rintro e w2 ⟨rfl, hnx2⟩
      have HB2 := Lib.hid hnx2
      clear hnx2
      go_wp2_with fail
      refine (H2.out w2).mono ?_
      rintro e w' ⟨rfl, rfl⟩
      go_wp2
      go_ret
      exact ⟨ret_int Hs.out.symm, HB2.out⟩
    · obtain ⟨h1, h7, -⟩ := (vt_iff ts).1 hv
      rw [hn] at h1 h7
      have H2 := Lib.hid (fun w2 => farOk_yes far w2 (by omega) (by omega))
      have Hs := Lib.hid (show apv ts far = ((mw (fun i => nmk (dn ts n) far i n) n 0 0 : Nat) : Int) by
        unfold apv; rw [if_pos ⟨hv, by omega, by omega⟩, mw_near (vt_ahead hv) (by omega) h7, hn])
      have Hr := Lib.hid hr
      have Hn := Lib.hid hn
      have Hv := Lib.hid hv
      clear hv hf hr hn
      go_enter Try.func31, Try.ntmps31
      go_wp2_with fail
      refine H1.out.mono ?_
      rintro e w2 ⟨rfl, hnx2⟩
      have HB2 := Lib.hid hnx2
      have Ht := Lib.hid (iTreeTable_any A c n ts w2 ((Hr.out.below hnx2).more hnx2.size) Hn.out hc hb)
      clear hnx2
      go_wp2_with fail
      refine (H2.out w2).mono ?_
      rintro e w' ⟨rfl, rfl⟩
      go_wp2_with fail
      refine Ht.out.mono ?_
      rintro e w4 (⟨hno, -, -⟩ | ⟨-, v, VR, rfl, hO, hT, hnx4⟩)
      · exact absurd (Hv.out.symm.trans hno) (by decide)
      rw [Hn.out] at hO hT
      obtain ⟨Ag, cg, rfl, -, -, hA⟩ := own_sliceN hO
      obtain ⟨g, rfl, -, -⟩ := hA (by omega)
      have Hns := Lib.hid (nearSetsT_any w4 w2.heap.size n g cg far VR ts h1 h7 hO hT)
      have HB4 := Lib.hid (HB2.out.trans (hnx4.mono HB2.out.size))
      clear hO hT hnx4 hA
      go_wp2_with fail
      refine Hns.out.mono ?_
      rintro e w5 ⟨g5, rfl, hown5, hnx5⟩
      have HB5 := Lib.hid (HB4.out.trans (hnx5.mono HB4.out.size))
      have hru : RdU w5 (some ⟨g5, 0, none⟩) (fun i => nmk (dn ts n) far i n) 0 n := fun _ => ⟨g5, 0, rfl, fun i hi => by
        rw [Nat.zero_add, hown5.cellAt i (by omega)]
        simp [Ms, hi]⟩
      have h128 : ∀ i, nmk (dn ts n) far i n < 128 := fun i => pow_128 h7 (nmk_lt _ _ _ _)
      have Hm := Lib.hid (mostW_any (fun i => nmk (dn ts n) far i n) h128 n 0 0 n (some ⟨g5, 0, none⟩) w5 hru (Nat.le_refl _) h7 (by omega))
      clear hown5 hnx5 hru h128
      go_wp2_with fail
      refine Hm.out.mono ?_
      rintro e w6 ⟨rfl, q, rfl⟩
      go_wp2
      go_ret
      exact ⟨ret_int Hs.out.symm, below_drewN HB5.out _⟩
  · have hv' : vt ts = false := by simpa using hv
    have Hs := Lib.hid (apv_no (far := far) (.inl hv'))
    have H1 := Lib.hid (iValidTree_is A c n ts w _ hr hn hc hb (Nat.le_refl _) hv')
    clear hv hv' hr hn
    go_enter Try.func31, Try.ntmps31
    go_wp2_with fail
    refine H1.out.mono ?_
    rintro e w2 ⟨rfl, hnx2⟩
    have HB2 := Lib.hid hnx2
    clear hnx2
    go_wp2
    go_ret
    exact ⟨ret_int Hs.out.symm, HB2.out⟩
set_option maxHeartbeats 1600000 in
theorem sTreeApart_any (A : Option Addr) (c n : Nat) (ts : List (Int × Int)) (far : Int) (w : World) (hr : RdR w w.heap.size A ts) (hn : ts.length = n) (hb : n ≤ 1152921504606846976) :
    Calls Try.prog 49 #[.slice A n c, .int .i64 far] w fun e w' => e = .returned (.int .i64 (apv ts far)) ∧ Below w.heap.size w w' := by
  by_cases hv : vt ts = true
  · have H1 := Lib.hid (sValidTree_is A c n ts w _ hr hn hb hv)
    by_cases hf : far < 0 ∨ 50 < far
    · have Hs := Lib.hid (apv_no (t := ts) (.inr hf))
      have H2 := Lib.hid (inRange_no far 0 50 w hf)
      clear hv hf hr hn
      go_enter Try.func49, Try.ntmps49
      go_wp2_with fail
      refine H1.out.mono ?_
      rintro e w' ⟨rfl, rfl⟩
      go_wp2_with fail
      refine H2.out.mono ?_
      rintro e w' ⟨rfl, rfl⟩
      go_wp2
      go_ret
      exact ⟨ret_int Hs.out.symm, Below.refl _ _⟩
    · obtain ⟨h1, h7, -⟩ := (vt_iff ts).1 hv
      rw [hn] at h1 h7
      have H2 := Lib.hid (inRange_yes far 0 50 w (by omega) (by omega))
      have Hs := Lib.hid (show apv ts far = ((pkB (dn ts n) far n (2 ^ n) : Nat) : Int) by unfold apv; rw [if_pos ⟨hv, by omega, by omega⟩, hn])
      have Ht := Lib.hid (treeTable_any A c n ts w hr hn hv)
      have Hn := Lib.hid hn
      have Hv := Lib.hid hv
      clear hv hf hr hn
      go_enter Try.func49, Try.ntmps49
      go_wp2_with fail
      refine H1.out.mono ?_
      rintro e w' ⟨rfl, rfl⟩
      go_wp2_with fail
      refine H2.out.mono ?_
      rintro e w' ⟨rfl, rfl⟩
      go_wp2_with fail
      refine Ht.out.mono ?_
      rintro e w4 ⟨v, VR, rfl, hO, hT, hnx4⟩
      rw [Hn.out] at hO hT
      obtain ⟨Ag, cg, rfl, -, -, hA⟩ := own_sliceN hO
      obtain ⟨g, rfl, -, -⟩ := hA (by omega)
      have Hp := Lib.hid (packing_any w4 w.heap.size n g cg far VR ts (vt_ahead Hv.out) (by rw [Hn.out]; exact Nat.le_refl _) h1 h7 hO hT)
      have HB4 := Lib.hid hnx4
      clear hO hT hnx4 hA
      go_wp2_with fail
      refine Hp.out.mono ?_
      rintro e w' ⟨rfl, rfl⟩
      go_wp2
      go_ret
      exact ⟨ret_int Hs.out.symm, HB4.out⟩
  · have hv' : vt ts = false := by simpa using hv
    have Hs := Lib.hid (apv_no (far := far) (.inl hv'))
    have H1 := Lib.hid (sValidTree_is A c n ts w _ hr hn hb hv')
    clear hv hv' hr hn
    go_enter Try.func49, Try.ntmps49
    go_wp2_with fail
    refine H1.out.mono ?_
    rintro e w' ⟨rfl, rfl⟩
    go_wp2
    go_ret
    exact ⟨ret_int Hs.out.symm, Below.refl _ _⟩

set_option maxHeartbeats 1600000 in
theorem exTreeApart_walk (A : Option Addr) (c : Nat) (ts : List (Int × Int)) (far : Int) (w : World) (hr : RdR w w.heap.size A ts) (hm : ts.length ≤ maxLen) (hwa : (Lit.int .i64 far).wf = true) :
    Calls Try.prog 13 #[.slice A ts.length c, .int .i64 far] w fun e w' => e = .returned (.bool true) ∧ Below w.heap.size w w' := by
  unfold maxLen at hm
  by_cases hb : 1048576 < ts.length
  · go_enter Try.func13, Try.ntmps13
    go_wp2_with fail
    refine (szR_big A c _ w hm hb).mono ?_
    rintro e w' ⟨rfl, rfl⟩
    go_wp2
    go_ret
    exact ⟨rfl, Below.refl _ _⟩
  · clear hwa
    go_enter Try.func13, Try.ntmps13
    go_wp2_with fail
    refine (szR_fits A c _ w (by omega)).mono ?_
    rintro e w' ⟨q, hq, rfl, rfl⟩
    go_wp2_with fail
    refine (toR_any A c _ ts w hr rfl (by omega)).mono ?_
    rintro e w1 ⟨b1, rfl, hb1, hr1, hnx1, -⟩
    have hra1 := (hr.below hnx1).more hnx1.size
    go_wp2_with fail
    refine (sTreeApart_any _ _ _ ts far w1 hr1 rfl (by omega)).mono ?_
    rintro e w3 ⟨rfl, hnx3⟩
    have h13 := hnx1.trans (hnx3.mono hnx1.size)
    have hra3 := (hra1.below hnx3).more hnx3.size
    go_wp2_with fail
    refine (toR_any A c _ ts w3 hra3 rfl (by omega)).mono ?_
    rintro e w4 ⟨b4, rfl, hb4, hr4, hnx4, -⟩
    have h14 := h13.trans (hnx4.mono h13.size)
    have hra4 := (hra3.below hnx4).more hnx4.size
    go_wp2_with fail
    refine (iTreeApart_any _ _ _ ts far w4 hr4 rfl (Nat.le_refl _) (by omega)).mono ?_
    rintro e w6 ⟨rfl, hnx6⟩
    have h16 := h14.trans (hnx6.mono h14.size)
    have hr6 := (hr4.below hnx6).more hnx6.size
    have hra6 := (hra4.below hnx6).more hnx6.size
    have hbn : ∀ x : Int, (x != x) = false := fun x => by simp
    go_wp2_with fail
    refine (toR_any A c _ ts w6 hra6 rfl (by omega)).mono ?_
    rintro e w7 ⟨b7, rfl, hb7, hr7, hnx7, -⟩
    have h17 := h16.trans (hnx7.mono h16.size)
    go_wp2_with fail
    refine (eqR_same _ _ _ _ _ _ ts w7 _ _ ((hr6.below hnx7).more hnx7.size) rfl hr7 rfl (by omega) (Nat.le_refl _) (Nat.le_refl _)).mono ?_
    rintro e w8 ⟨rfl, hnx8⟩
    have h18 := h17.trans (hnx8.mono h17.size)
    go_wp2
    go_ret
    exact ⟨rfl, h18⟩
end Go.Proofs.Ytkgomgfhhhdnjab
namespace Go.Proofs.Ytkgomgfhhhdnjab
open Go.ChangeShapes Go.WideShapes Go.ChangeAt Go.RowKit
set_option linter.unusedVariables false
set_option maxRecDepth 4000

theorem cvv_has {ts : List (Int × Int)} {far : Int} (h : 0 ≤ cvv ts far) : vt ts = true ∧ 0 ≤ far ∧ far ≤ 50 := by
  unfold cvv at h
  split at h
  · assumption
  · omega
theorem apv_has {ts : List (Int × Int)} {far : Int} (h : 0 ≤ apv ts far) : vt ts = true ∧ 0 ≤ far ∧ far ≤ 50 := by
  unfold apv at h
  split at h
  · assumption
  · omega
theorem tree_facts {ts : List (Int × Int)} {far : Int} (hv : vt ts = true) (h0 : 0 ≤ far) (h1 : far ≤ 50) : apv ts far = cvv ts far ∧ ncv ts.length (strOf ts) far = cvv ts far ∧ nap ts.length (strOf ts) far = cvv ts far := by
  obtain ⟨g1, g7, -⟩ := (vt_iff ts).1 hv
  have hn := strOf_net hv
  obtain ⟨e1, e2⟩ := tree_cover (far := far) (vt_ahead hv) h0 (Nat.le_refl ts.length) g7
  have ea : apv ts far = ((pkB (dn ts ts.length) far ts.length (2 ^ ts.length) : Nat) : Int) := if_pos ⟨hv, h0, h1⟩
  have ec : cvv ts far = ((covC ts (dn ts ts.length) far ts.length ts.length (fun _ => false) : Nat) : Int) := if_pos ⟨hv, h0, h1⟩
  refine ⟨by rw [ea, ec, e1], ?_, ?_⟩
  · rw [ncv_yes hn h0 h1, ec, e1, ← e2, cvN_congr fun a b ha hb => strOf_dn hv ha hb]
  · rw [nap_yes hn h0 h1, ec, e1, pkB_congr fun a b ha hb => strOf_dn hv ha hb]
theorem cvv_bd (ts : List (Int × Int)) (far : Int) : -1 ≤ cvv ts far := by
  unfold cvv
  split <;> omega
/-- With as many helpers as a cover needs, the farthest is near enough, and so near a cover needs no more. -/
theorem nets_facts {ts : List (Int × Int)} {far : Int} (h1 : 1 ≤ cvv ts far) (h4 : cvv ts far ≤ 4) : 0 ≤ nfr ts.length (strOf ts) (cvv ts far) ∧ nfr ts.length (strOf ts) (cvv ts far) ≤ far ∧ cvv ts (nfr ts.length (strOf ts) (cvv ts far)) ≤ cvv ts far := by
  obtain ⟨hv, h0, h50⟩ := cvv_has (ts := ts) (far := far) (by omega)
  have hf := far_facts (strOf_net hv) h1 h4
  have e1 := (tree_facts hv h0 h50).2.1
  obtain ⟨a1, a2⟩ := (hf far h0 h50).1 (by rw [e1]; omega)
  refine ⟨a1, a2, ?_⟩
  have e2 := (tree_facts hv a1 (by omega)).2.1
  rw [← e2]
  exact (hf _ a1 (by omega)).2 ⟨a1, by omega⟩
end Go.Proofs.Ytkgomgfhhhdnjab
namespace Go.Proofs.Ytkgomgfhhhdnjab
open Go.ChangeShapes Go.WideShapes Go.ChangeAt Go.RowKit
set_option linter.unusedVariables false
set_option maxRecDepth 4000

theorem boolInfo : (Try.prog.info? 4).map (fun i => (i.zero, i.size, i.bytes)) = some (some (.bool false), 1, 1) := by kernel_rfl
theorem made_none (n : Nat) : (madeCells (Value.bool false).cells (n * 1)).toList = hrow (fun _ => false) n := by
  rw [Nat.mul_one]
  refine (toList_madeCells_one _ _).trans ?_
  unfold hrow
  apply List.ext_getElem?
  intro i
  by_cases h : i < n
  · simp [h]
  · rw [List.getElem?_eq_none (by simp; omega), List.getElem?_eq_none (by simp; omega)]
/-- A cell of the table, read in any later world. -/
theorem tab_at {wT wr : World} {B g c n v i : Nat} {VR : Nat → Value} {t : List (Int × Int)} (hO : Outer wT B n (.slice (some ⟨g, 0, none⟩) n c) VR) (hT : TT wT B n VR (rowN t n)) (hb : Below wT.heap.size wT wr) (hv : v < n) (hi : i < n) :
    ∃ gk ck, wr.cell? ⟨g, v, none⟩ = some (.slice (some ⟨gk, 0, none⟩) n ck) ∧ wr.cell? ⟨gk, i, none⟩ = some (.int .i64 (dn t n v i)) := by
  obtain ⟨gk, ck, e, hc⟩ := (hT.below hb).cells hv (k := i) (by rw [rowN_len]; exact hi)
  have h1 := Outer.cell (ownN_below hO hb) hv
  rw [e, rowN_len] at h1
  rw [rowN_get t hi] at hc
  exact ⟨gk, ck, h1, hc⟩
theorem Below.drewN2 {B : Nat} {a w : World} (h : Below B a w) (n : Nat) : Below B a (w.drewN n) := below_drewN h n

def CovRel (wT : World) (t : List (Int × Int)) (far : Int) (n : Nat) (T : Int) (o : Value) (wr : World) : Prop :=
  ∃ out : Nat, ∃ has : Nat → Bool, o = .int .i64 out ∧ leftC has n + out ≤ n ∧ Hid (T = out + covC t (dn t n) far n (n - out) has) ∧
    wr.ownsRow wT.heap.size 4 1 (.slice (some ⟨wT.heap.size, 0, none⟩) n n) n (hrow has n) ∧ Below wT.heap.size wT wr
def MarkRel (wT : World) (t : List (Int × Int)) (far : Int) (n : Nat) (has : Nat → Bool) (s : Nat) (i : Value) (wr : World) : Prop :=
  ∃ k : Nat, k ≤ n ∧ i = .int .i64 k ∧ wr.ownsRow wT.heap.size 4 1 (.slice (some ⟨wT.heap.size, 0, none⟩) n n) n (hrow (midC (dn t n) far has s k) n) ∧ Below wT.heap.size wT wr
theorem mark_store {w : World} {B b n cap k : Nat} {has : Nat → Bool} (v : Bool) (hk : k < n) (h : w.ownsRow B 4 1 (.slice (some ⟨b, 0, none⟩) n cap) n (hrow has n)) :
    (w.setCell ⟨b, k, none⟩ (.bool v)).ownsRow B 4 1 (.slice (some ⟨b, 0, none⟩) n cap) n (hrow (upd has k v) n) := by
  have h2 := (h.stored k (.bool v)).1
  rwa [hrow_set _ _ hk] at h2

set_option maxHeartbeats 1600000 in
theorem sTreeCover_any (A : Option Addr) (c n : Nat) (ts : List (Int × Int)) (far : Int) (w : World) (hr : RdR w w.heap.size A ts) (hn : ts.length = n) (hb : n ≤ 1152921504606846976) :
    Calls Try.prog 30 #[.slice A n c, .int .i64 far] w fun e w' => e = .returned (.int .i64 (cvv ts far)) ∧ Below w.heap.size w w' := by
  obtain ⟨i0, hi0, hz0, hz1, hz2⟩ := info_parts boolInfo
  by_cases hv : vt ts = true
  · have H1 := Lib.hid (sValidTree_is A c n ts w _ hr hn hb hv)
    by_cases hf : far < 0 ∨ 50 < far
    · have Hs := Lib.hid (cvv_no (t := ts) (.inr hf))
      have H2 := Lib.hid (inRange_no far 0 50 w hf)
      clear hv hf hr hn
      go_enter Try.func30, Try.ntmps30
      go_wp2_with fail
      refine H1.out.mono ?_
      rintro e w' ⟨rfl, rfl⟩
      go_wp2_with fail
      refine H2.out.mono ?_
      rintro e w' ⟨rfl, rfl⟩
      go_wp2
      go_ret
      exact ⟨ret_int Hs.out.symm, Below.refl _ _⟩
    · obtain ⟨h1, h7, -⟩ := (vt_iff ts).1 hv
      rw [hn] at h1 h7
      have H2 := Lib.hid (inRange_yes far 0 50 w (by omega) (by omega))
      obtain ⟨T, HT0⟩ : ∃ T, Hid (cvv ts far = T) := ⟨_, rfl⟩
      have Hs := Lib.hid (show T = ((0 : Nat) : Int) + covC ts (dn ts n) far n (n - 0) (fun _ => false) by
        rw [← HT0.out, cvv_yes hv (by omega) (by omega), hn]; simp)
      rw [HT0.out]
      have Ht := Lib.hid (treeTable_any A c n ts w hr hn hv)
      have Hn := Lib.hid hn
      have Ha := Lib.hid (vt_ahead hv)
      have Hv := Lib.hid hv
      have Hr := Lib.hid hr
      have hf0 : 0 ≤ far := by omega
      have hf1 : far ≤ 50 := by omega
      clear hv hf hr hn
      go_enter Try.func30, Try.ntmps30
      go_wp2_with fail
      refine H1.out.mono ?_
      rintro e w' ⟨rfl, rfl⟩
      go_wp2_with fail
      refine H2.out.mono ?_
      rintro e w' ⟨rfl, rfl⟩
      go_wp2_with fail
      refine Ht.out.mono ?_
      rintro e w4 ⟨v, VR, rfl, hO, hT, hnx4⟩
      rw [Hn.out] at hO hT
      obtain ⟨Ag, cg, rfl, -, -, hA⟩ := own_sliceN hO
      obtain ⟨g, rfl, -, -⟩ := hA (by omega)
      have HTab := Lib.hid (fun (wr : World) (hb : Below w4.heap.size w4 wr) v i (hv : v < n) (hi : i < n) => tab_at hO hT hb hv hi)
      have HB4 := Lib.hid hnx4
      have Hr4 := Lib.hid ((Hr.out.below hnx4).more hnx4.size)
      have Hdb := Lib.hid (fun v i (hv : v < n) (hi : i < n) => dn_bd Ha.out n v i (by rw [Hn.out]; exact Nat.le_refl _) hv hi)
      clear hO hT hnx4 hA Hr Ht H1 H2
      go_wp2_with (at_make; refine wpList_make_full _ rfl _ _ 84 rfl w4.heap.size 4 i0 _ 1 Try.underlying84 hi0 hz0 hz1 _ _ _ _ n rfl rfl rfl rfl (by rw [hz2]; omega) (by unfold maxLen; omega) (Nat.le_refl _) ?_; intro w5 hown5 hg5)
      have hnx5 : Below w4.heap.size w4 w5 := (Below.refl _ _).grown hg5 (Nat.le_refl _) (fun j hj => by cases hj)
      rw [made_none] at hown5
      have Hown5 := Lib.hid hown5
      clear hown5 hg5
      go_loopw [7] (fun o wr => CovRel w4 ts far n T o wr) (fun o _ => n - (intOf o).toNat)
      case atStart => exact ⟨0, fun _ => false, rfl, by rw [leftC_none]; omega, Hs.out, Hown5.out, hnx5⟩
      case round =>
        clear hnx5 Hown5 Hs
        obtain ⟨out, has, rfl, hlf, HC, hown, hbl⟩ := hrel
        obtain ⟨wo, rfl⟩ : ∃ wo : World, wo = wr := ⟨_, rfl⟩
        have Hown := Lib.hid hown
        clear hown
        go_wp2
        go_loopw [8, 9] (fun a i wr => ∃ k : Nat, ∃ q : Nat, k ≤ n ∧ i = .int .i64 k ∧ a = .int .i64 (fstC (dn ts n 0) has k) ∧ wr = wo.drewN q) (fun _ i _ => n - (intOf i).toNat)
        case atStart => exact ⟨0, 0, Nat.zero_le _, rfl, rfl, rfl⟩
        case round =>
          obtain ⟨k, q, hk, rfl, rfl, rfl⟩ := hrel
          have hab := fstC_bd (dn ts n 0) has k
          obtain ⟨a, Hae⟩ : ∃ a, Hid (fstC (dn ts n 0) has k = a) := ⟨_, rfl⟩
          rw [Hae.out] at hab ⊢
          by_cases hkn : k < n
          · have hck := Hown.out.cellAt k (by omega)
            rw [hrow_at has hkn] at hck
            obtain ⟨hb', Hhb⟩ : ∃ b, Hid (has k = b) := ⟨_, rfl⟩
            rw [Hhb.out] at hck
            cases hb' with
            | true =>
              have Hx := Lib.hid (show fstC (dn ts n 0) has (k + 1) = a by rw [fstC_no (by rw [Hhb.out]; simp), Hae.out])
              go_wp2
              go_quiet (fail)
              go_wp2
              go_roundw
              case rel => exact ⟨k + 1, _, by omega, by go_num, by rw [Hx.out], rfl⟩
              case measure => simp [intOf]; omega
            | false =>
              by_cases ha0 : a < 0
              · have Hx := Lib.hid (show fstC (dn ts n 0) has (k + 1) = k from fstC_yes ⟨Hhb.out, .inl (by rw [Hae.out]; exact ha0)⟩)
                go_wp2
                go_quiet (fail)
                go_wp2
                go_roundw
                case rel => exact ⟨k + 1, _, by omega, by go_num, by rw [Hx.out], rfl⟩
                case measure => simp [intOf]; omega
              · obtain ⟨a, rfl⟩ := Int.eq_ofNat_of_zero_le (show 0 ≤ a by omega)
                have han : a < n := by omega
                have hdec : decide ((a : Int) < 0) = false := decide_eq_false (by omega)
                obtain ⟨g0, c0, hc1, hc2⟩ := HTab.out wo hbl 0 k (by omega) hkn
                obtain ⟨g0', c0', hc1', hc3⟩ := HTab.out wo hbl 0 a (by omega) han
                rw [hc1] at hc1'
                injection hc1' with hc1'
                injection hc1' with e1 e2 e3
                injection e1 with e1
                injection e1 with e1 _
                subst e1
                obtain ⟨x, Hx⟩ : ∃ x, Hid (dn ts n 0 k = x) := ⟨_, rfl⟩
                obtain ⟨y, Hy⟩ : ∃ y, Hid (dn ts n 0 a = y) := ⟨_, rfl⟩
                rw [Hx.out] at hc2
                rw [Hy.out] at hc3
                by_cases hxy : y < x
                · have Hx' := Lib.hid (show fstC (dn ts n 0) has (k + 1) = k from fstC_yes ⟨Hhb.out, .inr (by rw [Hae.out]; show dn ts n 0 a < _; rw [Hx.out, Hy.out]; exact hxy)⟩)
                  go_wp2
                  go_quiet (fail)
                  go_wp2
                  go_roundw
                  case rel => exact ⟨k + 1, _, by omega, by go_num, by rw [Hx'.out], rfl⟩
                  case measure => simp [intOf]; omega
                · have Hx' := Lib.hid (show fstC (dn ts n 0) has (k + 1) = (a : Int) by
                    rw [fstC_no (by
                      rintro ⟨_, h | h⟩
                      · rw [Hae.out] at h; omega
                      · rw [Hae.out] at h
                        have h' : dn ts n 0 a < dn ts n 0 k := h
                        rw [Hx.out, Hy.out] at h'; exact hxy h'), Hae.out])
                  go_wp2
                  go_quiet (fail)
                  go_wp2
                  go_roundw
                  case rel => exact ⟨k + 1, _, by omega, by go_num, by rw [Hx'.out], rfl⟩
                  case measure => simp [intOf]; omega
          · have hkn' : k = n := by omega
            subst hkn'
            by_cases ha0 : a < 0
            · have Hfin := Lib.hid (show T = out by rw [HC.out, covC_end (by rw [Hae.out]; exact ha0)]; simp)
              go_wp2
              go_ret
              exact ⟨ret_int Hfin.out.symm, HB4.out.trans ((below_drewN hbl _).mono HB4.out.size)⟩
            · obtain ⟨a, rfl⟩ := Int.eq_ofNat_of_zero_le (show 0 ≤ a by omega)
              have han : a < k := by omega
              have hlt := left_next Ha.out (by rw [Hn.out]; exact Nat.le_refl _) hf0 Hae.out
              have HC' := Lib.hid (show T = ((out + 1 : Nat) : Int) + covC ts (dn ts k) far k (k - (out + 1)) (addC (dn ts k) far has (clmC ts (dn ts k) far a a a)) by
                rw [HC.out, show k - out = (k - (out + 1)) + 1 by omega, covC_next Hae.out]; omega)
              clear HC
              go_wp2
              go_loopw [10] (fun s wr => ∃ sp : Nat, ∃ f q' : Nat, sp ≤ f ∧ sp ≤ a ∧ s = .int .i64 sp ∧ Hid (clmC ts (dn ts k) far a a a = clmC ts (dn ts k) far a f sp) ∧ wr = wo.drewN q') (fun s _ => (intOf s).toNat)
              case atStart => exact ⟨a, a, q, Nat.le_refl _, Nat.le_refl _, rfl, rfl, rfl⟩
              case round =>
                obtain ⟨sp, f, q', hsf, hsa, rfl, HS, rfl⟩ := hrel
                by_cases hgo : 0 < sp ∧ dn ts k a (tto ts sp) ≤ far
                · obtain ⟨b, off, x, y, rfl, hbb, Hxy, hcx, hcy⟩ := RdR.x (Hr4.out.below hbl) (k := sp) (by rw [Hn.out]; omega)
                  obtain ⟨hto1, -⟩ := Ha.out sp hgo.1 (by rw [Hn.out]; omega)
                  have hto := vt_to Hv.out (i := sp) hgo.1 (by rw [Hn.out]; omega)
                  rw [Hxy.out] at hto
                  have hto' : x = (tto ts sp : Int) := hto
                  obtain ⟨p, Hp⟩ : ∃ p, Hid (tto ts sp = p) := ⟨_, rfl⟩
                  rw [Hp.out] at hto1 hto'
                  subst hto'
                  obtain ⟨f', rfl⟩ : ∃ f', f = f' + 1 := ⟨f - 1, by omega⟩
                  have HS' := Lib.hid (show clmC ts (dn ts k) far a a a = clmC ts (dn ts k) far a f' p by rw [HS.out, clmC_up hgo, Hp.out])
                  have hpk : p < k := by omega
                  obtain ⟨ga, ca, hc1, hc2⟩ := HTab.out wo hbl a p han hpk
                  obtain ⟨z, Hz⟩ : ∃ z, Hid (dn ts k a p = z) := ⟨_, rfl⟩
                  rw [Hz.out] at hc2
                  have hs0 := hgo.1
                  have hz := hgo.2
                  rw [Hp.out, Hz.out] at hz
                  clear hgo hto hcy HS
                  go_wp2
                  go_quiet (fail)
                  go_wp2
                  go_roundw
                  case rel => exact ⟨p, f', _, by omega, by omega, rfl, HS', rfl⟩
                  case measure => simp [intOf]; omega
                · have HS' := Lib.hid (show clmC ts (dn ts k) far a a a = sp by rw [HS.out, clmC_stop hgo])
                  clear HS
                  by_cases hs0 : 0 < sp
                  all_goals
                    first
                    | (obtain ⟨b, off, x, y, rfl, hbb, Hxy, hcx, hcy⟩ := RdR.x (Hr4.out.below hbl) (k := sp) (by rw [Hn.out]; omega)
                       obtain ⟨hto1, -⟩ := Ha.out sp hs0 (by rw [Hn.out]; omega)
                       have hto := vt_to Hv.out (i := sp) hs0 (by rw [Hn.out]; omega)
                       rw [Hxy.out] at hto
                       have hto' : x = (tto ts sp : Int) := hto
                       obtain ⟨p, Hp⟩ : ∃ p, Hid (tto ts sp = p) := ⟨_, rfl⟩
                       rw [Hp.out] at hto1 hto'
                       subst hto'
                       have hpk : p < k := by omega
                       obtain ⟨ga, ca, hc1, hc2⟩ := HTab.out wo hbl a p han hpk
                       obtain ⟨z, Hz⟩ : ∃ z, Hid (dn ts k a p = z) := ⟨_, rfl⟩
                       rw [Hz.out] at hc2
                       have hz : ¬ z ≤ far := fun h => hgo ⟨hs0, by rw [Hp.out, Hz.out]; exact h⟩
                       clear hgo hto hcy
                       go_wp2
                       go_quiet (fail)
                       go_wp2)
                    | (have hd0 : decide ((0 : Int) < (sp : Int)) = false := decide_eq_false (by omega)
                       clear hgo
                       go_wp2
                       go_quiet (fail)
                       go_wp2)
                    go_loopw [11] (fun i wr => MarkRel w4 ts far k has sp i wr) (fun i _ => k - (intOf i).toNat)
                    case atStart => exact ⟨0, Nat.zero_le _, rfl, by rw [show hrow (midC (dn ts k) far has sp 0) k = hrow has k from hrow_congr fun i _ => by simp [midC]]; exact Hown.out, below_drewN hbl _⟩
                    case round =>
                      obtain ⟨m, hm, rfl, hown2, hbl2⟩ := hrel
                      by_cases hmk : m < k
                      · have hcm := hown2.cellAt m (by omega)
                        rw [hrow_at _ hmk] at hcm
                        have hmid : midC (dn ts k) far has sp m m = has m := by unfold midC; rw [if_neg (by omega)]
                        rw [hmid] at hcm
                        have hfm := hown2.frozenAt m
                        have Hown2 := Lib.hid hown2
                        have hspk : sp < k := by omega
                        obtain ⟨gs, cs, hc1', hc2'⟩ := HTab.out wr hbl2 sp m hspk hmk
                        obtain ⟨z', Hz'⟩ : ∃ z, Hid (dn ts k sp m = z) := ⟨_, rfl⟩
                        rw [Hz'.out] at hc2'
                        obtain ⟨hm', Hhm⟩ : ∃ b, Hid (has m = b) := ⟨_, rfl⟩
                        rw [Hhm.out] at hcm
                        clear hown2 hmid
                        cases hm' with
                        | true =>
                          have Hst := Lib.hid (mark_store true hmk Hown2.out)
                          rw [midC_step (b := true) (by simp [addC, Hhm.out])] at Hst
                          have Hbs := Lib.hid (hbl2.grown (Hown2.out.stored m (.bool true)).2 hbl2.size (fun g hg => (Hown2.out.lt g hg).1))
                          go_wp2
                          go_roundw
                          case rel => exact ⟨m + 1, by omega, by go_num, Hst.out, Hbs.out⟩
                          case measure => simp [intOf]; omega
                        | false =>
                          have Hst := Lib.hid (mark_store (decide (z' ≤ far)) hmk Hown2.out)
                          rw [midC_step (b := decide (z' ≤ far)) (by simp [addC, Hhm.out, Hz'.out])] at Hst
                          have Hbs := Lib.hid (hbl2.grown (Hown2.out.stored m (.bool (decide (z' ≤ far)))).2 hbl2.size (fun g hg => (Hown2.out.lt g hg).1))
                          go_wp2
                          go_roundw
                          case rel => exact ⟨m + 1, by omega, by go_num, Hst.out, Hbs.out⟩
                          case measure => simp [intOf]; omega
                      · obtain rfl : m = k := by omega
                        have hfull : hrow (midC (dn ts m) far has sp m) m = hrow (addC (dn ts m) far has sp) m := hrow_congr fun i hi => by unfold midC; rw [if_pos hi]
                        rw [hfull] at hown2
                        rw [HS'.out] at HC' hlt
                        have Hown2 := Lib.hid hown2
                        clear hown2 hfull
                        go_wp2
                        go_roundw
                        case rel => exact ⟨out + 1, _, by go_num, by omega, HC', Hown2.out, hbl2⟩
                        case measure => simp [intOf]; omega
  · have hv' : vt ts = false := by simpa using hv
    have Hs := Lib.hid (cvv_no (far := far) (.inl hv'))
    have H1 := Lib.hid (sValidTree_is A c n ts w _ hr hn hb hv')
    clear hv hv' hr hn
    go_enter Try.func30, Try.ntmps30
    go_wp2_with fail
    refine H1.out.mono ?_
    rintro e w' ⟨rfl, rfl⟩
    go_wp2
    go_ret
    exact ⟨ret_int Hs.out.symm, Below.refl _ _⟩
end Go.Proofs.Ytkgomgfhhhdnjab
namespace Go.Proofs.Ytkgomgfhhhdnjab
open Go.ChangeShapes Go.WideShapes Go.ChangeAt Go.RowKit
set_option linter.unusedVariables false
set_option maxRecDepth 4000

/-- What a visit does: block R's content goes on from C L to C of L and the visited. -/
def VisitC (w0 : World) (P : Nat → Nat) (R n : Nat) (c1 c2 : Value) (C : List (Nat × Int) → Obj) (F : List (Nat × Int)) : Prop :=
  ∀ (w : World) (L : List (Nat × Int)) (i : Nat) (x : Int), w0.grownBy w (some R) → w.heap[R]? = some (C L) → (L ++ [(i, x)]) <+: F → i < n →
    Calls Try.prog 76 #[.pointer (some ⟨P i, 0, none⟩), .int .i64 x, c1, c2] w fun e w' => e = .returned (.tuple #[]) ∧ w'.heap[R]? = some (C (L ++ [(i, x)])) ∧ w.grownBy w' (some R)
/-- goOn, from node a, come to from f, with way x: all that is visited is M behind a. -/
def GoOnC (w0 : World) (P : Nat → Nat) (R bv bg : Nat) (C : List (Nat × Int) → Obj) (F : List (Nat × Int)) (a : Nat) (f : Option Nat) (x : Int) (M : List (Nat × Int)) : Prop :=
  ∀ (w : World) (L : List (Nat × Int)), w0.grownBy w (some R) → w.heap[R]? = some (C L) → (L ++ ((a, x) :: M)) <+: F →
    Calls Try.prog 104 #[.pointer (some ⟨P a, 0, none⟩), .pointer (fromA P f), .int .i64 x, .pointer (some ⟨bv, 0, none⟩), .pointer (some ⟨bg, 0, none⟩)] w fun e w' => e = .returned (.tuple #[]) ∧ w'.heap[R]? = some (C (L ++ ((a, x) :: M))) ∧ w.grownBy w' (some R)
/-- What the loop over a node's roads keeps. -/
def RoadsRelC (w0 w1 : World) (R n : Nat) (C : List (Nat × Int) → Obj) (F L : List (Nat × Int)) (t : List (Int × Int)) (a : Nat) (f : Option Nat) (x : Int) (M : List (Nat × Int)) (i : Value) (wr : World) : Prop :=
  ∃ k : Nat, ∃ M1 M2, i = .int .i64 k ∧ k ≤ (nb t n a).length ∧ M = M1 ++ M2 ∧ VisL (nb t n) a f x ((nb t n a).drop k) M2 ∧ w1.grownBy wr (some R) ∧ wr.heap[R]? = some (C (L ++ ((a, x) :: M1)))

set_option maxHeartbeats 1600000 in
theorem goOnC_step (w0 : World) (P : Nat → Nat) (RV : Nat → Value) (B R n bv bg : Nat) (c1 c2 : Value) (C : List (Nat × Int) → Obj) (F : List (Nat × Int)) (t : List (Int × Int)) (ht : Ahead t) (hn : n ≤ t.length) (hn7 : n ≤ 7)
    (hlk : LkN w0 B n P RV t) (hRt : ∃ cs ty fz, w0.heap[R]? = some (.cells cs ty fz) ∧ ty ≠ 69 ∧ ty ≠ 112) (hbv : bv ≠ R) (hbg : bg ≠ R)
    (hv : w0.cell? ⟨bv, 0, none⟩ = some (.func (.func 76) #[] #[c1, c2])) (hg : w0.cell? ⟨bg, 0, none⟩ = some (.func (.func 104) #[] #[.pointer (some ⟨bv, 0, none⟩), .pointer (some ⟨bg, 0, none⟩)])) (hvis : VisitC w0 P R n c1 c2 C F) (hF : ∀ y ∈ F, 0 ≤ y.2 ∧ y.2 ≤ 1000000)
    (m : Nat) (ih : ∀ a f x M, M.length < m → a < n → (∀ g, f = some g → g < n) → VisL (nb t n) a f x (nb t n a) M → GoOnC w0 P R bv bg C F a f x M)
    (a : Nat) (f : Option Nat) (x : Int) (M : List (Nat × Int)) (hM : M.length = m) (ha : a < n) (hf : ∀ g, f = some g → g < n) (hV : VisL (nb t n) a f x (nb t n a) M) : GoOnC w0 P R bv bg C F a f x M := by
  intro w L hgw hL hpre
  obtain ⟨cs, ty, fz, hRc, hR1, hR2⟩ := hRt
  have Hvis := Lib.hid hvis
  have Hih := Lib.hid ih
  have HV := Lib.hid hV
  have hcf : ∀ {w' : World} {b : Nat} {v : Value}, w0.grownBy w' (some R) → b ≠ R → w0.cell? ⟨b, 0, none⟩ = some v → w'.cell? ⟨b, 0, none⟩ = some v := fun hg hne hc =>
    (World.cell?_of_block (hg.block _ (World.block_lt_of_cell? w0 _ hc) (fun e => hne (by injection e)))).trans hc
  have Hcf := Lib.hid (fun (w' : World) (hg' : w0.grownBy w' (some R)) => (⟨hcf hg' hbv hv, hcf hg' hbg hg⟩ : w'.cell? ⟨bv, 0, none⟩ = some (.func (.func 76) #[] #[c1, c2]) ∧ w'.cell? ⟨bg, 0, none⟩ = some (.func (.func 104) #[] #[.pointer (some ⟨bv, 0, none⟩), .pointer (some ⟨bg, 0, none⟩)])))
  have Hlk := Lib.hid (fun (w' : World) (hg' : w0.grownBy w' (some R)) => hlk.kept hg' (fun g e _ => by injection e with e; subst e; exact ⟨cs, ty, fz, hRc, hR1, hR2⟩))
  clear hvis ih hV hlk hcf hv hg hRc
  obtain ⟨cv, cg⟩ := Hcf.out w hgw
  have hpre1 : (L ++ [(a, x)]) <+: F := by
    obtain ⟨r, hr⟩ := hpre
    exact ⟨M ++ r, by rw [← hr]; simp⟩
  have hcall := Hvis.out w L a x hgw hL hpre1 ha
  have Hcall := Lib.hid hcall
  have Hpre := Lib.hid hpre
  have HF := Lib.hid hF
  have Hgw := Lib.hid hgw
  clear hcall hpre hpre1 hF hL hgw
  go_enter Try.func104, Try.ntmps104
  go_wp2_with fail
  refine Hcall.out.mono ?_
  rintro e w1 ⟨rfl, h1, hg1⟩
  have hg01 := grown_trans Hgw.out hg1
  have lk1 := Hlk.out w1 hg01
  obtain ⟨-, -, -, c3, -⟩ := lk1.cells ha
  obtain ⟨A, cA, hrv, hA1, hA2, hA3⟩ := own_sliceN (lk1.own a ha)
  rw [hrv] at c3
  have H1 := Lib.hid h1
  have Hg1 := Lib.hid hg1
  have Hg01 := Lib.hid hg01
  have Lk1 := Lib.hid lk1
  have Hrv := Lib.hid hrv
  have HA3 := Lib.hid hA3
  obtain ⟨N, HN⟩ : ∃ N, Hid ((nb t n a).length = N) := ⟨_, rfl⟩
  have hN7 : N ≤ 7 := by have := nb_len t n a; rw [HN.out] at this; omega
  rw [HN.out] at c3 hA1
  clear h1 hg1 hg01 lk1 hrv hA3 cv cg
  go_wp2
  go_loopw [19] (fun i wr => RoadsRelC w0 w1 R n C F L t a f x M i wr) (fun i _ => N - (intOf i).toNat)
  case atStart => exact ⟨0, [], M, rfl, Nat.zero_le _, rfl, HV.out, grown_refl _ _, H1.out⟩
  case round =>
    obtain ⟨k, M1, M2, rfl, hk, hMM, hV2, hgr, hCr⟩ := hrel
    rw [HN.out] at hk
    by_cases hlt : k < N
    · have hg0r := grown_trans Hg01.out hgr
      have lkr := Hlk.out wr hg0r
      obtain ⟨cvr, cgr⟩ := Hcf.out wr hg0r
      obtain ⟨g, rfl, hgB, hgl⟩ := HA3.out (by rw [HN.out]; omega)
      have ow := lkr.own a ha
      rw [Hrv.out, HN.out] at ow
      obtain ⟨⟨b, l⟩, hbl⟩ : ∃ y, (nb t n a).getD k (0, 0) = y := ⟨_, rfl⟩
      have hkl : k < (nb t n a).length := by rw [HN.out]; exact hlt
      have hbm : (b, l) ∈ nb t n a := by rw [← hbl]; simp only [List.getD, List.getElem?_eq_getElem hkl]; exact List.getElem_mem hkl
      have hbn := nb_lt ht n hn a ha b l hbm
      have hdrop : (nb t n a).drop k = (b, l) :: (nb t n a).drop (k + 1) := by
        rw [List.drop_eq_getElem_cons hkl]
        congr 1
        rw [← hbl]; simp [List.getD, List.getElem?_eq_getElem hkl]
      have ce : wr.cell? ⟨g, k * 2, none⟩ = some (.pointer (some ⟨P b, 0, none⟩)) := by
        rw [ow.cellAt (k * 2) (by omega), brv_ptr P _ k hkl, hbl]; rfl
      have cl : wr.cell? ⟨g, k * 2 + 1, none⟩ = some (.int .i64 l) := by
        rw [ow.cellAt (k * 2 + 1) (by omega), brv_int P _ k hkl, hbl]
      rw [hdrop] at hV2
      have HV2 := Lib.hid hV2
      have Hg0r := Lib.hid hg0r
      have Hgr := Lib.hid hgr
      have Lkr := Lib.hid lkr
      have HCr := Lib.hid hCr
      have HMM := Lib.hid hMM
      clear hV2 hg0r hgr lkr hCr hMM ow hbl hdrop hbm
      by_cases hfb : f = some b
      · subst hfb
        have hV3 : Hid (VisL (nb t n) a (some b) x ((nb t n a).drop (k + 1)) M2) := by
          have h := HV2.out
          cases h with
          | skip _ h => exact h
          | go h _ _ => exact absurd rfl h
        simp only [fromA]
        have hb1 : ∀ o, (binOp .neq 65 (.pointer (some ⟨P b, 0, none⟩)) (.pointer (some ⟨P b, 0, none⟩))).run Try.prog (wr.alloc o) = .ok (.bool false) (wr.alloc o) := fun o => neq_same _ _
        go_wp2
        go_roundw
        case rel => exact ⟨k + 1, M1, M2, by go_num, by rw [HN.out]; omega, HMM.out, hV3.out, gb_trans Hgr.out (World.grownBy_alloc wr _ none) (.inr (fun g h => by cases h)), by
          rw [heap_alloc_old wr _ (Array.getElem?_eq_some_iff.1 HCr.out).1]; exact HCr.out⟩
        case measure => simp [intOf]; omega
      · obtain ⟨M3, M4, hM2, hW, hV3⟩ : ∃ M3 M4, M2 = (b, x + l) :: (M3 ++ M4) ∧ VisL (nb t n) b (some a) (x + l) (nb t n b) M3 ∧ VisL (nb t n) a f x ((nb t n a).drop (k + 1)) M4 := by
          have h := HV2.out
          cases h with
          | skip h _ => exact absurd h hfb
          | go _ h1 h2 => exact ⟨_, _, rfl, h1, h2⟩
        have hlen : M3.length < m := by
          rw [← hM, HMM.out, hM2]; simp; omega
        have hpre3 : ((L ++ ((a, x) :: M1)) ++ ((b, x + l) :: M3)) <+: F := by
          obtain ⟨r, hr⟩ := Hpre.out
          exact ⟨M4 ++ r, by rw [← hr, HMM.out, hM2]; simp⟩
        have hxl := HF.out (b, x + l) (by obtain ⟨r, hr⟩ := hpre3; rw [← hr]; simp)
        simp only at hxl
        have hgA : ∀ o, w0.grownBy (wr.alloc o) (some R) := fun o => gb_trans Hg0r.out (World.grownBy_alloc wr o none) (.inr (fun g h => by cases h))
        have hcall : ∀ o, Calls Try.prog 104 #[.pointer (some ⟨P b, 0, none⟩), .pointer (some ⟨P a, 0, none⟩), .int .i64 (x + l), .pointer (some ⟨bv, 0, none⟩), .pointer (some ⟨bg, 0, none⟩)] (wr.alloc o) fun e w' => e = .returned (.tuple #[]) ∧ w'.heap[R]? = some (C ((L ++ ((a, x) :: M1)) ++ ((b, x + l) :: M3))) ∧ (wr.alloc o).grownBy w' (some R) := fun o =>
          Hih.out b (some a) (x + l) M3 hlen hbn (fun g e => by injection e with e; omega) hW (wr.alloc o) (L ++ ((a, x) :: M1)) (hgA o) (by rw [heap_alloc_old wr _ (Array.getElem?_eq_some_iff.1 HCr.out).1]; exact HCr.out) hpre3
        have Hcall2 := Lib.hid hcall
        have hcgo : ∀ o, (wr.alloc o).cell? ⟨bg, 0, none⟩ = some (.func (.func 104) #[] #[.pointer (some ⟨bv, 0, none⟩), .pointer (some ⟨bg, 0, none⟩)]) := fun o => (Hcf.out _ (hgA o)).2
        have hne : ∀ o, (binOp .neq 65 (.pointer (some ⟨P b, 0, none⟩)) (.pointer (fromA P f))).run Try.prog (wr.alloc o) = .ok (.bool true) (wr.alloc o) := fun o =>
          neq_from (Lkr.out.below ((Below.refl _ _).alloc (Nat.le_refl _) o)) hbn hf hfb
        have HM2 := Lib.hid hM2
        have HV3 := Lib.hid hV3
        clear hcall hgA hpre3 hlen hW hV3 hM2 hfb cvr cgr
        go_wp2_with fail
        refine (Hcall2.out _).mono ?_
        rintro e w3 ⟨rfl, h3, hg3⟩
        have hg13 := gb_trans (gb_trans Hgr.out (World.grownBy_alloc wr _ none) (.inr (fun g h => by cases h))) hg3 (.inl rfl)
        have H3 := Lib.hid h3
        have Hg13 := Lib.hid hg13
        clear h3 hg3 hg13 ce cl hcgo hne
        go_wp2
        go_roundw
        case rel => exact ⟨k + 1, M1 ++ ((b, x + l) :: M3), M4, by go_num, by rw [HN.out]; omega, by rw [HMM.out, HM2.out]; simp, HV3.out, Hg13.out, by simpa using H3.out⟩
        case measure => simp [intOf]; omega
    · have hd : (nb t n a).drop k = [] := List.drop_of_length_le (by rw [HN.out]; omega)
      rw [hd] at hV2
      have hM2 : M2 = [] := by cases hV2; rfl
      subst hM2
      rw [List.append_nil] at hMM
      subst hMM
      have Hend := Lib.hid hCr
      have Hgr := Lib.hid hgr
      clear hd hV2 hCr hgr
      go_wp2
      go_end0
      exact ⟨rfl, Hend.out, grown_trans Hg1.out Hgr.out⟩
theorem goOnC_any (w0 : World) (P : Nat → Nat) (RV : Nat → Value) (B R n bv bg : Nat) (c1 c2 : Value) (C : List (Nat × Int) → Obj) (F : List (Nat × Int)) (t : List (Int × Int)) (ht : Ahead t) (hn : n ≤ t.length) (hn7 : n ≤ 7)
    (hlk : LkN w0 B n P RV t) (hRt : ∃ cs ty fz, w0.heap[R]? = some (.cells cs ty fz) ∧ ty ≠ 69 ∧ ty ≠ 112) (hbv : bv ≠ R) (hbg : bg ≠ R)
    (hv : w0.cell? ⟨bv, 0, none⟩ = some (.func (.func 76) #[] #[c1, c2])) (hg : w0.cell? ⟨bg, 0, none⟩ = some (.func (.func 104) #[] #[.pointer (some ⟨bv, 0, none⟩), .pointer (some ⟨bg, 0, none⟩)])) (hvis : VisitC w0 P R n c1 c2 C F) (hF : ∀ y ∈ F, 0 ≤ y.2 ∧ y.2 ≤ 1000000) :
    ∀ m a f x M, M.length ≤ m → a < n → (∀ g, f = some g → g < n) → VisL (nb t n) a f x (nb t n a) M → GoOnC w0 P R bv bg C F a f x M
  | 0, a, f, x, M, hm, ha, hf, hV => goOnC_step w0 P RV B R n bv bg c1 c2 C F t ht hn hn7 hlk hRt hbv hbg hv hg hvis hF 0 (fun _ _ _ _ h => by omega) a f x M (by omega) ha hf hV
  | m + 1, a, f, x, M, hm, ha, hf, hV =>
    goOnC_step w0 P RV B R n bv bg c1 c2 C F t ht hn hn7 hlk hRt hbv hbg hv hg hvis hF M.length (fun a f x M' h => goOnC_any w0 P RV B R n bv bg c1 c2 C F t ht hn hn7 hlk hRt hbv hbg hv hg hvis hF m a f x M' (by omega)) a f x M rfl ha hf hV

theorem VisitC.later {w w0 : World} {P : Nat → Nat} {R n : Nat} {c1 c2 : Value} {C : List (Nat × Int) → Obj} {F : List (Nat × Int)} (h : VisitC w P R n c1 c2 C F) (hg : w.grownBy w0 (some R)) : VisitC w0 P R n c1 c2 C F :=
  fun w' L i x h1 h2 h3 h4 => h w' L i x (grown_trans hg h1) h2 h3 h4
set_option maxHeartbeats 800000 in
theorem walkC_any (w : World) (P : Nat → Nat) (RV : Nat → Value) (B R n : Nat) (c1 c2 : Value) (C : List (Nat × Int) → Obj) (t : List (Int × Int)) (ht : Ahead t) (hn : n ≤ t.length) (hn7 : n ≤ 7)
    (hlk : LkN w B n P RV t) (hRt : ∃ cs ty fz, w.heap[R]? = some (.cells cs ty fz) ∧ ty ≠ 69 ∧ ty ≠ 112) (hC : w.heap[R]? = some (C []))
    (a : Nat) (f : Option Nat) (M : List (Nat × Int)) (ha : a < n) (hf : ∀ g, f = some g → g < n) (hV : VisL (nb t n) a f 0 (nb t n a) M) (hvis : VisitC w P R n c1 c2 C ((a, 0) :: M)) (hF : ∀ y ∈ (a, (0 : Int)) :: M, 0 ≤ y.2 ∧ y.2 ≤ 1000000) :
    Calls Try.prog 59 #[.pointer (some ⟨P a, 0, none⟩), .pointer (fromA P f), .func (.func 76) #[] #[c1, c2]] w fun e w' => e = .returned (.tuple #[]) ∧ w'.heap[R]? = some (C ((a, 0) :: M)) ∧ w.grownBy w' (some R) := by
  have hRlt : R < w.heap.size := (Array.getElem?_eq_some_iff.1 hC).1
  have H := Lib.hid (fun (w0 : World) (b0 : Below w.heap.size w w0) (g0 : w.grownBy w0 (some R)) (bv bg : Nat) (h1 : w.heap.size ≤ bv) (h2 : w.heap.size ≤ bg)
      (hv : w0.cell? ⟨bv, 0, none⟩ = some (.func (.func 76) #[] #[c1, c2])) (hg : w0.cell? ⟨bg, 0, none⟩ = some (.func (.func 104) #[] #[.pointer (some ⟨bv, 0, none⟩), .pointer (some ⟨bg, 0, none⟩)])) =>
    goOnC_any w0 P RV B R n bv bg c1 c2 C ((a, 0) :: M) t ht hn hn7 (hlk.below b0) (by
      obtain ⟨cs, ty, fz, hc, r⟩ := hRt
      exact ⟨cs, ty, fz, (b0.block R hRlt).trans hc, r⟩) (by omega) (by omega) hv hg (hvis.later g0) hF M.length a f 0 M (Nat.le_refl _) ha hf hV w0 [] (grown_refl _ _) ((b0.block R hRlt).trans hC) (List.prefix_rfl))
  have b1 := (Below.refl w.heap.size w).alloc (Nat.le_refl _) (.cells #[.func (.func 76) #[] #[c1, c2]] 70)
  have b2 := b1.alloc b1.size (.cells #[.func (.func 104) #[] #[.pointer (some ⟨w.heap.size, 0, none⟩), .pointer (some ⟨w.heap.size + 1, 0, none⟩)]] 113)
  have g2 := gb_trans (World.grownBy_alloc w (.cells #[.func (.func 76) #[] #[c1, c2]] 70) (some R)) (World.grownBy_alloc _ (.cells #[.func (.func 104) #[] #[.pointer (some ⟨w.heap.size, 0, none⟩), .pointer (some ⟨w.heap.size + 1, 0, none⟩)]] 113) none) (.inr (fun g h => by cases h))
  have H2 := Lib.hid (H.out _ b2 g2 w.heap.size (w.heap.size + 1) (by omega) (by omega) (by
      rw [cell_of_row _ _ _ _ _ (0, 0) ((heap_alloc_old _ _ (by rw [size_alloc1]; omega)).trans (heap_alloc_new w _))]; rfl) (by
      have e := heap_alloc_new (w.alloc (.cells #[.func (.func 76) #[] #[c1, c2]] 70)) (.cells #[.func (.func 104) #[] #[.pointer (some ⟨w.heap.size, 0, none⟩), .pointer (some ⟨w.heap.size + 1, 0, none⟩)]] 113)
      rw [size_alloc1] at e
      rw [cell_of_row _ _ _ _ _ _ e]; rfl))
  have G2 := Lib.hid g2
  clear hlk hRt hC hV hvis hF H b1 b2 g2
  go_enter Try.func59, Try.ntmps59
  go_wp2_with fail
  refine H2.out.mono ?_
  rintro e w3 ⟨rfl, h3, hg3⟩
  have hg4 := gb_trans G2.out hg3 (.inl rfl)
  have H3 := Lib.hid h3
  have H4 := Lib.hid hg4
  clear h3 hg3 hg4
  go_wp2
  go_end0
  exact ⟨rfl, H3.out, H4.out⟩
end Go.Proofs.Ytkgomgfhhhdnjab
