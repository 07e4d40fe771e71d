/-
  TreeSum: the model answers the sum over all nodes of people times the way.
  Conditions: fewer than 2^60 roads and numbers.
-/
import Derived.Test.YtoappopbjnlbdabF2
import Derived.Test.YtoappopbjnlbdabN4
namespace Go.Proofs.Ytoappopbjnlbdab
open Go.ChangeShapes Go.WideShapes Go.ChangeAt Go.RowKit
set_option linter.unusedVariables false
set_option maxRecDepth 4000

theorem tsm_bd {t : List (Int × Int)} {fs : List Int} (ht : Ahead t) {n a : Nat} (hn : n ≤ t.length) (hn7 : n ≤ 7) (ha : a < n) (hf : ∀ i, i < n → 0 ≤ fs.getD i 0 ∧ fs.getD i 0 ≤ 20) : ∀ m, m ≤ n → 0 ≤ tsm t fs n a m ∧ tsm t fs n a m ≤ 20000 * m
  | 0, _ => by simp [tsm]
  | m + 1, hm => by
    obtain ⟨h1, h2⟩ := tsm_bd ht hn hn7 ha hf m (by omega)
    obtain ⟨d1, d2⟩ := dn_bd ht n a m hn ha (by omega)
    obtain ⟨f1, f2⟩ := hf m (by omega)
    have m1 : 0 ≤ fs.getD m 0 * dn t n a m := Int.mul_nonneg f1 d1
    have m2 : fs.getD m 0 * dn t n a m ≤ 20 * 1000 := Int.mul_le_mul f2 (by omega) d1 (by omega)
    simp only [tsm]
    omega
theorem sValidTree_is (A : Option Addr) (c n : Nat) (ts : List (Int × Int)) (w : World) (B : Nat) (hr : RdR w B A ts) (hn : ts.length = n) (hb : n ≤ 1152921504606846976) {b : Bool} (h : vt ts = b) :
    Calls Try.prog 43 #[.slice A n c] w fun e w' => e = .returned (.bool b) ∧ w = w' := by
  subst h; exact sValidTree_in A c n ts w B hr hn hb
theorem sValidFolk_is (A : Option Addr) (c n m : Nat) (fs : List Int) (w : World) (B : Nat) (hr : RdI w B A fs) (hn : fs.length = n) (hb : n ≤ 1152921504606846976) {b : Bool} (h : fk m fs = b) :
    Calls Try.prog 51 #[.int .i64 m, .slice A n c] w fun e w' => e = .returned (.bool b) ∧ w = w' := by
  subst h; exact sValidFolk_any A c n m fs w B hr hn hb

set_option maxHeartbeats 1600000 in
theorem sTreeSum_any (A Af : Option Addr) (c n cf nf : Nat) (ts : List (Int × Int)) (fs : List Int) (a : Int) (w : World) (hr : RdR w w.heap.size A ts) (hn : ts.length = n) (hb : n ≤ 1152921504606846976)
    (hrf : RdI w w.heap.size Af fs) (hnf : fs.length = nf) (hbf : nf ≤ 1152921504606846976) (hwa : (Lit.int .i64 a).wf = true) :
    Calls Try.prog 18 #[.slice A n c, .slice Af nf cf, .int .i64 a] w fun e w' => e = .returned (.int .i64 (tsv ts fs a)) ∧ Below w.heap.size w w' := by
  by_cases hv : vt ts = true
  · obtain ⟨h1, h7, -⟩ := (vt_iff ts).1 hv
    rw [hn] at h1 h7
    have H1 := Lib.hid (sValidTree_is A c n ts w _ hr hn hb hv)
    by_cases hf : fk n fs = true
    · have H2 := Lib.hid (sValidFolk_is Af cf nf n fs w _ hrf hnf hbf hf)
      by_cases ha : a < 0 ∨ (n : Int) - 1 < a
      · have Hs := Lib.hid (tsv_no (a := a) (.inr (.inr ⟨hv, by rw [hn]; exact hf, by rw [hn]; omega⟩)))
        have w1 : IntKind.i64.wrap ((n : Int) - 1) = (n : Int) - 1 := IntWalk.i64_in _ (by omega)
        have H3 := Lib.hid (inRange_no a 0 ((n : Int) - 1) w ha)
        clear hv hf hr hrf hn hnf ha
        go_enter Try.func18, Try.ntmps18
        go_wp2_with fail
        refine H1.out.mono ?_
        rintro e w' ⟨rfl, rfl⟩
        go_wp2_with fail
        refine H2.out.mono ?_
        rintro e w' ⟨rfl, rfl⟩
        go_wp2_with fail
        refine H3.out.mono ?_
        rintro e w' ⟨rfl, rfl⟩
        go_wp2
        go_ret
        exact ⟨ret_int Hs.out.symm, Below.refl _ _⟩
      · obtain ⟨k, rfl⟩ := Int.eq_ofNat_of_zero_le (show 0 ≤ a by omega)
        have hk : k < n := by omega
        have Hs := Lib.hid (show tsv ts fs (k : Int) = tsm ts fs n k n by unfold tsv; rw [if_pos ⟨hv, by rw [hn]; exact hf, by omega, by rw [hn]; omega⟩, hn]; rfl)
        have H3 := Lib.hid (inRange_yes (k : Int) 0 ((n : Int) - 1) w (by omega) (by omega))
        have Ht := Lib.hid (treeTable_any A c n ts w hr hn hv)
        have Hn := Lib.hid hn
        have Hk := Lib.hid (fk_iff hf)
        have Hbd := Lib.hid (tsm_bd (fs := fs) (vt_ahead hv) (n := n) (a := k) (by omega) h7 hk (fk_iff hf).2)
        have Hdn := Lib.hid (fun j (hj : j < n) => dn_bd (vt_ahead hv) n k j (by omega) hk hj)
        have hnfn : nf = n := by have := (fk_iff hf).1; omega
        have Hnf := Lib.hid hnf
        subst hnfn
        clear hv hf hr ha hn hnf
        go_enter Try.func18, Try.ntmps18
        go_wp2_with fail
        refine H1.out.mono ?_
        rintro e w' ⟨rfl, rfl⟩
        go_wp2_with fail
        refine H2.out.mono ?_
        rintro e w' ⟨rfl, rfl⟩
        go_wp2_with fail
        refine H3.out.mono ?_
        rintro e w' ⟨rfl, rfl⟩
        go_wp2_with fail
        refine Ht.out.mono ?_
        rintro e w1 ⟨v, VR, rfl, hO, hT, hnx1⟩
        rw [Hn.out] at hO hT
        obtain ⟨A', c', rfl, -, -, hA⟩ := own_sliceN hO
        obtain ⟨g, rfl, -, -⟩ := hA (by omega)
        have HO := Lib.hid hO
        have HT := Lib.hid hT
        have HB1 := Lib.hid hnx1
        clear hO hT hnx1 hA
        go_wp2
        go_loopw [7, 9] (fun o i wr => ∃ m : Nat, ∃ q, m ≤ nf ∧ i = .int .i64 m ∧ o = .int .i64 (tsm ts fs nf k m) ∧ wr = w1.drewN q) (fun _ i _ => nf - (intOf i).toNat)
        case atStart => exact ⟨0, 0, Nat.zero_le _, rfl, rfl, rfl⟩
        case round =>
          obtain ⟨m, q, hm, rfl, rfl, rfl⟩ := hrel
          by_cases hlt : m < nf
          · obtain ⟨b, off, x, rfl, hbb, Hx, hcx⟩ := (hrf.below HB1.out).x (k := m) (by rw [Hnf.out]; exact hlt)
            obtain ⟨gk, ck, hvk, hck⟩ := HT.out.cells hk (k := m) (by rw [rowN_len]; exact hlt)
            have hok := Outer.cell HO.out hk
            rw [hvk, rowN_len] at hok
            rw [rowN_get ts hlt] at hck
            obtain ⟨d, Hd⟩ : ∃ d, Hid (dn ts nf k m = d) := ⟨_, rfl⟩
            have hdb := Hdn.out m hlt
            have hxb := Hk.out.2 m hlt
            have hs1 := Hbd.out m hm
            have hst : Hid (tsm ts fs nf k (m + 1) = tsm ts fs nf k m + x * d) := by
              show tsm ts fs nf k (m + 1) = _
              simp only [tsm]; rw [Hx.out, Hd.out]
            rw [Hd.out] at hck hdb
            rw [Hx.out] at hxb
            obtain ⟨S, HS⟩ : ∃ S, Hid (tsm ts fs nf k m = S) := ⟨_, rfl⟩
            rw [HS.out] at hs1 hst ⊢
            have hxd : 0 ≤ x * d := Int.mul_nonneg hxb.1 hdb.1
            have hxd2 : x * d ≤ 20 * 1000 := Int.mul_le_mul hxb.2 (by omega) hdb.1 (by omega)
            have w1' : IntKind.i64.wrap (x * d) = x * d := IntWalk.i64_in _ (by omega)
            have w2' : IntKind.i64.wrap (S + x * d) = S + x * d := IntWalk.i64_in _ (by omega)
            clear hvk
            go_wp2
            go_quiet (fail)
            clear w1' w2'
            go_wp2
            go_roundw
            case rel => exact ⟨m + 1, _, by omega, by go_num, by rw [hst.out], rfl⟩
            case measure => simp [intOf]; omega
          · have hmn : m = nf := by omega
            subst hmn
            go_wp2
            go_ret
            exact ⟨ret_int Hs.out.symm, below_drewN HB1.out _⟩
    · have hf' : fk n fs = false := by simpa using hf
      have Hs := Lib.hid (tsv_no (a := a) (.inr (.inl ⟨hv, by rw [hn]; exact hf'⟩)))
      have H2 := Lib.hid (sValidFolk_is Af cf nf n fs w _ hrf hnf hbf hf')
      clear hv hf hf' hr hrf hn hnf
      go_enter Try.func18, Try.ntmps18
      go_wp2_with fail
      refine H1.out.mono ?_
      rintro e w' ⟨rfl, rfl⟩
      go_wp2_with fail
      refine H2.out.mono ?_
      rintro e w' ⟨rfl, rfl⟩
      go_wp2
      go_ret
      exact ⟨ret_int Hs.out.symm, Below.refl _ _⟩
  · have hv' : vt ts = false := by simpa using hv
    have Hs := Lib.hid (tsv_no (fs := fs) (a := a) (.inl hv'))
    have H1 := Lib.hid (sValidTree_is A c n ts w _ hr hn hb hv')
    clear hv hv' hr hrf hn hnf
    go_enter Try.func18, Try.ntmps18
    go_wp2_with fail
    refine H1.out.mono ?_
    rintro e w' ⟨rfl, rfl⟩
    go_wp2
    go_ret
    exact ⟨ret_int Hs.out.symm, Below.refl _ _⟩
end Go.Proofs.Ytoappopbjnlbdab
