/-
  The law FnTreeSum: sums go over roads.
  Conditions: none.
-/
import Derived.Test.YtoappopbjnlbdabD4
import Derived.Test.YtoappopbjnlbdabF3
import Derived.Test.YtoappopbjnlbdabF4
import Derived.Deep.RegionWith
namespace Go.Proofs.Ytoappopbjnlbdab
open Go.ChangeShapes Go.WideShapes Go.ChangeAt Go.RowKit
set_option linter.unusedVariables false
set_option maxRecDepth 4000

/-- The people who are not behind node k, less those who are, among the first m. -/
def xsum (t : List (Int × Int)) (fs : List Int) (k m : Nat) : Int := tot fs m - 2 * beh t fs k m
theorem xsum_step {t : List (Int × Int)} {fs : List Int} (ht : Ahead t) {n k m : Nat} (hn : n ≤ t.length) (hk1 : 1 ≤ k) (hk : k < n) (hm : m < n) :
    (dn t n k m < dn t n (tto t k) m → xsum t fs k (m + 1) = xsum t fs k m - fs.getD m 0) ∧ (¬ dn t n k m < dn t n (tto t k) m → xsum t fs k (m + 1) = xsum t fs k m + fs.getD m 0) := by
  have h := dn_over ht hn hk1 hk m hm
  have hl := (ht k hk1 (by omega)).2.1
  unfold xsum
  simp only [tot, beh]
  by_cases hb : Bh t k m
  · rw [if_pos hb] at h ⊢
    exact ⟨fun _ => by omega, fun hlt => by omega⟩
  · rw [if_neg hb] at h ⊢
    exact ⟨fun hlt => by omega, fun _ => by omega⟩
theorem xsum_bd {t : List (Int × Int)} {fs : List Int} (ht : Ahead t) {n k : Nat} (hn : n ≤ t.length) (hk1 : 1 ≤ k) (hk : k < n) (hf : ∀ i, i < n → 0 ≤ fs.getD i 0 ∧ fs.getD i 0 ≤ 20) : ∀ m, m ≤ n → -(20 * (m : Int)) ≤ xsum t fs k m ∧ xsum t fs k m ≤ 20 * m
  | 0, _ => by simp [xsum, tot, beh]
  | m + 1, hm => by
    have h1 := xsum_bd ht hn hk1 hk hf m (by omega)
    obtain ⟨h2, h3⟩ := xsum_step (fs := fs) ht hn hk1 hk (show m < n by omega)
    have h4 := hf m (by omega)
    by_cases hlt : dn t n k m < dn t n (tto t k) m
    · rw [h2 hlt]; omega
    · rw [h3 hlt]; omega
theorem tsv_is {t : List (Int × Int)} {fs : List Int} {a : Int} (h : 0 ≤ tsv t fs a) : vt t = true ∧ fk t.length fs = true ∧ 0 ≤ a ∧ a < t.length := by
  unfold tsv at h
  split at h
  · assumption
  · omega

set_option maxHeartbeats 1600000 in
theorem lawTreeSum_walk (A : Option Addr) (c : Nat) (bs : List Int) (w : World) (hr : RdB w w.heap.size A bs) (hcap : bs.length ≤ c) (hm : c ≤ maxLen) :
    Calls Try.prog 4 #[.slice A bs.length c] w fun e w' => e = .returned (.bool true) ∧ Below w.heap.size w w' := by
  unfold maxLen at hm
  by_cases hb : 1048576 < bs.length
  · go_enter Try.func4, Try.ntmps4
    go_wp2
    go_ret
    exact ⟨rfl, Below.refl _ _⟩
  · have H := Lib.hid (drawTreeSum_any A c bs.length bs w hr rfl hcap hm)
    go_enter Try.func4, Try.ntmps4
    go_wp2_with fail
    refine H.out.mono ?_
    rintro e w1 ⟨A', c', Af, cf, ts, fs, a, rfl, ha0, ha1, hl, hlf, hcc, hrd, hrf, hnx1⟩
    have hwa : (Lit.int .i64 a).wf = true := by simp [Lit.wf, IntKind.min, IntKind.max, IntKind.signed, IntKind.bits]; omega
    have Hwa := Lib.hid hwa
    clear hwa
    go_wp2_with fail
    refine (iTreeSum_any A' Af c' ts.length cf fs.length ts fs a w1 hrd rfl hcc (by omega) hrf rfl (by omega) Hwa.out).mono ?_
    rintro e w2 ⟨rfl, hnx2⟩
    have h12 := hnx1.trans (hnx2.mono hnx1.size)
    have hrd2 := (hrd.below hnx2).more hnx2.size
    have hrf2 := (hrf.below hnx2).more hnx2.size
    go_wp2_with fail
    refine (sTreeSum_any A' Af c' ts.length cf fs.length ts fs a w2 hrd2 rfl (by omega) hrf2 rfl (by omega) Hwa.out).mono ?_
    rintro e w3 ⟨rfl, hnx3⟩
    have h13 := h12.trans (hnx3.mono h12.size)
    have hrd3 := (hrd2.below hnx3).more hnx3.size
    have hrf3 := (hrf2.below hnx3).more hnx3.size
    have hbn : ∀ x : Int, (x != x) = false := fun x => by simp
    have hbe : ∀ x : Int, (x == x) = true := fun x => by simp
    obtain ⟨T, HT⟩ : ∃ T, Hid (tsv ts fs a = T) := ⟨_, rfl⟩
    rw [HT.out]
    by_cases hT : T < 0
    · go_wp2_with fail
      refine (sTreeSum_any A' Af c' ts.length cf fs.length ts fs a w3 hrd3 rfl (by omega) hrf3 rfl (by omega) Hwa.out).mono ?_
      rintro e w4 ⟨rfl, hnx4⟩
      have h14 := h13.trans (hnx4.mono h13.size)
      rw [HT.out]
      go_wp2
      go_ret
      exact ⟨ret_bool (by simp), h14⟩
    · obtain ⟨hv, hf, hA0, hA1⟩ := tsv_is (t := ts) (fs := fs) (a := a) (by rw [HT.out]; omega)
      obtain ⟨n, Hn⟩ : ∃ n, Hid (ts.length = n) := ⟨_, rfl⟩
      have hn7 : n ≤ 7 := by rw [← Hn.out]; exact hl
      obtain ⟨k, rfl⟩ := Int.eq_ofNat_of_zero_le hA0
      have hTk : Hid (T = tsm ts fs n k n) := by
        show T = tsm ts fs n k n
        rw [← HT.out]; unfold tsv; rw [if_pos ⟨hv, hf, hA0, hA1⟩, Hn.out]; rfl
      by_cases hk0 : k = 0
      · subst hk0
        have hz : (((0 : Nat) : Int) == 0) = true := by simp
        clear hv hf
        go_wp2
        go_ret
        exact ⟨rfl, h13⟩
      · have hk1 : 1 ≤ k := by omega
        have hkn : k < n := by have := Hn.out; omega
        have hz : ((k : Int) == 0) = false := by rw [beq_eq_false_iff_ne]; omega
        have ht := vt_ahead hv
        have hp := (ht k hk1 (by rw [Hn.out]; exact hkn)).1
        have hx := vt_to hv (i := k) hk1 (by rw [Hn.out]; exact hkn)
        have hlg := (ht k hk1 (by rw [Hn.out]; exact hkn)).2
        have hfk := fk_iff hf
        rw [Hn.out] at hfk
        have HXS := Lib.hid (fun m (hm : m < n) => xsum_step (fs := fs) ht (n := n) (k := k) (m := m) (by rw [Hn.out]; exact Nat.le_refl _) hk1 hkn hm)
        have HXB := Lib.hid (xsum_bd (fs := fs) ht (n := n) (k := k) (by rw [Hn.out]; exact Nat.le_refl _) hk1 hkn hfk.2)
        have HTB := Lib.hid (fun j (hj : j < n) => tsm_bd (fs := fs) ht (n := n) (a := j) (by rw [Hn.out]; exact Nat.le_refl _) hn7 hj hfk.2 n (Nat.le_refl _))
        have HOV := Lib.hid (tsm_over (fs := fs) ht (n := n) (v := k) (by rw [Hn.out]; exact Nat.le_refl _) hk1 hkn n (Nat.le_refl _))
        have Hv := Lib.hid hv
        have Hf := Lib.hid hf
        have Hfk := Lib.hid hfk
        obtain ⟨p, Hp⟩ : ∃ p, Hid (tto ts k = p) := ⟨_, rfl⟩
        rw [Hp.out] at hp hx
        clear hv hf hfk ht
        go_wp2_with fail
        refine (iTreeTable_any A' c' ts.length ts w3 hrd3 rfl hcc (by omega)).mono ?_
        rintro e w4 (⟨hno, -, -⟩ | ⟨-, v, VR, rfl, hO, hTT, hnx4⟩)
        · exact absurd (Hv.out.symm.trans hno) (by decide)
        rw [Hn.out] at hO hTT
        obtain ⟨Ag, cg, rfl, -, -, hA⟩ := own_sliceN hO
        obtain ⟨g, rfl, -, -⟩ := hA (by omega)
        have HO := Lib.hid hO
        have HTT := Lib.hid hTT
        have h14 := h13.trans (hnx4.mono h13.size)
        have hrd4 := Lib.hid ((hrd3.below hnx4).more hnx4.size)
        have hrf4 := Lib.hid ((hrf3.below hnx4).more hnx4.size)
        have H14 := Lib.hid h14
        rw [Hn.out]
        rw [Hn.out] at hcc
        clear hO hTT hnx4 hA h14 hrd hrd2 hrd3 hrf hrf2 hrf3 h13 h12 hnx1 hnx2 hnx3 hA1 hl
        obtain ⟨bt, ot, xt, yt, e, -, Hxt, hct, hcl⟩ := hrd4.out.x (k := k) (by rw [Hn.out]; exact hkn)
        subst e
        rw [Hxt.out] at hx
        simp only at hx
        subst hx
        have hy : tlg ts k = yt := by unfold tlg; rw [Hxt.out]
        rw [hy] at hlg
        obtain ⟨fl, Hfl⟩ : ∃ fl, Hid (fs.length = fl) := ⟨_, rfl⟩
        rw [Hfl.out]
        have hfln : fl = n := by rw [← Hfl.out]; exact Hfk.out.1
        subst hfln
        go_wp2
        go_loopw [8, 9] (fun o i wr => ∃ m : Nat, ∃ q, m ≤ fl ∧ i = .int .i64 m ∧ o = .int .i64 (xsum ts fs k m) ∧ wr = w4.drewN q) (fun _ i _ => fl - (intOf i).toNat)
        case atStart => exact ⟨0, 0, Nat.zero_le _, rfl, rfl, rfl⟩
        case round =>
          obtain ⟨m, q, hmn, rfl, rfl, rfl⟩ := hrel
          by_cases hlt : m < fl
          · obtain ⟨bf, of, x, rfl, -, Hx, hcx⟩ := hrf4.out.x (k := m) (by rw [Hfl.out]; exact hlt)
            obtain ⟨gk, ck, hvk, hck⟩ := HTT.out.cells hkn (k := m) (by rw [rowN_len]; exact hlt)
            have hok := Outer.cell HO.out hkn
            rw [hvk, rowN_len] at hok
            rw [rowN_get ts hlt] at hck
            obtain ⟨gp, cp, hvp, hcp⟩ := HTT.out.cells (show p < fl by omega) (k := m) (by rw [rowN_len]; exact hlt)
            have hop := Outer.cell HO.out (show p < fl by omega)
            rw [hvp, rowN_len] at hop
            rw [rowN_get ts hlt] at hcp
            obtain ⟨hs1, hs2⟩ := HXS.out m hlt
            rw [Hp.out] at hs1 hs2
            have hxb := Hfk.out.2 m hlt
            have hxm := HXB.out m hmn
            rw [Hx.out] at hs1 hs2 hxb
            obtain ⟨S, HS⟩ : ∃ S, Hid (xsum ts fs k m = S) := ⟨_, rfl⟩
            rw [HS.out] at hs1 hs2 hxm ⊢
            obtain ⟨d1, Hd1⟩ : ∃ d1, Hid (dn ts fl k m = d1) := ⟨_, rfl⟩
            obtain ⟨d2, Hd2⟩ : ∃ d2, Hid (dn ts fl p m = d2) := ⟨_, rfl⟩
            rw [Hd1.out] at hck hs1 hs2
            rw [Hd2.out] at hcp hs1 hs2
            clear hvk hvp
            by_cases hd : d1 < d2
            · have hs := Lib.hid (hs1 hd)
              clear hs1 hs2
              go_wp2
              go_quiet (fail)
              go_wp2
              go_roundw
              case rel => exact ⟨m + 1, _, by omega, by go_num, by rw [hs.out], rfl⟩
              case measure => simp [intOf]; omega
            · have hs := Lib.hid (hs2 (by omega))
              clear hs1 hs2
              go_wp2
              go_quiet (fail)
              go_wp2
              go_roundw
              case rel => exact ⟨m + 1, _, by omega, by go_num, by rw [hs.out], rfl⟩
              case measure => simp [intOf]; omega
          · have hmf : m = fl := by omega
            subst hmf
            have hpb := HTB.out p (by omega)
            have hkb := HTB.out k hkn
            have hxm := HXB.out m (Nat.le_refl _)
            have hov := HOV.out
            rw [Hp.out, hy] at hov
            have hov' : T = tsm ts fs m p m + yt * xsum ts fs k m := by rw [hTk.out, hov]; rfl
            rw [← hTk.out] at hkb
            have hpv : tsv ts fs (p : Int) = tsm ts fs m p m := by
              unfold tsv; rw [if_pos ⟨Hv.out, Hf.out, by omega, by rw [Hn.out]; omega⟩, Hn.out]; rfl
            obtain ⟨S, HS⟩ : ∃ S, Hid (xsum ts fs k m = S) := ⟨_, rfl⟩
            obtain ⟨U, HU⟩ : ∃ U, Hid (tsm ts fs m p m = U) := ⟨_, rfl⟩
            rw [HS.out] at hxm hov' ⊢
            rw [HU.out] at hov' hpb hpv
            have hwq := (Below.refl w4.heap.size w4)
            have hcall := fun (W : World) (hW : Below w4.heap.size w4 W) => iTreeSum_any (some ⟨bt, ot, none⟩) Af c' m cf m ts fs (p : Int) W ((hrd4.out.below hW).more hW.size) Hn.out hcc (by omega) ((hrf4.out.below hW).more hW.size) Hfl.out (by omega) (by simp [Lit.wf, IntKind.min, IntKind.max, IntKind.signed, IntKind.bits]; omega)
            rw [hpv] at hcall
            have Hcall := Lib.hid hcall
            have hbt : bt < w4.heap.size := World.block_lt_of_cell? w4 _ hct
            clear hcall
            have w1' : IntKind.i64.wrap (T - U) = T - U := IntWalk.i64_in _ (by omega)
            have hSy1 : -1260 ≤ S * yt ∧ S * yt ≤ 1260 := by
              have h1 : S * yt ≤ 140 * 9 := by
                by_cases hS0 : 0 ≤ S
                · exact Int.mul_le_mul (by omega) hlg.2 (by omega) (by omega)
                · have : S * yt ≤ 0 := Int.mul_nonpos_of_nonpos_of_nonneg (by omega) (by omega)
                  omega
              have h2 : -S * yt ≤ 140 * 9 := by
                by_cases hS0 : 0 ≤ -S
                · exact Int.mul_le_mul (by omega) hlg.2 (by omega) (by omega)
                · have : -S * yt ≤ 0 := Int.mul_nonpos_of_nonpos_of_nonneg (by omega) (by omega)
                  omega
              rw [Int.neg_mul] at h2
              omega
            have w2' : IntKind.i64.wrap (S * yt) = S * yt := IntWalk.i64_in _ (by omega)
            have hfin : (T - U == S * yt) = true := by rw [beq_iff_eq, hov', Int.mul_comm S yt]; omega
            clear hov' hSy1 hpb hkb hxm hpv
            have hq := below_drewN hwq q
            have cq0 : (w4.drewN q).cell? ⟨bt, ot + k * 2, none⟩ = some (.int .i64 (p : Int)) := hct
            have cq1 : (w4.drewN q).cell? ⟨bt, ot + k * 2 + 1, none⟩ = some (.int .i64 yt) := hcl
            go_wp2
            generalize w4.drewN q = wq at hq cq0 cq1 ⊢
            have Hq := Lib.hid hq
            clear hq hwq
            go_region_with (
              go_at_call 17
              refine (Hcall.out _ Hq.out.drew).mono ?_
              rintro e wz ⟨rfl, hnz⟩
              have cz1 := (hnz.cell (p := ⟨bt, ot + k * 2 + 1, none⟩) (Nat.lt_of_lt_of_le hbt Hq.out.size)).trans cq1
              have Hnz := Lib.hid hnz
              clear hnz)
            all_goals
              have hend := (H14.out.trans (Hq.out.mono H14.out.size)).trans ((belowd Hnz.out).mono (Nat.le_trans H14.out.size Hq.out.size))
              have Hend := Lib.hid hend
              clear hend w1' w2' cz1
              go_wp2
              go_ret
              first
              | exact ⟨rfl, Hend.out⟩
              | exact ⟨ret_bool hfin, Hend.out⟩
end Go.Proofs.Ytoappopbjnlbdab
