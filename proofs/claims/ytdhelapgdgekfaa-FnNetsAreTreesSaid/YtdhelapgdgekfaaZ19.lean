/-
  TreeApart: the program and the model answer the same; the law FnExactTreeApart.
  Conditions: none beyond what each theorem states.
-/
import Derived.Test.YtdhelapgdgekfaaZ16
import Derived.Test.YtdhelapgdgekfaaZ14
import Derived.Test.YtdhelapgdgekfaaZ2
namespace Go.Proofs.Ytdhelapgdgekfaa
open Go.ChangeShapes Go.WideShapes Go.ChangeAt Go.RowKit
set_option linter.unusedVariables false
set_option maxRecDepth 4000

/-- TreeApart's answer. -/
def apv (t : List (Int × Int)) (far : Int) : Int := if vt t = true ∧ 0 ≤ far ∧ far ≤ 50 then ((pkB (dn t t.length) far t.length (2 ^ t.length) : Nat) : Int) else -1
theorem apv_no {t : List (Int × Int)} {far : Int} (h : vt t = false ∨ far < 0 ∨ 50 < far) : apv t far = -1 := by
  unfold apv
  rw [if_neg]
  rintro ⟨h1, h2, h3⟩
  rcases h with h | h | h
  · rw [h1] at h; cases h
  · omega
  · omega
theorem mw_near {t : List (Int × Int)} (ht : Ahead t) {n : Nat} (hn : n ≤ t.length) (h7 : n ≤ 7) (far : Int) : mw (fun i => nmk (dn t n) far i n) n 0 0 = pkB (dn t n) far n (2 ^ n) :=
  mw_pkR h7 (fun i hi v => by
    rw [nmk_bit, dn_symm t n i v]
    constructor
    · rintro ⟨h1, h2, h3⟩; exact ⟨h1, (dn_bd ht n v i hn h1 hi).1, h3⟩
    · rintro ⟨h1, h2, h3⟩; exact ⟨h1, by omega, h3⟩)

set_option maxHeartbeats 1600000 in
theorem iTreeApart_any (A : Option Addr) (c n : Nat) (ts : List (Int × Int)) (far : Int) (w : World) (hr : RdR w w.heap.size A ts) (hn : ts.length = n) (hc : n ≤ c) (hb : n ≤ 1152921504606846976) :
    Calls Try.prog 24 #[.slice A n c, .int .i64 far] w fun e w' => e = .returned (.int .i64 (apv ts far)) ∧ Below w.heap.size w w' := by
  by_cases hv : vt ts = true
  · have H1 := Lib.hid (iValidTree_is A c n ts w _ hr hn hc hb (Nat.le_refl _) hv)
    by_cases hf : far < 0 ∨ 50 < far
    · have Hs := Lib.hid (apv_no (t := ts) (.inr hf))
      have H2 := Lib.hid (fun w2 => farOk_no far w2 hf)
      clear hv hf hr hn
      go_enter Try.func24, Try.ntmps24
      go_wp2_with fail
      refine H1.out.mono ?_
      rintro e w2 ⟨rfl, hnx2⟩
      have HB2 := Lib.hid hnx2
      clear hnx2
      go_wp2_with fail
      refine (H2.out w2).mono ?_
      rintro e w' ⟨rfl, rfl⟩
      go_wp2
      go_ret
      exact ⟨ret_int Hs.out.symm, HB2.out⟩
    · obtain ⟨h1, h7, -⟩ := (vt_iff ts).1 hv
      rw [hn] at h1 h7
      have H2 := Lib.hid (fun w2 => farOk_yes far w2 (by omega) (by omega))
      have Hs := Lib.hid (show apv ts far = ((mw (fun i => nmk (dn ts n) far i n) n 0 0 : Nat) : Int) by
        unfold apv; rw [if_pos ⟨hv, by omega, by omega⟩, mw_near (vt_ahead hv) (by omega) h7, hn])
      have Hr := Lib.hid hr
      have Hn := Lib.hid hn
      have Hv := Lib.hid hv
      clear hv hf hr hn
      go_enter Try.func24, Try.ntmps24
      go_wp2_with fail
      refine H1.out.mono ?_
      rintro e w2 ⟨rfl, hnx2⟩
      have HB2 := Lib.hid hnx2
      have Ht := Lib.hid (iTreeTable_any A c n ts w2 ((Hr.out.below hnx2).more hnx2.size) Hn.out hc hb)
      clear hnx2
      go_wp2_with fail
      refine (H2.out w2).mono ?_
      rintro e w' ⟨rfl, rfl⟩
      go_wp2_with fail
      refine Ht.out.mono ?_
      rintro e w4 (⟨hno, -, -⟩ | ⟨-, v, VR, rfl, hO, hT, hnx4⟩)
      · exact absurd (Hv.out.symm.trans hno) (by decide)
      rw [Hn.out] at hO hT
      obtain ⟨Ag, cg, rfl, -, -, hA⟩ := own_sliceN hO
      obtain ⟨g, rfl, -, -⟩ := hA (by omega)
      have Hns := Lib.hid (nearSetsT_any w4 w2.heap.size n g cg far VR ts h1 h7 hO hT)
      have HB4 := Lib.hid (HB2.out.trans (hnx4.mono HB2.out.size))
      clear hO hT hnx4 hA
      go_wp2_with fail
      refine Hns.out.mono ?_
      rintro e w5 ⟨g5, rfl, hown5, hnx5⟩
      have HB5 := Lib.hid (HB4.out.trans (hnx5.mono HB4.out.size))
      have hru : RdU w5 (some ⟨g5, 0, none⟩) (fun i => nmk (dn ts n) far i n) 0 n := fun _ => ⟨g5, 0, rfl, fun i hi => by
        rw [Nat.zero_add, hown5.cellAt i (by omega)]
        simp [Ms, hi]⟩
      have h128 : ∀ i, nmk (dn ts n) far i n < 128 := fun i => pow_128 h7 (nmk_lt _ _ _ _)
      have Hm := Lib.hid (mostW_any (fun i => nmk (dn ts n) far i n) h128 n 0 0 n (some ⟨g5, 0, none⟩) w5 hru (Nat.le_refl _) h7 (by omega))
      clear hown5 hnx5 hru h128
      go_wp2_with fail
      refine Hm.out.mono ?_
      rintro e w6 ⟨rfl, q, rfl⟩
      go_wp2
      go_ret
      exact ⟨ret_int Hs.out.symm, below_drewN HB5.out _⟩
  · have hv' : vt ts = false := by simpa using hv
    have Hs := Lib.hid (apv_no (far := far) (.inl hv'))
    have H1 := Lib.hid (iValidTree_is A c n ts w _ hr hn hc hb (Nat.le_refl _) hv')
    clear hv hv' hr hn
    go_enter Try.func24, Try.ntmps24
    go_wp2_with fail
    refine H1.out.mono ?_
    rintro e w2 ⟨rfl, hnx2⟩
    have HB2 := Lib.hid hnx2
    clear hnx2
    go_wp2
    go_ret
    exact ⟨ret_int Hs.out.symm, HB2.out⟩
set_option maxHeartbeats 1600000 in
theorem sTreeApart_any (A : Option Addr) (c n : Nat) (ts : List (Int × Int)) (far : Int) (w : World) (hr : RdR w w.heap.size A ts) (hn : ts.length = n) (hb : n ≤ 1152921504606846976) :
    Calls Try.prog 27 #[.slice A n c, .int .i64 far] w fun e w' => e = .returned (.int .i64 (apv ts far)) ∧ Below w.heap.size w w' := by
  by_cases hv : vt ts = true
  · have H1 := Lib.hid (sValidTree_is A c n ts w _ hr hn hb hv)
    by_cases hf : far < 0 ∨ 50 < far
    · have Hs := Lib.hid (apv_no (t := ts) (.inr hf))
      have H2 := Lib.hid (inRange_no far 0 50 w hf)
      clear hv hf hr hn
      go_enter Try.func27, Try.ntmps27
      go_wp2_with fail
      refine H1.out.mono ?_
      rintro e w' ⟨rfl, rfl⟩
      go_wp2_with fail
      refine H2.out.mono ?_
      rintro e w' ⟨rfl, rfl⟩
      go_wp2
      go_ret
      exact ⟨ret_int Hs.out.symm, Below.refl _ _⟩
    · obtain ⟨h1, h7, -⟩ := (vt_iff ts).1 hv
      rw [hn] at h1 h7
      have H2 := Lib.hid (inRange_yes far 0 50 w (by omega) (by omega))
      have Hs := Lib.hid (show apv ts far = ((pkB (dn ts n) far n (2 ^ n) : Nat) : Int) by unfold apv; rw [if_pos ⟨hv, by omega, by omega⟩, hn])
      have Ht := Lib.hid (treeTable_any A c n ts w hr hn hv)
      have Hn := Lib.hid hn
      have Hv := Lib.hid hv
      clear hv hf hr hn
      go_enter Try.func27, Try.ntmps27
      go_wp2_with fail
      refine H1.out.mono ?_
      rintro e w' ⟨rfl, rfl⟩
      go_wp2_with fail
      refine H2.out.mono ?_
      rintro e w' ⟨rfl, rfl⟩
      go_wp2_with fail
      refine Ht.out.mono ?_
      rintro e w4 ⟨v, VR, rfl, hO, hT, hnx4⟩
      rw [Hn.out] at hO hT
      obtain ⟨Ag, cg, rfl, -, -, hA⟩ := own_sliceN hO
      obtain ⟨g, rfl, -, -⟩ := hA (by omega)
      have Hp := Lib.hid (packing_any w4 w.heap.size n g cg far VR ts (vt_ahead Hv.out) (by rw [Hn.out]; exact Nat.le_refl _) h1 h7 hO hT)
      have HB4 := Lib.hid hnx4
      clear hO hT hnx4 hA
      go_wp2_with fail
      refine Hp.out.mono ?_
      rintro e w' ⟨rfl, rfl⟩
      go_wp2
      go_ret
      exact ⟨ret_int Hs.out.symm, HB4.out⟩
  · have hv' : vt ts = false := by simpa using hv
    have Hs := Lib.hid (apv_no (far := far) (.inl hv'))
    have H1 := Lib.hid (sValidTree_is A c n ts w _ hr hn hb hv')
    clear hv hv' hr hn
    go_enter Try.func27, Try.ntmps27
    go_wp2_with fail
    refine H1.out.mono ?_
    rintro e w' ⟨rfl, rfl⟩
    go_wp2
    go_ret
    exact ⟨ret_int Hs.out.symm, Below.refl _ _⟩

set_option maxHeartbeats 1600000 in
theorem exTreeApart_walk (A : Option Addr) (c : Nat) (ts : List (Int × Int)) (far : Int) (w : World) (hr : RdR w w.heap.size A ts) (hm : ts.length ≤ maxLen) (hwa : (Lit.int .i64 far).wf = true) :
    Calls Try.prog 11 #[.slice A ts.length c, .int .i64 far] w fun e w' => e = .returned (.bool true) ∧ Below w.heap.size w w' := by
  unfold maxLen at hm
  by_cases hb : 1048576 < ts.length
  · go_enter Try.func11, Try.ntmps11
    go_wp2_with fail
    refine (szR_big A c _ w hm hb).mono ?_
    rintro e w' ⟨rfl, rfl⟩
    go_wp2
    go_ret
    exact ⟨rfl, Below.refl _ _⟩
  · clear hwa
    go_enter Try.func11, Try.ntmps11
    go_wp2_with fail
    refine (szR_fits A c _ w (by omega)).mono ?_
    rintro e w' ⟨q, hq, rfl, rfl⟩
    go_wp2_with fail
    refine (toR_any A c _ ts w hr rfl (by omega)).mono ?_
    rintro e w1 ⟨b1, rfl, hb1, hr1, hnx1, -⟩
    have hra1 := (hr.below hnx1).more hnx1.size
    go_wp2_with fail
    refine (sTreeApart_any _ _ _ ts far w1 hr1 rfl (by omega)).mono ?_
    rintro e w3 ⟨rfl, hnx3⟩
    have h13 := hnx1.trans (hnx3.mono hnx1.size)
    have hra3 := (hra1.below hnx3).more hnx3.size
    go_wp2_with fail
    refine (toR_any A c _ ts w3 hra3 rfl (by omega)).mono ?_
    rintro e w4 ⟨b4, rfl, hb4, hr4, hnx4, -⟩
    have h14 := h13.trans (hnx4.mono h13.size)
    have hra4 := (hra3.below hnx4).more hnx4.size
    go_wp2_with fail
    refine (iTreeApart_any _ _ _ ts far w4 hr4 rfl (Nat.le_refl _) (by omega)).mono ?_
    rintro e w6 ⟨rfl, hnx6⟩
    have h16 := h14.trans (hnx6.mono h14.size)
    have hr6 := (hr4.below hnx6).more hnx6.size
    have hra6 := (hra4.below hnx6).more hnx6.size
    have hbn : ∀ x : Int, (x != x) = false := fun x => by simp
    go_wp2_with fail
    refine (toR_any A c _ ts w6 hra6 rfl (by omega)).mono ?_
    rintro e w7 ⟨b7, rfl, hb7, hr7, hnx7, -⟩
    have h17 := h16.trans (hnx7.mono h16.size)
    go_wp2_with fail
    refine (eqR_same _ _ _ _ _ _ ts w7 _ _ ((hr6.below hnx7).more hnx7.size) rfl hr7 rfl (by omega) (Nat.le_refl _) (Nat.le_refl _)).mono ?_
    rintro e w8 ⟨rfl, hnx8⟩
    have h18 := h17.trans (hnx8.mono h17.size)
    go_wp2
    go_ret
    exact ⟨rfl, h18⟩
end Go.Proofs.Ytdhelapgdgekfaa
