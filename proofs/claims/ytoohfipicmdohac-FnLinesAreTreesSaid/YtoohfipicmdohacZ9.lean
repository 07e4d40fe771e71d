/-
  TreeApart: the program and the model answer the same; the law FnExactTreeApart.
  Conditions: none beyond what each theorem states.
  MostApart: the program fills the table and answers its greatest number.
  Conditions: fewer than 2^20 numbers.
  MostApart of the model appends the same table.
  Conditions: fewer than 2^20 numbers.
  A row of roads of the call's own, read.
  Conditions: none beyond what the theorem states.
  The law FnLinesAreTrees: on a line's tree at least as many nodes are apart as homes on the line.
  Conditions: none.
-/
import Derived.Test.YtoohfipicmdohacZ7
import Derived.Test.YtoohfipicmdohacZ8
import Derived.Test.YtoohfipicmdohacZ1
import Derived.Test.YtoohfipicmdohacZ0
import Derived.Test.YtoohfipicmdohacZ2
import Derived.Deep.AppendLies
import Derived.Maps.AppendAt
namespace Go.Proofs.Ytoohfipicmdohac
open Go.ChangeShapes Go.WideShapes Go.ChangeAt Go.RowKit
set_option linter.unusedVariables false
set_option maxRecDepth 4000

/-- TreeApart's answer. -/
def apv (t : List (Int × Int)) (far : Int) : Int := if vt t = true ∧ 0 ≤ far ∧ far ≤ 50 then ((pkB (dn t t.length) far t.length (2 ^ t.length) : Nat) : Int) else -1
theorem apv_no {t : List (Int × Int)} {far : Int} (h : vt t = false ∨ far < 0 ∨ 50 < far) : apv t far = -1 := by
  unfold apv
  rw [if_neg]
  rintro ⟨h1, h2, h3⟩
  rcases h with h | h | h
  · rw [h1] at h; cases h
  · omega
  · omega
theorem mw_near {t : List (Int × Int)} (ht : Ahead t) {n : Nat} (hn : n ≤ t.length) (h7 : n ≤ 7) (far : Int) : mw (fun i => nmk (dn t n) far i n) n 0 0 = pkB (dn t n) far n (2 ^ n) :=
  mw_pkR h7 (fun i hi v => by
    rw [nmk_bit, dn_symm t n i v]
    constructor
    · rintro ⟨h1, h2, h3⟩; exact ⟨h1, (dn_bd ht n v i hn h1 hi).1, h3⟩
    · rintro ⟨h1, h2, h3⟩; exact ⟨h1, by omega, h3⟩)

set_option maxHeartbeats 1600000 in
theorem iTreeApart_any (A : Option Addr) (c n : Nat) (ts : List (Int × Int)) (far : Int) (w : World) (hr : RdR w w.heap.size A ts) (hn : ts.length = n) (hc : n ≤ c) (hb : n ≤ 1152921504606846976) :
    Calls Try.prog 19 #[.slice A n c, .int .i64 far] w fun e w' => e = .returned (.int .i64 (apv ts far)) ∧ Below w.heap.size w w' := by
  by_cases hv : vt ts = true
  · have H1 := Lib.hid (iValidTree_is A c n ts w _ hr hn hc hb (Nat.le_refl _) hv)
    by_cases hf : far < 0 ∨ 50 < far
    · have Hs := Lib.hid (apv_no (t := ts) (.inr hf))
      have H2 := Lib.hid (fun w2 => farOk_no far w2 hf)
      clear hv hf hr hn
      go_enter Try.func19, Try.ntmps19
      go_wp2_with fail
      refine H1.out.mono ?_
      rintro e w2 ⟨rfl, hnx2⟩
      have HB2 := Lib.hid hnx2
      clear hnx2
      go_wp2_with fail
      refine (H2.out w2).mono ?_
      rintro e w' ⟨rfl, rfl⟩
      go_wp2
      go_ret
      exact ⟨ret_int Hs.out.symm, HB2.out⟩
    · obtain ⟨h1, h7, -⟩ := (vt_iff ts).1 hv
      rw [hn] at h1 h7
      have H2 := Lib.hid (fun w2 => farOk_yes far w2 (by omega) (by omega))
      have Hs := Lib.hid (show apv ts far = ((mw (fun i => nmk (dn ts n) far i n) n 0 0 : Nat) : Int) by
        unfold apv; rw [if_pos ⟨hv, by omega, by omega⟩, mw_near (vt_ahead hv) (by omega) h7, hn])
      have Hr := Lib.hid hr
      have Hn := Lib.hid hn
      have Hv := Lib.hid hv
      clear hv hf hr hn
      go_enter Try.func19, Try.ntmps19
      go_wp2_with fail
      refine H1.out.mono ?_
      rintro e w2 ⟨rfl, hnx2⟩
      have HB2 := Lib.hid hnx2
      have Ht := Lib.hid (iTreeTable_any A c n ts w2 ((Hr.out.below hnx2).more hnx2.size) Hn.out hc hb)
      clear hnx2
      go_wp2_with fail
      refine (H2.out w2).mono ?_
      rintro e w' ⟨rfl, rfl⟩
      go_wp2_with fail
      refine Ht.out.mono ?_
      rintro e w4 (⟨hno, -, -⟩ | ⟨-, v, VR, rfl, hO, hT, hnx4⟩)
      · exact absurd (Hv.out.symm.trans hno) (by decide)
      rw [Hn.out] at hO hT
      obtain ⟨Ag, cg, rfl, -, -, hA⟩ := own_sliceN hO
      obtain ⟨g, rfl, -, -⟩ := hA (by omega)
      have Hns := Lib.hid (nearSetsT_any w4 w2.heap.size n g cg far VR ts h1 h7 hO hT)
      have HB4 := Lib.hid (HB2.out.trans (hnx4.mono HB2.out.size))
      clear hO hT hnx4 hA
      go_wp2_with fail
      refine Hns.out.mono ?_
      rintro e w5 ⟨g5, rfl, hown5, hnx5⟩
      have HB5 := Lib.hid (HB4.out.trans (hnx5.mono HB4.out.size))
      have hru : RdU w5 (some ⟨g5, 0, none⟩) (fun i => nmk (dn ts n) far i n) 0 n := fun _ => ⟨g5, 0, rfl, fun i hi => by
        rw [Nat.zero_add, hown5.cellAt i (by omega)]
        simp [Ms, hi]⟩
      have h128 : ∀ i, nmk (dn ts n) far i n < 128 := fun i => pow_128 h7 (nmk_lt _ _ _ _)
      have Hm := Lib.hid (mostW_any (fun i => nmk (dn ts n) far i n) h128 n 0 0 n (some ⟨g5, 0, none⟩) w5 hru (Nat.le_refl _) h7 (by omega))
      clear hown5 hnx5 hru h128
      go_wp2_with fail
      refine Hm.out.mono ?_
      rintro e w6 ⟨rfl, q, rfl⟩
      go_wp2
      go_ret
      exact ⟨ret_int Hs.out.symm, below_drewN HB5.out _⟩
  · have hv' : vt ts = false := by simpa using hv
    have Hs := Lib.hid (apv_no (far := far) (.inl hv'))
    have H1 := Lib.hid (iValidTree_is A c n ts w _ hr hn hc hb (Nat.le_refl _) hv')
    clear hv hv' hr hn
    go_enter Try.func19, Try.ntmps19
    go_wp2_with fail
    refine H1.out.mono ?_
    rintro e w2 ⟨rfl, hnx2⟩
    have HB2 := Lib.hid hnx2
    clear hnx2
    go_wp2
    go_ret
    exact ⟨ret_int Hs.out.symm, HB2.out⟩
set_option maxHeartbeats 1600000 in
theorem sTreeApart_any (A : Option Addr) (c n : Nat) (ts : List (Int × Int)) (far : Int) (w : World) (hr : RdR w w.heap.size A ts) (hn : ts.length = n) (hb : n ≤ 1152921504606846976) :
    Calls Try.prog 34 #[.slice A n c, .int .i64 far] w fun e w' => e = .returned (.int .i64 (apv ts far)) ∧ Below w.heap.size w w' := by
  by_cases hv : vt ts = true
  · have H1 := Lib.hid (sValidTree_is A c n ts w _ hr hn hb hv)
    by_cases hf : far < 0 ∨ 50 < far
    · have Hs := Lib.hid (apv_no (t := ts) (.inr hf))
      have H2 := Lib.hid (inRange_no far 0 50 w hf)
      clear hv hf hr hn
      go_enter Try.func34, Try.ntmps34
      go_wp2_with fail
      refine H1.out.mono ?_
      rintro e w' ⟨rfl, rfl⟩
      go_wp2_with fail
      refine H2.out.mono ?_
      rintro e w' ⟨rfl, rfl⟩
      go_wp2
      go_ret
      exact ⟨ret_int Hs.out.symm, Below.refl _ _⟩
    · obtain ⟨h1, h7, -⟩ := (vt_iff ts).1 hv
      rw [hn] at h1 h7
      have H2 := Lib.hid (inRange_yes far 0 50 w (by omega) (by omega))
      have Hs := Lib.hid (show apv ts far = ((pkB (dn ts n) far n (2 ^ n) : Nat) : Int) by unfold apv; rw [if_pos ⟨hv, by omega, by omega⟩, hn])
      have Ht := Lib.hid (treeTable_any A c n ts w hr hn hv)
      have Hn := Lib.hid hn
      have Hv := Lib.hid hv
      clear hv hf hr hn
      go_enter Try.func34, Try.ntmps34
      go_wp2_with fail
      refine H1.out.mono ?_
      rintro e w' ⟨rfl, rfl⟩
      go_wp2_with fail
      refine H2.out.mono ?_
      rintro e w' ⟨rfl, rfl⟩
      go_wp2_with fail
      refine Ht.out.mono ?_
      rintro e w4 ⟨v, VR, rfl, hO, hT, hnx4⟩
      rw [Hn.out] at hO hT
      obtain ⟨Ag, cg, rfl, -, -, hA⟩ := own_sliceN hO
      obtain ⟨g, rfl, -, -⟩ := hA (by omega)
      have Hp := Lib.hid (packing_any w4 w.heap.size n g cg far VR ts (vt_ahead Hv.out) (by rw [Hn.out]; exact Nat.le_refl _) h1 h7 hO hT)
      have HB4 := Lib.hid hnx4
      clear hO hT hnx4 hA
      go_wp2_with fail
      refine Hp.out.mono ?_
      rintro e w' ⟨rfl, rfl⟩
      go_wp2
      go_ret
      exact ⟨ret_int Hs.out.symm, HB4.out⟩
  · have hv' : vt ts = false := by simpa using hv
    have Hs := Lib.hid (apv_no (far := far) (.inl hv'))
    have H1 := Lib.hid (sValidTree_is A c n ts w _ hr hn hb hv')
    clear hv hv' hr hn
    go_enter Try.func34, Try.ntmps34
    go_wp2_with fail
    refine H1.out.mono ?_
    rintro e w' ⟨rfl, rfl⟩
    go_wp2
    go_ret
    exact ⟨ret_int Hs.out.symm, Below.refl _ _⟩

set_option maxHeartbeats 1600000 in
theorem exTreeApart_walk (A : Option Addr) (c : Nat) (ts : List (Int × Int)) (far : Int) (w : World) (hr : RdR w w.heap.size A ts) (hm : ts.length ≤ maxLen) (hwa : (Lit.int .i64 far).wf = true) :
    Calls Try.prog 9 #[.slice A ts.length c, .int .i64 far] w fun e w' => e = .returned (.bool true) ∧ Below w.heap.size w w' := by
  unfold maxLen at hm
  by_cases hb : 1048576 < ts.length
  · go_enter Try.func9, Try.ntmps9
    go_wp2_with fail
    refine (szR_big A c _ w hm hb).mono ?_
    rintro e w' ⟨rfl, rfl⟩
    go_wp2
    go_ret
    exact ⟨rfl, Below.refl _ _⟩
  · clear hwa
    go_enter Try.func9, Try.ntmps9
    go_wp2_with fail
    refine (szR_fits A c _ w (by omega)).mono ?_
    rintro e w' ⟨q, hq, rfl, rfl⟩
    go_wp2_with fail
    refine (toR_any A c _ ts w hr rfl (by omega)).mono ?_
    rintro e w1 ⟨b1, rfl, hb1, hr1, hnx1, -⟩
    have hra1 := (hr.below hnx1).more hnx1.size
    go_wp2_with fail
    refine (sTreeApart_any _ _ _ ts far w1 hr1 rfl (by omega)).mono ?_
    rintro e w3 ⟨rfl, hnx3⟩
    have h13 := hnx1.trans (hnx3.mono hnx1.size)
    have hra3 := (hra1.below hnx3).more hnx3.size
    go_wp2_with fail
    refine (toR_any A c _ ts w3 hra3 rfl (by omega)).mono ?_
    rintro e w4 ⟨b4, rfl, hb4, hr4, hnx4, -⟩
    have h14 := h13.trans (hnx4.mono h13.size)
    have hra4 := (hra3.below hnx4).more hnx4.size
    go_wp2_with fail
    refine (iTreeApart_any _ _ _ ts far w4 hr4 rfl (Nat.le_refl _) (by omega)).mono ?_
    rintro e w6 ⟨rfl, hnx6⟩
    have h16 := h14.trans (hnx6.mono h14.size)
    have hr6 := (hr4.below hnx6).more hnx6.size
    have hra6 := (hra4.below hnx6).more hnx6.size
    have hbn : ∀ x : Int, (x != x) = false := fun x => by simp
    go_wp2_with fail
    refine (toR_any A c _ ts w6 hra6 rfl (by omega)).mono ?_
    rintro e w7 ⟨b7, rfl, hb7, hr7, hnx7, -⟩
    have h17 := h16.trans (hnx7.mono h16.size)
    go_wp2_with fail
    refine (eqR_same _ _ _ _ _ _ ts w7 _ _ ((hr6.below hnx7).more hnx7.size) rfl hr7 rfl (by omega) (Nat.le_refl _) (Nat.le_refl _)).mono ?_
    rintro e w8 ⟨rfl, hnx8⟩
    have h18 := h17.trans (hnx8.mono h17.size)
    go_wp2
    go_ret
    exact ⟨rfl, h18⟩
end Go.Proofs.Ytoohfipicmdohac
namespace Go.Proofs.Ytoohfipicmdohac
open Go.ChangeShapes Go.WideShapes Go.ChangeAt Go.RowKit
set_option linter.unusedVariables false

theorem if_max (a b : Int) : (if a < b then b else a) = max a b := by split <;> omega
theorem most_store {w : World} {B b n cap m k : Nat} {pre : List Int} {t u : Int} (hl : pre.length = k) (h : w.ownsRow B 3 1 (.slice (some ⟨b, 0, none⟩) n cap) n (rowc pre t m)) :
    (w.setCell ⟨b, k, none⟩ (.int .i64 (if t < u then u else t))).drew.ownsRow B 3 1 (.slice (some ⟨b, 0, none⟩) n cap) n (rowc pre (max t u) m) := by
  have h2 := (h.stored k (.int .i64 (if t < u then u else t))).1
  rw [if_max] at h2 ⊢
  rw [← rowc_set pre t, hl]
  exact h2
theorem rowc_done {far x : Int} {zs : List Int} {j n : Nat} (hx : zs.getD j 0 = x) :
    (bests far zs (j + 1) ++ List.replicate (n - (j + 1)) 0).map (Value.int .i64) = rowc (bests far zs j) (inn far x zs (bests far zs j) j) (n - (j + 1)) := by
  simp [rowc, bests, ← hx]

set_option maxHeartbeats 800000 in
theorem iMost_any (A : Option Addr) (c n : Nat) (zs : List Int) (far : Int) (w : World) (B : Nat) (hr : RdI w B A zs) (hB : B ≤ w.heap.size) (hn : zs.length = n) (hcap : n ≤ c) (hc63 : c ≤ 9223372036854775807) (hb : n ≤ 1048576) :
    Calls Try.prog 16 #[.slice A n c, .int .i64 far] w fun e w' => e = .returned (.int .i64 (mapart zs far)) ∧ Below w.heap.size w w' := by
  obtain ⟨i0, hi0, hz0, hz1, hz2⟩ := info_parts intInfo
  have Hn := Lib.hid hn
  clear hn
  by_cases hv : vh zs = true
  · by_cases hf : far < 0 ∨ 50 < far
    · have Hs := Lib.hid (mapart_no' (zs := zs) (vfar_no hf))
      go_enter Try.func16, Try.ntmps16
      go_wp2_with fail
      refine (iValid_any A c n zs w B hr Hn.out (by omega)).mono ?_
      rintro e w' ⟨rfl, rfl⟩
      go_wp2_with (go_at_call 40; refine (validFar_no _ _ hf).mono ?_; rintro e w' ⟨rfl, rfl⟩)
      go_ret
      exact ⟨ret_int Hs.out.symm, Below.refl _ _⟩
    · have h1 : 0 ≤ far := by omega
      have h2 : far ≤ 50 := by omega
      clear hf
      have Hs := Lib.hid (mapart_yes hv (vfar_yes h1 h2))
      have Hl := vh_len hv
      rw [Hn.out] at Hl
      go_enter Try.func16, Try.ntmps16
      go_wp2_with fail
      refine (iValid_any A c n zs w B hr Hn.out (by omega)).mono ?_
      rintro e w' ⟨rfl, rfl⟩
      have Hv := Lib.hid hv
      go_wp2_with (first
        | (go_at_call 40; refine (validFar_yes _ _ h1 h2).mono ?_; rintro e w' ⟨rfl, rfl⟩)
        | (at_make; refine wpList_make_full _ rfl _ _ 23 rfl w.heap.size 3 i0 _ 1 Try.underlying23 hi0 hz0 hz1 _ _ _ _ n rfl rfl rfl rfl (by rw [hz2]; omega) (by unfold maxLen; omega) (Nat.le_refl _) ?_; intro w1 hown1 hg1))
      clear hv
      have hs1 : w.heap.size < w1.heap.size := (hown1.lt w.heap.size rfl).2
      have hnx1 : Below w.heap.size w w1 := (Below.refl _ _).grown hg1 (Nat.le_refl _) (fun j hj => by cases hj)
      rw [made_ints] at hown1
      go_loopw [5, 24] (fun m i wr => ∃ k : Nat, k ≤ n ∧ i = .int .i64 k ∧ m = .int .i64 (topp far zs k) ∧ wr.ownsRow w.heap.size 3 1 (.slice (some ⟨w.heap.size, 0, none⟩) n n) n ((bests far zs k ++ List.replicate (n - k) 0).map (Value.int .i64)) ∧ Below w.heap.size w wr)
        (fun _ i _ => n - (intOf i).toNat)
      case atStart => exact ⟨0, Nat.zero_le _, rfl, rfl, by simpa [bests] using hown1, hnx1⟩
      case round =>
        obtain ⟨k, hk, rfl, rfl, hown, hnx⟩ := hrel
        obtain ⟨wo, rfl⟩ : ∃ wo : World, wo = wr := ⟨_, rfl⟩
        have htb := topp_bd (far := far) (zs := zs) k
        by_cases hlt : k < n
        · obtain ⟨b, off, x, rfl, hbw, Hx, hc⟩ := (hr.below (hnx.mono hB)).x (k := k) (by rw [Hn.out]; exact hlt)
          obtain ⟨hx1, hx2⟩ := vh_get Hv.out (by rw [Hn.out]; exact hlt) Hx.out
          have hl := bests_length far zs k
          have hst : (wo.setCell ⟨w.heap.size, k, none⟩ (.int .i64 1)).ownsRow w.heap.size 3 1 (.slice (some ⟨w.heap.size, 0, none⟩) n n) n (rowc (bests far zs k) 1 (n - (k + 1))) := by
            rw [show n - k = (n - (k + 1)) + 1 by omega, ← rowc_zero] at hown
            have h := (hown.stored k (.int .i64 1)).1
            rw [← rowc_set _ 0 1]
            rw [hl]
            exact h
          have hcell : ∃ v, wo.cell? ⟨w.heap.size, k, none⟩ = some v := by
            rw [hown.cellAt k (by omega)]
            exact ⟨_, List.getElem?_eq_getElem (by simp [hl]; omega)⟩
          obtain ⟨v, hv⟩ := hcell
          have hfz := hown.frozenAt k
          have Hst := Lib.hid hst
          clear hst
          have Hl2 := Lib.hid hl
          clear hl
          have hnxs : Below w.heap.size w (wo.setCell ⟨w.heap.size, k, none⟩ (.int .i64 1)) := hnx.setCell (Nat.le_refl _) _
          have Hown := Lib.hid hown
          clear hown
          go_wp2
          clear hv hfz hc Hown
          go_loopw [36] (fun i wr => ∃ j : Nat, j ≤ k ∧ i = .int .i64 j ∧ wr.ownsRow w.heap.size 3 1 (.slice (some ⟨w.heap.size, 0, none⟩) n n) n (rowc (bests far zs k) (inn far x zs (bests far zs k) j) (n - (k + 1))) ∧ Below w.heap.size w wr)
            (fun i _ => k - (intOf i).toNat)
          case atStart => exact ⟨0, Nat.zero_le _, rfl, Hst.out, hnxs⟩
          case round =>
            obtain ⟨j, hj, rfl, hown, hnx⟩ := hrel
            have hcw := hown.cellAt k (by omega)
            have hfz := hown.frozenAt k
            have hat := rowc_at (bests far zs k) (inn far x zs (bests far zs k) j) (n - (k + 1))
            rw [Hl2.out] at hat
            rw [hat] at hcw
            clear hat
            have hbd := inn_bd (far := far) (x := x) (zs := zs) (bs := bests far zs k) (j := j) (fun i hi => (bests_bd i (by omega)).2)
            by_cases hjk : j < k
            · obtain ⟨b', off', y, he, _, Hy, hcy⟩ := (hr.below (hnx.mono hB)).x (k := j) (by rw [Hn.out]; omega)
              injection he with he
              injection he with he1 he2
              subst he1 he2
              obtain ⟨hy1, hy2⟩ := vh_get Hv.out (by rw [Hn.out]; omega) Hy.out
              have hbj := bests_bd (far := far) (zs := zs) j hjk
              have hcj := hown.cellAt j (by omega)
              rw [rowc_lt _ _ _ (by rw [Hl2.out]; exact hjk)] at hcj
              obtain ⟨v, Hv2⟩ : ∃ v, Hid ((bests far zs k).getD j 0 = v) := ⟨_, rfl⟩
              rw [Hv2.out] at hcj hbj
              obtain ⟨t, Ht⟩ : ∃ t, Hid (inn far x zs (bests far zs k) j = t) := ⟨_, rfl⟩
              rw [Ht.out] at hcw hbd
              have Hown := Lib.hid hown
              clear hown
              by_cases hxy : 2 * far < x - y
              · have Hi := Lib.hid (inn_yes Hy.out Hv2.out Ht.out hxy)
                go_wp2
                go_region
                go_wp2
                go_roundw
                case rel => exact ⟨j + 1, by omega, by go_num, by rw [Hi.out]; rw [Ht.out] at Hown; exact most_store Hl2.out Hown.out, (hnx.setCell (Nat.le_refl _) _).drew⟩
                case measure => simp [intOf]; omega
              · have Hi := Lib.hid (inn_no Hy.out Ht.out hxy)
                go_wp2
                go_roundw
                case rel => exact ⟨j + 1, by omega, by go_num, by rw [Hi.out, ← Ht.out]; exact Hown.out, hnx⟩
                case measure => simp [intOf]; omega
            · obtain rfl : j = k := by omega
              obtain ⟨t, Ht⟩ : ∃ t, Hid (inn far x zs (bests far zs j) j = t) := ⟨_, rfl⟩
              rw [Ht.out] at hcw hbd
              have Hown := Lib.hid hown
              clear hown
              have htp : topp far zs (j + 1) = max (topp far zs j) t := by rw [← Ht.out, ← Hx.out]; rfl
              have Htp := Lib.hid htp
              clear htp
              go_wp2
              go_roundw
              case rel => exact ⟨j + 1, by omega, by go_num, by rw [Htp.out, if_max], by rw [rowc_done Hx.out]; exact Hown.out, hnx⟩
              case measure => simp [intOf]; omega
        · obtain rfl : k = n := by omega
          go_wp2
          go_ret
          exact ⟨ret_int (by rw [Hs.out, Hn.out]), hnx⟩
  · have hv' : vh zs = false := by simpa using hv
    clear hv
    have Hs := Lib.hid (mapart_no (far := far) hv')
    go_enter Try.func16, Try.ntmps16
    go_wp2_with fail
    refine (iValid_any A c n zs w B hr Hn.out (by omega)).mono ?_
    rintro e w' ⟨rfl, rfl⟩
    go_wp2
    go_ret
    exact ⟨ret_int Hs.out.symm, Below.refl _ _⟩
end Go.Proofs.Ytoohfipicmdohac
namespace Go.Proofs.Ytoohfipicmdohac
open Go.ChangeShapes Go.WideShapes Go.ChangeAt Go.RowKit
set_option linter.unusedVariables false
set_option maxRecDepth 4000

theorem best_next {far x : Int} {zs : List Int} {j : Nat} (hx : zs.getD j 0 = x) :
    (bests far zs (j + 1)).map (Value.int .i64) = (bests far zs j).map (Value.int .i64) ++ [.int .i64 (inn far x zs (bests far zs j) j)] := by
  simp [bests, ← hx]
theorem below_alloc_drewN {B : Nat} {a w : World} (h : Below B a w) (hB : B ≤ w.heap.size) (q : Nat) (o : Obj) : Below B a ((w.drewN q).alloc o) := (below_drewN h q).alloc hB o

set_option maxHeartbeats 800000 in
theorem sMost_any (A : Option Addr) (c n : Nat) (zs : List Int) (far : Int) (w : World) (B : Nat) (hr : RdI w B A zs) (hB : B ≤ w.heap.size) (hn : zs.length = n) (hb : n ≤ 1048576) :
    Calls Try.prog 17 #[.slice A n c, .int .i64 far] w fun e w' => e = .returned (.int .i64 (mapart zs far)) ∧ Below w.heap.size w w' := by
  obtain ⟨i0, hi0, hz0, hz1, hz2⟩ := info_parts intInfo
  have Hn := Lib.hid hn
  clear hn
  by_cases hv : vh zs = true
  · by_cases hf : far < 0 ∨ 50 < far
    · have Hs := Lib.hid (mapart_no' (zs := zs) (vfar_no hf))
      go_enter Try.func17, Try.ntmps17
      go_wp2_with fail
      refine (sValid_any A c n zs w B hr Hn.out (by omega)).mono ?_
      rintro e w' ⟨rfl, q, rfl⟩
      go_wp2_with (go_at_call 41; refine (inRange_no _ _ _ _ hf).mono ?_; rintro e w' ⟨rfl, rfl⟩)
      go_ret
      exact ⟨ret_int Hs.out.symm, below_drewN (Below.refl _ _) _⟩
    · have h1 : 0 ≤ far := by omega
      have h2 : far ≤ 50 := by omega
      clear hf
      have Hs := Lib.hid (mapart_yes hv (vfar_yes h1 h2))
      have Hl := vh_len hv
      rw [Hn.out] at Hl
      go_enter Try.func17, Try.ntmps17
      go_wp2_with fail
      refine (sValid_any A c n zs w B hr Hn.out (by omega)).mono ?_
      rintro e w' ⟨rfl, q, rfl⟩
      have Hv := Lib.hid hv
      go_wp2_with (first
        | (go_at_call 41; refine (inRange_yes _ _ _ _ h1 h2).mono ?_; rintro e w' ⟨rfl, rfl⟩))
      clear hv
      have hown0 : ((w.drewN q).alloc (.cells #[] 3)).ownsRow w.heap.size 3 1 (.slice (some ⟨w.heap.size, 0, none⟩) 0 0) 0 [] :=
        World.ownsRow_lit (w.drewN q) #[] 0 (Nat.le_refl _) (by decide) rfl
      have hnx0 : Below w.heap.size w ((w.drewN q).alloc (.cells #[] 3)) := (below_drewN (Below.refl _ _) _).alloc (Nat.le_refl _) _
      have Hown0 := Lib.hid hown0
      clear hown0
      go_loopw [5, 6, 7] (fun v m i wr => ∃ k : Nat, k ≤ n ∧ i = .int .i64 k ∧ m = .int .i64 (topp far zs k) ∧ wr.ownsRow w.heap.size 3 1 v k ((bests far zs k).map (Value.int .i64)) ∧ Below w.heap.size w wr)
        (fun _ _ i _ => n - (intOf i).toNat)
      case atStart => exact ⟨0, Nat.zero_le _, rfl, rfl, Hown0.out, hnx0⟩
      case round =>
        clear hnx0 Hown0
        obtain ⟨k, hk, rfl, rfl, hown, hnx⟩ := hrel
        obtain ⟨wo, rfl⟩ : ∃ wo : World, wo = wr := ⟨_, rfl⟩
        have htb := topp_bd (far := far) (zs := zs) k
        by_cases hlt : k < n
        · obtain ⟨b, off, x, rfl, hbw, Hx, hc⟩ := (hr.below (hnx.mono hB)).x (k := k) (by rw [Hn.out]; exact hlt)
          obtain ⟨hx1, hx2⟩ := vh_get Hv.out (by rw [Hn.out]; exact hlt) Hx.out
          have Hl2 := Lib.hid (bests_length far zs k)
          have Hown := Lib.hid hown
          clear hown
          go_wp2
          go_loopw [8, 9] (fun t i wr => ∃ j : Nat, ∃ q : Nat, j ≤ k ∧ i = .int .i64 j ∧ t = .int .i64 (inn far x zs (bests far zs k) j) ∧ wr = wo.drewN q)
            (fun _ i _ => k - (intOf i).toNat)
          case atStart => exact ⟨0, 0, Nat.zero_le _, rfl, rfl, rfl⟩
          case round =>
            obtain ⟨j, q1, hj, rfl, rfl, rfl⟩ := hrel
            have hbd := inn_bd (far := far) (x := x) (zs := zs) (bs := bests far zs k) (j := j) (fun i hi => (bests_bd i (by omega)).2)
            obtain ⟨t, Ht⟩ : ∃ t, Hid (inn far x zs (bests far zs k) j = t) := ⟨_, rfl⟩
            rw [Ht.out] at hbd
            rw [Ht.out]
            by_cases hjk : j < k
            · obtain ⟨b', off', y, he, _, Hy, hcy⟩ := (hr.below (hnx.mono hB)).x (k := j) (by rw [Hn.out]; omega)
              injection he with he
              injection he with he1 he2
              subst he1 he2
              obtain ⟨hy1, hy2⟩ := vh_get Hv.out (by rw [Hn.out]; omega) Hy.out
              have hbj := bests_bd (far := far) (zs := zs) j hjk
              obtain ⟨g, cap, rfl, hg1, hg2⟩ := Hown.out.form (by omega)
              have hcj := Hown.out.cellAt j (by omega)
              rw [List.getElem?_map, List.getElem?_eq_getElem (by rw [Hl2.out]; exact hjk)] at hcj
              obtain ⟨v, Hv2⟩ : ∃ v, Hid ((bests far zs k).getD j 0 = v) := ⟨_, rfl⟩
              have hgv : (bests far zs k)[j]'(by rw [Hl2.out]; exact hjk) = v := by
                rw [← Hv2.out]; simp [List.getD, List.getElem?_eq_getElem (show j < (bests far zs k).length by rw [Hl2.out]; exact hjk)]
              rw [hgv] at hcj
              clear hgv
              rw [Hv2.out] at hbj
              simp only [Option.map_some] at hcj
              by_cases hxy : 2 * far < x - y
              · have Hi := Lib.hid (inn_yes Hy.out Hv2.out Ht.out hxy)
                go_wp2
                go_quiet (fail)
                go_wp2
                go_roundw
                case rel => exact ⟨j + 1, _, by omega, by go_num, by rw [Hi.out, if_max], rfl⟩
                case measure => simp [intOf]; omega
              · have Hi := Lib.hid (inn_no Hy.out Ht.out hxy)
                go_wp2
                go_quiet (fail)
                go_wp2
                go_roundw
                case rel => exact ⟨j + 1, _, by omega, by go_num, by rw [Hi.out], rfl⟩
                case measure => simp [intOf]; omega
            · obtain rfl : j = k := by omega
              have htp : topp far zs (j + 1) = max (topp far zs j) t := by rw [← Ht.out, ← Hx.out]; rfl
              have Htp := Lib.hid htp
              clear htp
              have hsz : w.heap.size ≤ wo.heap.size := hnx.size
              go_wp2_with (at_builtin; refine wpList_append_own _ rfl _ _ 23 rfl w.heap.size 3 i0 (.int .i64 0) 1 8 Try.underlying23 hi0 hz0 hz1 hz2 rfl (by decide) _ _ _ rfl (Hown.out.alloc _) ⟨wo.heap.size, 0, none⟩ 1 1 [.int .i64 t] rfl rfl ?c1 ?c2 ?c3 ?c4 ?c5 ?_)
              case c1 => exact cell_one_new _ _ _
              case c2 => intro u hu; simp at hu; subst hu; rfl
              case c3 => unfold maxLen; omega
              case c4 => omega
              case c5 => simp; omega
              intro v' w1 hown' hgrow _
              go_wp2
              go_roundw
              case rel => exact ⟨j + 1, by omega, by go_num, by rw [Htp.out, if_max], by rw [best_next Hx.out, Ht.out]; exact hown', (below_alloc_drewN hnx hsz q1 _).grown hgrow (by simp; omega) (fun g hg => (Hown.out.lt g hg).1)⟩
              case measure => simp [intOf]; omega
        · obtain rfl : k = n := by omega
          go_wp2
          go_ret
          exact ⟨ret_int (by rw [Hs.out, Hn.out]), hnx⟩
  · have hv' : vh zs = false := by simpa using hv
    clear hv
    have Hs := Lib.hid (mapart_no (far := far) hv')
    go_enter Try.func17, Try.ntmps17
    go_wp2_with fail
    refine (sValid_any A c n zs w B hr Hn.out (by omega)).mono ?_
    rintro e w' ⟨rfl, q, rfl⟩
    go_wp2
    go_ret
    exact ⟨ret_int Hs.out.symm, below_drewN (Below.refl _ _) _⟩

theorem iMost_b (A : Option Addr) (c n : Nat) (zs : List Int) (far : Int) (w : World) (B : Nat) (hr : RdI w B A zs) (hn : zs.length = n) (hb : n ≤ 1048576) (hB : B ≤ w.heap.size) (hcap : n ≤ c) (hc63 : c ≤ 9223372036854775807) :
    Calls Try.prog 16 #[.slice A n c, .int .i64 far] w fun e w' => e = .returned (.int .i64 (mapart zs far)) ∧ Below w.heap.size w w' := iMost_any A c n zs far w B hr hB hn hcap hc63 hb
theorem sMost_b (A : Option Addr) (c n : Nat) (zs : List Int) (far : Int) (w : World) (B : Nat) (hr : RdI w B A zs) (hn : zs.length = n) (hb : n ≤ 1048576) (hB : B ≤ w.heap.size) (hcap : n ≤ c) (hc63 : c ≤ 9223372036854775807) :
    Calls Try.prog 17 #[.slice A n c, .int .i64 far] w fun e w' => e = .returned (.int .i64 (mapart zs far)) ∧ Below w.heap.size w w' := sMost_any A c n zs far w B hr hB hn hb
end Go.Proofs.Ytoohfipicmdohac
namespace Go.Proofs.Ytoohfipicmdohac
open Go.ChangeShapes Go.WideShapes Go.ChangeAt Go.RowKit
set_option linter.unusedVariables false

theorem rdR_own {w : World} {B n : Nat} {v : Value} {ts : List (Int × Int)} (h : w.ownsRow B 34 2 v n ((flat ts).map (Value.int .i64))) (hn : ts.length = n) :
    ∃ A c, v = .slice A n c ∧ n ≤ c ∧ c ≤ 9223372036854775807 ∧ RdR w w.heap.size A ts := by
  have h0 := h
  rcases h.2 with ⟨rfl, rfl⟩ | ⟨g, cap, cur, rfl, _, _, hnc, hmx, _⟩
  · refine ⟨none, 0, rfl, Nat.le_refl _, by omega, fun hp => ?_⟩
    rw [flat_len] at hp; omega
  · exact ⟨_, cap, rfl, hnc, hmx, rdI_of_ownN h0 (by rw [flat_len, hn])⟩
end Go.Proofs.Ytoohfipicmdohac
namespace Go.Proofs.Ytoohfipicmdohac
open Go.ChangeShapes Go.WideShapes Go.ChangeAt Go.RowKit
set_option linter.unusedVariables false
set_option maxRecDepth 4000

theorem mapart_bd (zs : List Int) (far : Int) (hl : zs.length ≤ 10) : -1 ≤ mapart zs far ∧ mapart zs far ≤ 10 := by
  have := topp_bd (far := far) (zs := zs) zs.length
  unfold mapart
  split <;> omega
theorem mapart_is {zs : List Int} {far : Int} (h : 1 ≤ mapart zs far) : vh zs = true ∧ 0 ≤ far ∧ far ≤ 50 ∧ 1 ≤ zs.length ∧ mapart zs far = topp far zs zs.length := by
  by_cases hv : vh zs = true ∧ vfar far = true
  · have e := mapart_yes hv.1 hv.2
    have hb := topp_bd (far := far) (zs := zs) zs.length
    have hf := hv.2
    simp only [vfar, Bool.and_eq_true, decide_eq_true_eq] at hf
    refine ⟨hv.1, hf.1, hf.2, ?_, e⟩
    rw [e] at h
    omega
  · unfold mapart at h
    rw [if_neg hv] at h
    omega
theorem line_apv {zs : List Int} {ts : List (Int × Int)} {last far : Int} (h : LineT zs zs.length ts last) (h7 : diffc zs zs.length ≤ 7) (ho : 1 ≤ mapart zs far) : mapart zs far ≤ apv ts far := by
  obtain ⟨hv, h0, h50, hl, e⟩ := mapart_is ho
  rw [e]
  unfold apv
  rw [if_pos ⟨lineT_vt h h7, h0, h50⟩]
  exact line_pk h h7 h0
theorem bc_most7 : ∀ f s, bc f s ≤ f
  | 0, _ => Nat.le_refl _
  | f + 1, s => by have := bc_most7 f (s / 2); simp only [bc]; omega
theorem apv_bd {ts : List (Int × Int)} {far : Int} (hl : ts.length ≤ 7) : -1 ≤ apv ts far ∧ apv ts far ≤ 7 := by
  unfold apv
  split
  · have : pkB (dn ts ts.length) far ts.length (2 ^ ts.length) ≤ 7 := pkB_le _ fun s hs _ => by
      exact bc_most7 7 s
    omega
  · omega

/-- The law's loop. -/
def LineRel (B : Nat) (w : World) (zs : List Int) (v l i : Value) (wr : World) : Prop :=
  ∃ k : Nat, ∃ ts : List (Int × Int), ∃ last : Int, 1 ≤ k ∧ k ≤ zs.length ∧ i = .int .i64 k ∧ l = .int .i64 last ∧ Hid (LineT zs k ts last) ∧ wr.ownsRow B 34 2 v ts.length ((flat ts).map (Value.int .i64)) ∧ Below B w wr

set_option maxHeartbeats 1600000 in
theorem lawLinesAreTrees_walk (A : Option Addr) (c : Nat) (bs : List Int) (w : World) (hr : RdB w w.heap.size A bs) (hcap : bs.length ≤ c) (hm : c ≤ maxLen) :
    Calls Try.prog 5 #[.slice A bs.length c] w fun e w' => e = .returned (.bool true) ∧ Below w.heap.size w w' := by
  unfold maxLen at hm
  obtain ⟨i0, hi0, hz0, hz1, hz2⟩ := info_parts roadInfo
  by_cases hb : 1048576 < bs.length
  · go_enter Try.func5, Try.ntmps5
    go_wp2
    go_ret
    exact ⟨rfl, Below.refl _ _⟩
  · have H := Lib.hid (drawMostApart_any A c bs.length bs w hr rfl hcap hm)
    go_enter Try.func5, Try.ntmps5
    go_wp2_with fail
    refine H.out.mono ?_
    rintro e w1 ⟨A', c', xs, far, rfl, hk1, hk2, hl, hc1, hc2, hrd, hnx⟩
    clear H
    go_wp2_with fail
    refine (iMost_any A' c' xs.length xs far w1 _ hrd (Nat.le_refl _) rfl hc1 hc2 (by omega)).mono ?_
    rintro e w2 ⟨rfl, hq2⟩
    obtain ⟨o, Ho⟩ : ∃ o, Hid (mapart xs far = o) := ⟨_, rfl⟩
    have hob := mapart_bd xs far hl
    rw [Ho.out] at hob
    rw [Ho.out]
    have hnx2 := hnx.trans (hq2.mono hnx.size)
    have hrd2 := (hrd.below hq2).more hq2.size
    clear hq2 hnx hrd
    go_wp2_with fail
    refine (sMost_any A' c' xs.length xs far w2 _ hrd2 (Nat.le_refl _) rfl (by omega)).mono ?_
    rintro e w3 ⟨rfl, hq3⟩
    rw [Ho.out]
    have hnx3 := hnx2.trans (hq3.mono hnx2.size)
    have hrd3 := (hrd2.below hq3).more hq3.size
    clear hq3 hnx2 hrd2
    go_wp2_with fail
    refine (iMost_any A' c' xs.length xs far w3 _ hrd3 (Nat.le_refl _) rfl hc1 hc2 (by omega)).mono ?_
    rintro e w4 ⟨rfl, hq4⟩
    rw [Ho.out]
    have hnx4 := hnx3.trans (hq4.mono hnx3.size)
    have hrd4 := (hrd3.below hq4).more hq4.size
    clear hq4 hnx3 hrd3
    by_cases ho : o < 1
    · go_wp2
      go_ret
      exact ⟨rfl, hnx4⟩
    · obtain ⟨hv, hf0, hf1, hl1, -⟩ := mapart_is (zs := xs) (far := far) (by rw [Ho.out]; omega)
      have Hok := Lib.hid (vh_ok hv)
      have Hvh := Lib.hid hv
      clear hv
      obtain ⟨D, HD⟩ : ∃ D, Hid (diffc xs xs.length = D) := ⟨_, rfl⟩
      have hDb := diffc_bd xs xs.length
      rw [HD.out] at hDb
      go_wp2_with fail
      refine (different_any A' c' xs.length xs w4 _ hrd4 rfl hc1 hc2 (by omega)).mono ?_
      rintro e w' ⟨rfl, q, rfl⟩
      rw [HD.out]
      by_cases h7 : 7 < D
      · go_wp2
        go_ret
        exact ⟨rfl, below_drewN hnx4 _⟩
      · obtain ⟨b, off, x0, rfl, hbw, Hx0, hx0⟩ := hrd4.x (k := 0) (by omega)
        rw [Nat.add_zero] at hx0
        have hown0 : ((w4.drewN q).alloc (.cells #[.int .i64 (-1), .int .i64 0] 34)).ownsRow w4.heap.size 34 2 (.slice (some ⟨w4.heap.size, 0, none⟩) 1 1) 1 [.int .i64 (-1), .int .i64 0] :=
          World.ownsRow_lit (w4.drewN q) #[.int .i64 (-1), .int .i64 0] 1 (Nat.le_refl _) (by decide) rfl
        have hnx0 : Below w4.heap.size w4 ((w4.drewN q).alloc (.cells #[.int .i64 (-1), .int .i64 0] 34)) := (below_drewN (Below.refl _ _) _).alloc (Nat.le_refl _) _
        have hx0' : ((w4.drewN q).alloc (.cells #[.int .i64 (-1), .int .i64 0] 34)).cell? ⟨b, off, none⟩ = some (.int .i64 x0) := by
          rw [hnx0.cell hbw]; exact hx0
        have Hown0 := Lib.hid hown0
        clear hown0
        go_wp2
        go_loopw [6, 7, 8] (fun v l i wr => LineRel w4.heap.size w4 xs v l i wr) (fun _ _ i _ => xs.length - (intOf i).toNat)
        case atStart => exact ⟨1, [(-1, 0)], x0, Nat.le_refl _, by omega, rfl, rfl, by rw [← Hx0.out]; exact lineT_start, Hown0.out, hnx0⟩
        case round =>
          clear hnx0 Hown0 hx0 hx0'
          obtain ⟨k, ts, last, hk1', hk, rfl, rfl, HL, hown, hbl⟩ := hrel
          have hlast := lineT_last HL.out
          obtain ⟨hla1, hla2⟩ := vh_get Hvh.out (k := k - 1) (by omega) hlast.symm
          obtain ⟨hln1, hln2⟩ := lineT_len HL.out
          have hln3 := diffc_bd xs k
          have hln4 : ts.length ≤ 10 := by omega
          clear hln2 hln3
          have Hown := Lib.hid hown
          obtain ⟨At, ct, rfl, hct1, hct2, hrt⟩ := rdR_own hown rfl
          have Hrt := Lib.hid hrt
          clear hown hrt
          have hsz := hbl.size
          by_cases hlt : k < xs.length
          · obtain ⟨b', off', x, he, _, Hx, hcx⟩ := (hrd4.below hbl).x (k := k) hlt
            injection he with he
            injection he with he1 he2
            subst he1 he2
            obtain ⟨hx1, hx2⟩ := vh_get Hvh.out hlt Hx.out
            have hge : last ≤ x := by
              obtain ⟨j, rfl⟩ : ∃ j, k = j + 1 := ⟨k - 1, by omega⟩
              have := ok_step Hok.out hlt
              rw [hlast, ← Hx.out]; exact this
            clear hlast
            by_cases h9 : 9 < x - last
            · go_wp2
              go_ret
              exact ⟨rfl, hnx4.trans (hbl.mono hnx4.size)⟩
            · by_cases hup : last < x
              · have HL' := Lib.hid (lineT_next HL.out hk1' hlt Hx.out hup (by omega))
                clear HL Hrt
                have hl0 : 0 ≤ ((ts.length : Nat) : Int) - 1 := by omega
                have Hn7 : Hid (ts.length + 1 ≤ 12) := by show ts.length + 1 ≤ 12; omega
                go_wp2_with (at_builtin; refine wpList_append_own _ rfl _ _ 35 rfl w4.heap.size 34 i0 _ 2 16 Try.underlying35 hi0 hz0 hz1 hz2 rfl (by decide) _ _ _ rfl (Hown.out.alloc _) ⟨wr.heap.size, 0, none⟩ 1 1 [.int .i64 ((ts.length : Int) - 1), .int .i64 (x - last)] rfl rfl ?c1 ?c2 ?c3 ?c4 ?c5 ?_)
                case c2 => exact ⟨rfl, rfl⟩
                case c3 => have := Hn7.out; unfold maxLen; omega
                case c4 => have := Hn7.out; omega
                case c5 => omega
                intro v' w5 hown' hgrow _
                have hbl5 : Below w4.heap.size w4 w5 := (hbl.alloc hsz _).grown hgrow (by rw [size_alloc1]; omega) (fun g hg => (Hown.out.lt g hg).1)
                have hcx5 : w5.cell? ⟨b, off + k, none⟩ = some (.int .i64 x) := by
                  rw [hbl5.cell hbw, ← hbl.cell hbw]; exact hcx
                have Hown' := Lib.hid hown'
                clear hown' hgrow Hown
                go_wp2
                go_roundw
                case rel => exact ⟨k + 1, ts ++ [((ts.length : Int) - 1, x - last)], x, by omega, by omega, by go_num, rfl, HL', by simpa [flat_append, flat] using Hown'.out, hbl5⟩
                case measure => simp [intOf]; omega
              · have HL' := Lib.hid (lineT_same HL.out hk1' hlt Hx.out hge hup)
                clear HL Hrt
                go_wp2
                go_roundw
                case rel => exact ⟨k + 1, ts, last, by omega, by omega, by go_num, rfl, HL', Hown.out, hbl⟩
                case measure => simp [intOf]; omega
          · obtain rfl : k = xs.length := by omega
            have hap := line_apv (far := far) HL.out (by rw [HD.out]; omega) (by rw [Ho.out]; omega)
            have hab := apv_bd (ts := ts) (far := far) (by have := (lineT_len HL.out).2; rw [HD.out] at this; omega)
            rw [Ho.out] at hap
            obtain ⟨p, Hp⟩ : ∃ p, Hid (apv ts far = p) := ⟨_, rfl⟩
            rw [Hp.out] at hap hab
            clear Hown
            go_wp2_with fail
            refine (iTreeApart_any At ct ts.length ts far wr Hrt.out rfl hct1 (by omega)).mono ?_
            rintro e w6 ⟨rfl, hbl6⟩
            rw [Hp.out]
            have h06 := hnx4.trans ((hbl.trans (hbl6.mono hsz)).mono hnx4.size)
            go_wp2
            go_ret
            exact ⟨rfl, h06⟩
end Go.Proofs.Ytoohfipicmdohac
