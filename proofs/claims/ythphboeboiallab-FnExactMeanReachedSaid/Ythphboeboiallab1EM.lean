/-
  The exact law of MeanReached follows from the functions' contracts.
  Conditions: none beyond the contracts'.
-/
import Derived.Test.Ythphboeboiallab1EX
import Derived.Test.Ythphboeboiallab1CB
import Derived.Deep.CutRange
import Derived.Deep.RegionHeld3
namespace Go.Proofs.Ythphboeboiallab
open Go.ChangeShapes Go.WideShapes Go.ChangeAt Go.RowKit
set_option linter.unusedVariables false
set_option maxRecDepth 4000

set_option maxHeartbeats 3200000 in
theorem exMeanReached_walk (A : Option Addr) (c : Nat) (zs : List Int) (A' : Option Addr) (c' : Nat) (ss : List Int) (far u d : Int) (w : World) (hr : RdI w w.heap.size A zs) (hm : zs.length ≤ maxLen) (hr' : RdI w w.heap.size A' ss) (hm' : ss.length ≤ maxLen) (hwf : (Lit.int .i64 far).wf = true) (hwu : (Lit.int .i64 u).wf = true) (hwd : (Lit.int .i64 d).wf = true) :
    Calls Try.prog 10 #[.slice A zs.length c, .slice A' ss.length c', .int .i64 far, .agg #[.int .i64 u, .int .i64 d]] w fun e w' => e = .returned (.bool true) ∧ Below w.heap.size w w' := by
  unfold maxLen at hm hm'
  clear hwf hwu hwd
  obtain ⟨n, Hn⟩ : ∃ n, Hid (zs.length = n) := ⟨_, rfl⟩
  obtain ⟨k, Hk⟩ : ∃ k, Hid (ss.length = k) := ⟨_, rfl⟩
  rw [Hn.out] at hm ⊢
  rw [Hk.out] at hm' ⊢
  by_cases hb : 1048576 < n
  · clear hr hr'
    go_enter Try.func10, Try.ntmps10
    go_wp2
    go_ret
    exact ⟨rfl, (Below.refl _ _).alloc (Nat.le_refl _) _⟩
  by_cases hb' : 1048576 < k
  · clear hr hr'
    go_enter Try.func10, Try.ntmps10
    go_wp2
    go_ret
    exact ⟨rfl, (Below.refl _ _).alloc (Nat.le_refl _) _⟩
  · have hbb : Below w.heap.size w (w.alloc (.cells #[.int .i64 u, .int .i64 d] 43)) := (Below.refl _ _).alloc (Nat.le_refl _) _
    have pbx : (w.alloc (.cells #[.int .i64 u, .int .i64 d] 43)).heap[w.heap.size]? = some (.cells #[.int .i64 u, .int .i64 d] 43 (0, 0)) := heap_alloc_new _ _
    obtain ⟨wb, Hwb⟩ : ∃ wb, Hid (w.alloc (.cells #[.int .i64 u, .int .i64 d] 43) = wb) := ⟨_, rfl⟩
    rw [Hwb.out] at hbb pbx
    obtain ⟨pb, Hpb⟩ : ∃ pb, Hid (w.heap.size = pb) := ⟨_, rfl⟩
    rw [Hpb.out] at pbx
    have K : Hid (∀ W, Below wb.heap.size wb W → W.cell? ⟨pb, 0, none⟩ = some (.int .i64 u) ∧ W.cell? ⟨pb, 1, none⟩ = some (.int .i64 d)) := fun W hW => frac_cells ((hW.block _ (row_lt pbx)).trans pbx)
    have HRb := Lib.hid ((hr.below hbb).more hbb.size)
    have HRb' := Lib.hid ((hr'.below hbb).more hbb.size)
    have HBb := Lib.hid hbb
    obtain ⟨x, Hx⟩ : ∃ x, Hid ((mrQ zs ss far u d).1 = x) := ⟨_, rfl⟩
    obtain ⟨y, Hy⟩ : ∃ y, Hid ((mrQ zs ss far u d).2 = y) := ⟨_, rfl⟩
    obtain ⟨ok, Hok⟩ : ∃ ok, Hid (okM zs ss far u d = ok) := ⟨_, rfl⟩
    have HI2 : Hid (∀ (A A' : Option Addr) (c c' n m' : Nat) (w : World), PIn w A c n zs → PIn w A' c' m' ss → PartQ w A' m' c' ss → Calls Try.prog 18 #[.slice A n c, .slice A' m' c', .int .i64 far, .agg #[.int .i64 u, .int .i64 d]] w (FrM x y ok w)) := fun A A' c c' n m' w h h' hp => by
      have := iMeanReached_ok A A' c c' n m' zs ss far u d w h h' hp
      rw [Hx.out, Hy.out, Hok.out] at this
      exact this
    have HS2 : Hid (∀ (A A' : Option Addr) (c c' n m' : Nat) (w : World), PIn w A c n zs → PIn w A' c' m' ss → PartQ w A' m' c' ss → Calls Try.prog 19 #[.slice A n c, .slice A' m' c', .int .i64 far, .agg #[.int .i64 u, .int .i64 d]] w (FrM x y ok w)) := fun A A' c c' n m' w h h' hp => by
      have := sMeanReached_ok A A' c c' n m' zs ss far u d w h h' hp
      rw [Hx.out, Hy.out, Hok.out] at this
      exact this
    have hpbw : pb < wb.heap.size := row_lt pbx
    clear hr hr' hbb pbx
    have T1 : Hid (∀ W, Below wb.heap.size wb W → Calls Try.prog 28 #[.slice A n c] W (CopyN zs n W)) := fun W hW => toIntN_any A c n zs W ((HRb.out.below hW).more hW.size) Hn.out (by omega)
    have T2 : Hid (∀ W, Below wb.heap.size wb W → Calls Try.prog 28 #[.slice A' k c'] W (CopyN ss k W)) := fun W hW => toIntN_any A' c' k ss W ((HRb'.out.below hW).more hW.size) Hk.out (by omega)
    clear HRb HRb'
    go_enter Try.func10, Try.ntmps10
    have hn1 : n ≤ 1048576 := by omega
    have hk1 : k ≤ 1048576 := by omega
    have HK := Lib.hid (K.out wb (Below.refl _ _))
    have KS : Hid (∀ (W : World) (N : Nat) (u0 u1 : Value), N ≠ pb → (W.cell? ⟨pb, 0, none⟩ = some (.int .i64 u) ∧ W.cell? ⟨pb, 1, none⟩ = some (.int .i64 d)) →
        ((W.setCell ⟨N, 0, none⟩ u0).setCell ⟨N, 1, none⟩ u1).cell? ⟨pb, 0, none⟩ = some (.int .i64 u) ∧ ((W.setCell ⟨N, 0, none⟩ u0).setCell ⟨N, 1, none⟩ u1).cell? ⟨pb, 1, none⟩ = some (.int .i64 d)) := fun W N u0 u1 hne hh => by
      have hq : ∀ j, ((W.setCell ⟨N, 0, none⟩ u0).setCell ⟨N, 1, none⟩ u1).cell? ⟨pb, j, none⟩ = W.cell? ⟨pb, j, none⟩ := fun j => by
        rw [World.cell?_setCell_other _ ⟨N, 1, none⟩ _ _ (by intro e; injection e with e1 e2; exact hne e1), World.cell?_setCell_other _ ⟨N, 0, none⟩ _ _ (by intro e; injection e with e1 e2; exact hne e1)]
      rw [hq, hq]
      exact hh
    obtain ⟨k0, k1⟩ := HK.out
    go_upto_region 5 with fail
    rw [Hwb.out, Hpb.out]
    go_cut [9, 10] from 21 to 31 (fun pv tv wx => ∃ N : Nat, pv = .pointer (some ⟨N, 0, none⟩) ∧ tv = .bool ok ∧ Hid (Below wb.heap.size wb wx) ∧ Hid (wx.heap[N]? = some (.cells #[.int .i64 (x : Int), .int .i64 (y : Int)] 30 (0, 0))))
    case first =>
      go_region_held3 (fun W' => W'.cell? ⟨pb, 0, none⟩ = some (.int .i64 u) ∧ W'.cell? ⟨pb, 1, none⟩ = some (.int .i64 d))
        (first
        | go_keep
        | exact HK.out
        | exact K.out _ (by first | exact Below.refl _ _ | exact belowA1 (Below.refl _ _) _ | exact Below.drew (Below.refl _ _) | exact belowA1 (Below.drew (Below.refl _ _)) _ | exact Below.drew (belowA1 (Below.refl _ _) _))
        | exact K.out _ (by first | exact hxa | exact belowA1 (hxa) _ | exact Below.drew (hxa) | exact belowA1 (Below.drew (hxa)) _ | exact Below.drew (belowA1 (hxa) _))
        | exact K.out _ (by first | exact hxb | exact belowA1 (hxb) _ | exact Below.drew (hxb) | exact belowA1 (Below.drew (hxb)) _ | exact Below.drew (belowA1 (hxb) _))
        | exact K.out _ (by first | exact hxc | exact belowA1 (hxc) _ | exact Below.drew (hxc) | exact belowA1 (Below.drew (hxc)) _ | exact Below.drew (belowA1 (hxc) _))
        | exact K.out _ (by first | exact hxd | exact belowA1 (hxd) _ | exact Below.drew (hxd) | exact belowA1 (Below.drew (hxd)) _ | exact Below.drew (belowA1 (hxd) _))
        | exact KS.out _ _ _ _ (by first | exact Nat.ne_of_gt hpbw | (have := hxa.size; omega) | (have := hxb.size; omega) | (have := hxc.size; omega) | (have := hxd.size; omega)) (K.out _ hxd)
        | fail)
      (first
        | (go_at_call 19
           have z4 : ∀ W, Below vc.heap.size vc W → Calls Try.prog 19 #[.slice (some ⟨ba, 0, none⟩) n n, .slice (some ⟨bb, 0, none⟩) k k, .int .i64 far, .agg #[.int .i64 u, .int .i64 d]] W (FrM x y ok W) := fun W hW => HS2.out _ _ _ _ _ _ _ (own_pin (ownN_below hrb hW) Hn.out hn1) (own_pin (ownN_below hrc hW) Hk.out hk1) (own_part (ownN_below hrc hW) Hk.out)
           refine (z4 _ (by first | exact Below.refl _ _ | exact belowA1 (Below.refl _ _) _ | exact Below.drew (Below.refl _ _) | exact belowA1 (Below.drew (Below.refl _ _)) _ | exact Below.drew (belowA1 (Below.refl _ _) _))).mono ?_
           rintro e vd ⟨rfl, hqd⟩
           have hxd : Below wb.heap.size wb vd := chain_up (by first | exact hxc | exact belowA1 (hxc) _ | exact Below.drew (hxc) | exact belowA1 (Below.drew (hxc)) _ | exact Below.drew (belowA1 (hxc) _)) hqd
           clear z4
           first | (have nd := newcell hqd) | (have nd := newcellD hqd) | (have nd := keepcell nc hqd) | skip
           try (obtain ⟨q0, q1⟩ := frac_cells nd; have g0 := frozen_of_row _ _ 0 _ _ nd; have g1 := frozen_of_row _ _ 1 _ _ nd))
        | (go_at_call 32
           refine (toFracQ_any u d _).mono ?_
           rintro e vc ⟨rfl, hqc⟩
           have hxc : Below wb.heap.size wb vc := chain_up (by first | exact hxb | exact belowA1 (hxb) _ | exact Below.drew (hxb) | exact belowA1 (Below.drew (hxb)) _ | exact Below.drew (belowA1 (hxb) _)) hqc
           have hsc : Below vb.heap.size vb vc := chain_up (by first | exact Below.refl _ _ | exact belowA1 (Below.refl _ _) _ | exact Below.drew (Below.refl _ _) | exact belowA1 (Below.drew (Below.refl _ _)) _ | exact Below.drew (belowA1 (Below.refl _ _) _)) hqc
           have hrb := ownN_below (ownN_below hoa.out hsb) hsc
           have hrc := ownN_below hob.out hsc
           first | (have nc := newcell hqc) | (have nc := newcellD hqc) | (have nc := keepcell nb hqc) | skip)
        | (go_at_call 28
           with_reducible refine (T1.out _ (by first | exact Below.refl _ _ | exact belowA1 (Below.refl _ _) _ | exact Below.drew (Below.refl _ _) | exact belowA1 (Below.drew (Below.refl _ _)) _ | exact Below.drew (belowA1 (Below.refl _ _) _))).mono ?_
           rintro e va ⟨ba, rfl, hba, hoa, hqa⟩
           have hxa : Below wb.heap.size wb va := chain_up (by first | exact Below.refl _ _ | exact belowA1 (Below.refl _ _) _ | exact Below.drew (Below.refl _ _) | exact belowA1 (Below.drew (Below.refl _ _)) _ | exact Below.drew (belowA1 (Below.refl _ _) _)) hqa.out
           first | (have na := newcell hqa.out) | (have na := newcellD hqa.out) | skip)
        | (go_at_call 28
           with_reducible refine (T2.out _ (by first | exact hxa | exact belowA1 (hxa) _ | exact Below.drew (hxa) | exact belowA1 (Below.drew (hxa)) _ | exact Below.drew (belowA1 (hxa) _))).mono ?_
           rintro e vb ⟨bb, rfl, hbb', hob, hqb⟩
           have hxb : Below wb.heap.size wb vb := chain_up (by first | exact hxa | exact belowA1 (hxa) _ | exact Below.drew (hxa) | exact belowA1 (Below.drew (hxa)) _ | exact Below.drew (belowA1 (hxa) _)) hqb.out
           have hsb : Below va.heap.size va vb := chain_up (by first | exact Below.refl _ _ | exact belowA1 (Below.refl _ _) _ | exact Below.drew (Below.refl _ _) | exact belowA1 (Below.drew (Below.refl _ _)) _ | exact Below.drew (belowA1 (Below.refl _ _) _)) hqb.out
           first | (have nb := newcell hqb.out) | (have nb := newcellD hqb.out) | (have nb := keepcell na hqb.out) | skip))
      all_goals
        go_wp2_with fail
        go_meet
        refine ⟨_, rfl, rfl, ?_, ?_⟩
        · first | exact belowA1 hxd _ | exact (hxd.setCell (by first | exact hxa.size | exact hxb.size | exact hxc.size | exact Nat.le_refl _) _).setCell (by first | exact hxa.size | exact hxb.size | exact hxc.size | exact Nat.le_refl _) _
        · first | exact heap_alloc_new _ _ | exact two_set nd
    case rest =>
      obtain ⟨N, rfl, rfl, B_wc, C_wc⟩ := hcut
      clear k0 k1 HK
      go_wp2_with fail
      refine (T1.out wc B_wc.out).mono ?_
      rintro e v1 ⟨bv1, rfl, hbv1, hov1, hqv1⟩
      have GB_X : Hid (wb.heap.size ≤ bv1) := by have h1 := hbv1.out; have h2 := (B_wc.out).size; show wb.heap.size ≤ bv1; omega
      have C_v1 := Lib.hid (keepcell C_wc.out hqv1.out)
      clear C_wc
      have B_v1 := Lib.hid (B_wc.out.trans (hqv1.out.mono B_wc.out.size))
      clear B_wc hqv1
      clear hbv1
      go_wp2_with fail
      refine (T2.out v1 B_v1.out).mono ?_
      rintro e v2 ⟨bv2, rfl, hbv2, hov2, hqv2⟩
      have NE_X_Y : Hid (∀ g, (Value.slice (some ⟨bv1, 0, none⟩) n n).ownBlock = some g → g ≠ bv2) := fun g e => by have h1 := (own_heap hov1.out e).2.2; have h2 := hbv2.out; omega
      have GB_Y : Hid (wb.heap.size ≤ bv2) := by have h1 := hbv2.out; have h2 := (B_v1.out).size; show wb.heap.size ≤ bv2; omega
      have NE_Y_X : Hid (∀ g, (Value.slice (some ⟨bv2, 0, none⟩) k k).ownBlock = some g → g ≠ bv1) := fun g e => by have h1 := (own_heap hov2.out e).2.1; have h2 := (own_heap hov1.out (g := bv1) rfl).2.2; omega
      have C_v2 := Lib.hid (keepcell C_v1.out hqv2.out)
      clear C_v1
      have B_v2 := Lib.hid (B_v1.out.trans (hqv2.out.mono B_v1.out.size))
      have X_v2 := Lib.hid (ownN_below hov1.out hqv2.out)
      clear B_v1 hov1 hqv2
      clear hbv2
      obtain ⟨k0, k1⟩ := K.out v2 B_v2.out
      go_wp2_with fail
      refine (toFracQ_any u d v2).mono ?_
      rintro e v3 ⟨rfl, hqv30⟩
      have hqv3 := Lib.hid hqv30
      clear hqv30 k0 k1
      have C_v3 := Lib.hid (keepcell C_v2.out hqv3.out)
      clear C_v2
      have B_v3 := Lib.hid (B_v2.out.trans (hqv3.out.mono B_v2.out.size))
      have X_v3 := Lib.hid (ownN_below X_v2.out hqv3.out)
      have Y_v3 := Lib.hid (ownN_below hov2.out hqv3.out)
      clear B_v2 X_v2 hov2 hqv3
      go_wp2_with fail
      refine (HI2.out _ _ _ _ _ _ v3 (own_pin X_v3.out Hn.out hn1) (own_pin Y_v3.out Hk.out hk1) (own_part Y_v3.out Hk.out)).mono ?_
      rintro e v4 ⟨rfl, hqv40⟩
      have hqv4 := Lib.hid hqv40
      clear hqv40
      have C_v4 := Lib.hid (keepcell C_v3.out hqv4.out)
      clear C_v3
      have B_v4 := Lib.hid (B_v3.out.trans (hqv4.out.mono B_v3.out.size))
      have X_v4 := Lib.hid (ownN_below X_v3.out hqv4.out)
      have Y_v4 := Lib.hid (ownN_below Y_v3.out hqv4.out)
      clear B_v3 X_v3 Y_v3 hqv4
      have hal : Below v4.heap.size v4 (v4.alloc (.cells #[.int .i64 (x : Int), .int .i64 (y : Int)] 30)) := (Below.refl _ _).alloc (Nat.le_refl _) _
      obtain ⟨e0, e1⟩ := frac_cells (keepcell C_v4.out hal)
      have hoo : (ok != ok) = false := by simp
      have hD : Hid ((v4.alloc (.cells #[.int .i64 (x : Int), .int .i64 (y : Int)] 30)).heap[v4.heap.size]? = some (.cells #[.int .i64 (x : Int), .int .i64 (y : Int)] 30 (0, 0))) := heap_alloc_new _ _
      obtain ⟨v5, Hv5⟩ : ∃ v5, Hid (v4.alloc (.cells #[.int .i64 (x : Int), .int .i64 (y : Int)] 30) = v5) := ⟨_, rfl⟩
      rw [Hv5.out] at hal
      have hqv5 := Lib.hid hal
      clear hal hD
      go_wp2_with fail
      rw [Hv5.out]
      clear e0 e1
      have C_v5 := Lib.hid (keepcell C_v4.out hqv5.out)
      clear C_v4
      have B_v5 := Lib.hid (B_v4.out.trans (hqv5.out.mono B_v4.out.size))
      have X_v5 := Lib.hid (ownN_below X_v4.out hqv5.out)
      have Y_v5 := Lib.hid (ownN_below Y_v4.out hqv5.out)
      clear B_v4 X_v4 Y_v4 hqv5
      refine (eqFracQ_any (x : Int) (y : Int) v5).mono ?_
      rintro e v6 ⟨rfl, hqv60⟩
      have hqv6 := Lib.hid hqv60
      clear hqv60
      have C_v6 := Lib.hid (keepcell C_v5.out hqv6.out)
      clear C_v5
      have B_v6 := Lib.hid (B_v5.out.trans (hqv6.out.mono B_v5.out.size))
      have X_v6 := Lib.hid (ownN_below X_v5.out hqv6.out)
      have Y_v6 := Lib.hid (ownN_below Y_v5.out hqv6.out)
      clear B_v5 X_v5 Y_v5 hqv6
      go_wp2_with fail
      refine (T1.out v6 B_v6.out).mono ?_
      rintro e v7 ⟨bv7, rfl, hbv7, hov7, hqv7⟩
      have NE_X_Q : Hid (∀ g, (Value.slice (some ⟨bv1, 0, none⟩) n n).ownBlock = some g → g ≠ bv7) := fun g e => by have h1 := (own_heap X_v6.out e).2.2; have h2 := hbv7.out; omega
      have NE_Y_Q : Hid (∀ g, (Value.slice (some ⟨bv2, 0, none⟩) k k).ownBlock = some g → g ≠ bv7) := fun g e => by have h1 := (own_heap Y_v6.out e).2.2; have h2 := hbv7.out; omega
      have GB_Q : Hid (wb.heap.size ≤ bv7) := by have h1 := hbv7.out; have h2 := (B_v6.out).size; show wb.heap.size ≤ bv7; omega
      have NE_Q_X : Hid (∀ g, (Value.slice (some ⟨bv7, 0, none⟩) n n).ownBlock = some g → g ≠ bv1) := fun g e => by have h1 := (own_heap hov7.out e).2.1; have h2 := (own_heap X_v6.out (g := bv1) rfl).2.2; omega
      have NE_Q_Y : Hid (∀ g, (Value.slice (some ⟨bv7, 0, none⟩) n n).ownBlock = some g → g ≠ bv2) := fun g e => by have h1 := (own_heap hov7.out e).2.1; have h2 := (own_heap Y_v6.out (g := bv2) rfl).2.2; omega
      have C_v7 := Lib.hid (keepcell C_v6.out hqv7.out)
      clear C_v6
      have B_v7 := Lib.hid (B_v6.out.trans (hqv7.out.mono B_v6.out.size))
      have X_v7 := Lib.hid (ownN_below X_v6.out hqv7.out)
      have Y_v7 := Lib.hid (ownN_below Y_v6.out hqv7.out)
      clear B_v6 X_v6 Y_v6 hqv7
      clear hbv7
      go_wp2_with fail
      refine (calls_drawn (eqInt_same _ _ _ _ _ _ zs v7 _ _ (own_rd X_v7.out Hn.out) Hn.out (own_rd hov7.out Hn.out) Hn.out (by omega))).mono ?_
      rintro e v8 ⟨rfl, hqv80⟩
      have hqv8 := Lib.hid hqv80
      clear hqv80
      have C_v8 := Lib.hid (keepcell C_v7.out hqv8.out)
      clear C_v7
      have B_v8 := Lib.hid (B_v7.out.trans (hqv8.out.mono B_v7.out.size))
      have X_v8 := Lib.hid (ownN_below X_v7.out hqv8.out)
      have Y_v8 := Lib.hid (ownN_below Y_v7.out hqv8.out)
      have Q_v8 := Lib.hid (ownN_below hov7.out hqv8.out)
      clear B_v7 X_v7 Y_v7 hov7 hqv8
      clear Q_v8
      go_wp2_with fail
      refine (T2.out v8 B_v8.out).mono ?_
      rintro e v9 ⟨bv9, rfl, hbv9, hov9, hqv9⟩
      have NE_X_Q2 : Hid (∀ g, (Value.slice (some ⟨bv1, 0, none⟩) n n).ownBlock = some g → g ≠ bv9) := fun g e => by have h1 := (own_heap X_v8.out e).2.2; have h2 := hbv9.out; omega
      have NE_Y_Q2 : Hid (∀ g, (Value.slice (some ⟨bv2, 0, none⟩) k k).ownBlock = some g → g ≠ bv9) := fun g e => by have h1 := (own_heap Y_v8.out e).2.2; have h2 := hbv9.out; omega
      have GB_Q2 : Hid (wb.heap.size ≤ bv9) := by have h1 := hbv9.out; have h2 := (B_v8.out).size; show wb.heap.size ≤ bv9; omega
      have NE_Q2_X : Hid (∀ g, (Value.slice (some ⟨bv9, 0, none⟩) k k).ownBlock = some g → g ≠ bv1) := fun g e => by have h1 := (own_heap hov9.out e).2.1; have h2 := (own_heap X_v8.out (g := bv1) rfl).2.2; omega
      have NE_Q2_Y : Hid (∀ g, (Value.slice (some ⟨bv9, 0, none⟩) k k).ownBlock = some g → g ≠ bv2) := fun g e => by have h1 := (own_heap hov9.out e).2.1; have h2 := (own_heap Y_v8.out (g := bv2) rfl).2.2; omega
      have C_v9 := Lib.hid (keepcell C_v8.out hqv9.out)
      clear C_v8
      have B_v9 := Lib.hid (B_v8.out.trans (hqv9.out.mono B_v8.out.size))
      have X_v9 := Lib.hid (ownN_below X_v8.out hqv9.out)
      have Y_v9 := Lib.hid (ownN_below Y_v8.out hqv9.out)
      clear B_v8 X_v8 Y_v8 hqv9
      clear hbv9
      go_wp2_with fail
      refine (calls_drawn (eqInt_same _ _ _ _ _ _ ss v9 _ _ (own_rd Y_v9.out Hk.out) Hk.out (own_rd hov9.out Hk.out) Hk.out (by omega))).mono ?_
      rintro e v10 ⟨rfl, hqv100⟩
      have hqv10 := Lib.hid hqv100
      clear hqv100
      have C_v10 := Lib.hid (keepcell C_v9.out hqv10.out)
      clear C_v9
      have B_v10 := Lib.hid (B_v9.out.trans (hqv10.out.mono B_v9.out.size))
      have X_v10 := Lib.hid (ownN_below X_v9.out hqv10.out)
      have Y_v10 := Lib.hid (ownN_below Y_v9.out hqv10.out)
      have Q2_v10 := Lib.hid (ownN_below hov9.out hqv10.out)
      clear B_v9 X_v9 Y_v9 hov9 hqv10
      clear Q2_v10
      go_wp2
      go_ret
      exact ⟨rfl, HBb.out.trans (B_v10.out.mono HBb.out.size)⟩
end Go.Proofs.Ythphboeboiallab
