/-
  The law FnLinesAreTrees: on a line's tree at least as many nodes are apart as homes on the line.
  Conditions: none.
-/
import Derived.Test.YtggpdlcompokoaaT9
import Derived.Test.YtggpdlcompokoaaA3
import Derived.Test.YtggpdlcompokoaaL8
import Derived.Test.YtggpdlcompokoaaDM
import Derived.Test.YtggpdlcompokoaaD2
namespace Go.Proofs.Ytggpdlcompokoaa
open Go.ChangeShapes Go.WideShapes Go.ChangeAt Go.RowKit
set_option linter.unusedVariables false
set_option maxRecDepth 4000

theorem mapart_bd (zs : List Int) (far : Int) (hl : zs.length ≤ 10) : -1 ≤ mapart zs far ∧ mapart zs far ≤ 10 := by
  have := topp_bd (far := far) (zs := zs) zs.length
  unfold mapart
  split <;> omega
theorem mapart_is {zs : List Int} {far : Int} (h : 1 ≤ mapart zs far) : vh zs = true ∧ 0 ≤ far ∧ far ≤ 50 ∧ 1 ≤ zs.length ∧ mapart zs far = topp far zs zs.length := by
  by_cases hv : vh zs = true ∧ vfar far = true
  · have e := mapart_yes hv.1 hv.2
    have hb := topp_bd (far := far) (zs := zs) zs.length
    have hf := hv.2
    simp only [vfar, Bool.and_eq_true, decide_eq_true_eq] at hf
    refine ⟨hv.1, hf.1, hf.2, ?_, e⟩
    rw [e] at h
    omega
  · unfold mapart at h
    rw [if_neg hv] at h
    omega
theorem line_apv {zs : List Int} {ts : List (Int × Int)} {last far : Int} (h : LineT zs zs.length ts last) (h7 : diffc zs zs.length ≤ 7) (ho : 1 ≤ mapart zs far) : mapart zs far ≤ apv ts far := by
  obtain ⟨hv, h0, h50, hl, e⟩ := mapart_is ho
  rw [e]
  unfold apv
  rw [if_pos ⟨lineT_vt h h7, h0, h50⟩]
  exact line_pk h h7 h0
theorem bc_le : ∀ f s, bc f s ≤ f
  | 0, _ => Nat.le_refl _
  | f + 1, s => by have := bc_le f (s / 2); simp only [bc]; omega
theorem apv_bd {ts : List (Int × Int)} {far : Int} (hl : ts.length ≤ 7) : -1 ≤ apv ts far ∧ apv ts far ≤ 7 := by
  unfold apv
  split
  · have : pkB (dn ts ts.length) far ts.length (2 ^ ts.length) ≤ 7 := pkB_le _ fun s hs _ => by
      exact bc_le 7 s
    omega
  · omega

/-- The law's loop. -/
def LineRel (B : Nat) (w : World) (zs : List Int) (v l i : Value) (wr : World) : Prop :=
  ∃ k : Nat, ∃ ts : List (Int × Int), ∃ last : Int, 1 ≤ k ∧ k ≤ zs.length ∧ i = .int .i64 k ∧ l = .int .i64 last ∧ Hid (LineT zs k ts last) ∧ wr.ownsRow B 34 2 v ts.length ((flat ts).map (Value.int .i64)) ∧ Below B w wr

set_option maxHeartbeats 1600000 in
theorem lawLinesAreTrees_walk (A : Option Addr) (c : Nat) (bs : List Int) (w : World) (hr : RdB w w.heap.size A bs) (hcap : bs.length ≤ c) (hm : c ≤ maxLen) :
    Calls Try.prog 6 #[.slice A bs.length c] w fun e w' => e = .returned (.bool true) ∧ Below w.heap.size w w' := by
  unfold maxLen at hm
  obtain ⟨i0, hi0, hz0, hz1, hz2⟩ := info_parts roadInfo
  by_cases hb : 1048576 < bs.length
  · go_enter Try.func6, Try.ntmps6
    go_wp2
    go_ret
    exact ⟨rfl, Below.refl _ _⟩
  · have H := Lib.hid (drawMostApart_any A c bs.length bs w hr rfl hcap hm)
    go_enter Try.func6, Try.ntmps6
    go_wp2_with fail
    refine H.out.mono ?_
    rintro e w1 ⟨A', c', xs, far, rfl, hk1, hk2, hl, hc1, hc2, hrd, hnx⟩
    clear H
    go_wp2_with fail
    refine (iMost_any A' c' xs.length xs far w1 _ hrd (Nat.le_refl _) rfl hc1 hc2 (by omega)).mono ?_
    rintro e w2 ⟨rfl, hq2⟩
    obtain ⟨o, Ho⟩ : ∃ o, Hid (mapart xs far = o) := ⟨_, rfl⟩
    have hob := mapart_bd xs far hl
    rw [Ho.out] at hob
    rw [Ho.out]
    have hnx2 := hnx.trans (hq2.mono hnx.size)
    have hrd2 := (hrd.below hq2).more hq2.size
    clear hq2 hnx hrd
    go_wp2_with fail
    refine (sMost_any A' c' xs.length xs far w2 _ hrd2 (Nat.le_refl _) rfl (by omega)).mono ?_
    rintro e w3 ⟨rfl, hq3⟩
    rw [Ho.out]
    have hnx3 := hnx2.trans (hq3.mono hnx2.size)
    have hrd3 := (hrd2.below hq3).more hq3.size
    clear hq3 hnx2 hrd2
    go_wp2_with fail
    refine (iMost_any A' c' xs.length xs far w3 _ hrd3 (Nat.le_refl _) rfl hc1 hc2 (by omega)).mono ?_
    rintro e w4 ⟨rfl, hq4⟩
    rw [Ho.out]
    have hnx4 := hnx3.trans (hq4.mono hnx3.size)
    have hrd4 := (hrd3.below hq4).more hq4.size
    clear hq4 hnx3 hrd3
    by_cases ho : o < 1
    · go_wp2
      go_ret
      exact ⟨rfl, hnx4⟩
    · obtain ⟨hv, hf0, hf1, hl1, -⟩ := mapart_is (zs := xs) (far := far) (by rw [Ho.out]; omega)
      have Hok := Lib.hid (vh_ok hv)
      have Hvh := Lib.hid hv
      clear hv
      obtain ⟨D, HD⟩ : ∃ D, Hid (diffc xs xs.length = D) := ⟨_, rfl⟩
      have hDb := diffc_bd xs xs.length
      rw [HD.out] at hDb
      go_wp2_with fail
      refine (different_any A' c' xs.length xs w4 _ hrd4 rfl hc1 hc2 (by omega)).mono ?_
      rintro e w' ⟨rfl, q, rfl⟩
      rw [HD.out]
      by_cases h7 : 7 < D
      · go_wp2
        go_ret
        exact ⟨rfl, below_drewN hnx4 _⟩
      · obtain ⟨b, off, x0, rfl, hbw, Hx0, hx0⟩ := hrd4.x (k := 0) (by omega)
        rw [Nat.add_zero] at hx0
        have hown0 : ((w4.drewN q).alloc (.cells #[.int .i64 (-1), .int .i64 0] 34)).ownsRow w4.heap.size 34 2 (.slice (some ⟨w4.heap.size, 0, none⟩) 1 1) 1 [.int .i64 (-1), .int .i64 0] :=
          World.ownsRow_lit (w4.drewN q) #[.int .i64 (-1), .int .i64 0] 1 (Nat.le_refl _) (by decide) rfl
        have hnx0 : Below w4.heap.size w4 ((w4.drewN q).alloc (.cells #[.int .i64 (-1), .int .i64 0] 34)) := (below_drewN (Below.refl _ _) _).alloc (Nat.le_refl _) _
        have hx0' : ((w4.drewN q).alloc (.cells #[.int .i64 (-1), .int .i64 0] 34)).cell? ⟨b, off, none⟩ = some (.int .i64 x0) := by
          rw [hnx0.cell hbw]; exact hx0
        have Hown0 := Lib.hid hown0
        clear hown0
        go_wp2
        go_loopw [6, 7, 8] (fun v l i wr => LineRel w4.heap.size w4 xs v l i wr) (fun _ _ i _ => xs.length - (intOf i).toNat)
        case atStart => exact ⟨1, [(-1, 0)], x0, Nat.le_refl _, by omega, rfl, rfl, by rw [← Hx0.out]; exact lineT_start, Hown0.out, hnx0⟩
        case round =>
          clear hnx0 Hown0 hx0 hx0'
          obtain ⟨k, ts, last, hk1', hk, rfl, rfl, HL, hown, hbl⟩ := hrel
          have hlast := lineT_last HL.out
          obtain ⟨hla1, hla2⟩ := vh_get Hvh.out (k := k - 1) (by omega) hlast.symm
          obtain ⟨hln1, hln2⟩ := lineT_len HL.out
          have hln3 := diffc_bd xs k
          have hln4 : ts.length ≤ 10 := by omega
          clear hln2 hln3
          have Hown := Lib.hid hown
          obtain ⟨At, ct, rfl, hct1, hct2, hrt⟩ := rdR_own hown rfl
          have Hrt := Lib.hid hrt
          clear hown hrt
          have hsz := hbl.size
          by_cases hlt : k < xs.length
          · obtain ⟨b', off', x, he, _, Hx, hcx⟩ := (hrd4.below hbl).x (k := k) hlt
            injection he with he
            injection he with he1 he2
            subst he1 he2
            obtain ⟨hx1, hx2⟩ := vh_get Hvh.out hlt Hx.out
            have hge : last ≤ x := by
              obtain ⟨j, rfl⟩ : ∃ j, k = j + 1 := ⟨k - 1, by omega⟩
              have := ok_step Hok.out hlt
              rw [hlast, ← Hx.out]; exact this
            clear hlast
            by_cases h9 : 9 < x - last
            · go_wp2
              go_ret
              exact ⟨rfl, hnx4.trans (hbl.mono hnx4.size)⟩
            · by_cases hup : last < x
              · have HL' := Lib.hid (lineT_next HL.out hk1' hlt Hx.out hup (by omega))
                clear HL Hrt
                have hl0 : 0 ≤ ((ts.length : Nat) : Int) - 1 := by omega
                have Hn7 : Hid (ts.length + 1 ≤ 12) := by show ts.length + 1 ≤ 12; omega
                go_wp2_with (at_builtin; refine wpList_append_own _ rfl _ _ 23 rfl w4.heap.size 34 i0 _ 2 16 Try.underlying23 hi0 hz0 hz1 hz2 rfl (by decide) _ _ _ rfl (Hown.out.alloc _) ⟨wr.heap.size, 0, none⟩ 1 1 [.int .i64 ((ts.length : Int) - 1), .int .i64 (x - last)] rfl rfl ?c1 ?c2 ?c3 ?c4 ?c5 ?_)
                case c2 => exact ⟨rfl, rfl⟩
                case c3 => have := Hn7.out; unfold maxLen; omega
                case c4 => have := Hn7.out; omega
                case c5 => omega
                intro v' w5 hown' hgrow _
                have hbl5 : Below w4.heap.size w4 w5 := (hbl.alloc hsz _).grown hgrow (by rw [size_alloc1]; omega) (fun g hg => (Hown.out.lt g hg).1)
                have hcx5 : w5.cell? ⟨b, off + k, none⟩ = some (.int .i64 x) := by
                  rw [hbl5.cell hbw, ← hbl.cell hbw]; exact hcx
                have Hown' := Lib.hid hown'
                clear hown' hgrow Hown
                go_wp2
                go_roundw
                case rel => exact ⟨k + 1, ts ++ [((ts.length : Int) - 1, x - last)], x, by omega, by omega, by go_num, rfl, HL', by simpa [flat_append, flat] using Hown'.out, hbl5⟩
                case measure => simp [intOf]; omega
              · have HL' := Lib.hid (lineT_same HL.out hk1' hlt Hx.out hge hup)
                clear HL Hrt
                go_wp2
                go_roundw
                case rel => exact ⟨k + 1, ts, last, by omega, by omega, by go_num, rfl, HL', Hown.out, hbl⟩
                case measure => simp [intOf]; omega
          · obtain rfl : k = xs.length := by omega
            have hap := line_apv (far := far) HL.out (by rw [HD.out]; omega) (by rw [Ho.out]; omega)
            have hab := apv_bd (ts := ts) (far := far) (by have := (lineT_len HL.out).2; rw [HD.out] at this; omega)
            rw [Ho.out] at hap
            obtain ⟨p, Hp⟩ : ∃ p, Hid (apv ts far = p) := ⟨_, rfl⟩
            rw [Hp.out] at hap hab
            clear Hown
            go_wp2_with fail
            refine (iTreeApart_any At ct ts.length ts far wr Hrt.out rfl hct1 (by omega)).mono ?_
            rintro e w6 ⟨rfl, hbl6⟩
            rw [Hp.out]
            have h06 := hnx4.trans ((hbl.trans (hbl6.mono hsz)).mono hnx4.size)
            go_wp2
            go_ret
            exact ⟨rfl, h06⟩
end Go.Proofs.Ytggpdlcompokoaa
