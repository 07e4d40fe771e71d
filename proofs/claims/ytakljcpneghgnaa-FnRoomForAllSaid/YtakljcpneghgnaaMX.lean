/-
  The law FnRoomForAll.
  Conditions: none.
-/
import Derived.Test.YtakljcpneghgnaaMF
import Derived.Test.YtakljcpneghgnaaDR
import Derived.Test.YtakljcpneghgnaaMT
namespace Go.Proofs.Ytakljcpneghgnaa
open Go.ChangeShapes Go.WideShapes Go.ChangeAt Go.RowKit
set_option linter.unusedVariables false
set_option maxRecDepth 4000

theorem OwnD.later {w w' : World} {B : Nat} {v : Value} {zs : List Int} (h : OwnD w B v zs) (hb : Below w.heap.size w w') : OwnD w' B v zs := ownN_below h hb
theorem neN_step (wish : List (List Int)) (k : Nat) : neN wish (k + 1) = neN wish k + (if neW wish k = true then 1 else 0) := rfl
theorem neN_le (wish : List (List Int)) (k : Nat) : neN wish k ≤ k := blk_le _ _
set_option maxHeartbeats 1600000 in
theorem lawRoomForAll_walk (A : Option Addr) (c : Nat) (bs : List Int) (w : World) (hr : RdB w w.heap.size A bs) (hcap : bs.length ≤ c) (hm : c ≤ maxLen) :
    Calls Try.prog 9 #[.slice A bs.length c] w fun e w' => e = .returned (.bool true) ∧ Below w.heap.size w w' := by
  unfold maxLen at hm
  by_cases hb : 1048576 < bs.length
  · go_enter Try.func9, Try.ntmps9
    go_wp2
    go_ret
    exact ⟨rfl, Below.refl _ _⟩
  · have HD := Lib.hid (drawMostTaken_any A c bs.length bs w hr rfl hcap hm)
    have HMI := Lib.hid iMostTaken_ok
    have HMS := Lib.hid sMostTaken_ok
    go_enter Try.func9, Try.ntmps9
    go_wp2_with fail
    refine HD.out.mono ?_
    rintro e w1 ⟨A1, A2, c1, c2, h, m, room, wish, rfl, h5, h8, N1, HB1⟩
    clear HD hr
    have hcw := N1.out.capw
    have hbn : ∀ x : Int, (x != x) = false := fun x => by simp
    have hbe : ∀ x : Int, (x == x) = true := fun x => by simp
    obtain ⟨a, Ha⟩ : ∃ a, Hid (blv room wish = a) := ⟨_, rfl⟩
    have Hf : Hid (0 ≤ a → vroom room wish = true) := fun h => blv_valid (by rw [Ha.out]; exact h)
    go_wp2_with fail
    refine (HMI.out _ _ _ _ _ _ room wish w1 N1.out).mono ?_
    rintro e w2 ⟨rfl, hq⟩
    rw [Ha.out]
    have N2 := Lib.hid (N1.out.later hq)
    have HB2 := Lib.hid (HB1.out.trans (hq.mono HB1.out.size))
    clear hq
    go_wp2_with fail
    refine (HMS.out _ _ _ _ _ _ room wish w2 N2.out).mono ?_
    rintro e w3 ⟨rfl, hq⟩
    rw [Ha.out]
    have N3 := Lib.hid (N2.out.later hq)
    have HB3 := Lib.hid (HB2.out.trans (hq.mono HB2.out.size))
    clear hq
    go_wp2_with fail
    refine (HMI.out _ _ _ _ _ _ room wish w3 N3.out).mono ?_
    rintro e w4 ⟨rfl, hq⟩
    rw [Ha.out]
    have N4 := Lib.hid (N3.out.later hq)
    have HB4 := Lib.hid (HB3.out.trans (hq.mono HB3.out.size))
    clear hq
    by_cases ha : a < 0
    · clear Hf
      go_wp2
      go_ret
      exact ⟨rfl, HB4.out⟩
    · have Hv := Lib.hid (Hf.out (by omega))
      have Hlen := Lib.hid N1.out.len
      have Hlenw := Lib.hid N1.out.lenw
      obtain ⟨p, Hp⟩ : ∃ p, Hid (neN wish m = p) := ⟨_, rfl⟩
      have hap := blv_le_ne Hv.out
      rw [Ha.out, Hlenw.out, Hp.out] at hap
      have Hwide := Lib.hid (blv_wide Hv.out)
      rw [Hlenw.out, Hp.out, Hlen.out] at Hwide
      have hpm : p ≤ m := by rw [← Hp.out]; exact neN_le _ _
      have hda : decide (a < 0) = false := decide_eq_false ha
      obtain ⟨ii, hii, hzi0, hzi1, hzi2⟩ := info_parts intInfo
      have HO0 : Hid (OwnD (w4.alloc (.cells #[] 3)) w4.heap.size (.slice (some ⟨w4.heap.size, 0, none⟩) 0 0) (List.replicate 0 7)) := World.ownsRow_lit w4 #[] 0 (Nat.le_refl _) (by decide) rfl
      have HBw := Lib.hid ((Below.refl w4.heap.size w4).alloc (Nat.le_refl _) (.cells #[] 3))
      clear Hf N1 N2 N3
      go_wp2
      go_loopw [5, 6] (fun v i wr => ∃ k : Nat, ∃ u, k ≤ h ∧ u = v ∧ i = .int .i64 k ∧ Hid (OwnD wr w4.heap.size u (List.replicate k 7)) ∧ Hid (Below w4.heap.size w4 wr)) (fun _ i _ => h - (intOf i).toNat)
      case atStart => exact ⟨0, _, Nat.zero_le _, rfl, rfl, HO0, HBw⟩
      case round =>
        clear HO0 HBw
        obtain ⟨k, v, hk, rfl, rfl, HO, HB⟩ := hrel
        by_cases hlt : k < h
        · have hs1 : k + 1 ≤ maxLen := by unfold maxLen; omega
          have hs2 : (k + 1) * 8 ≤ 140737488355328 := by omega
          have Hs3 := Lib.hid (show ∀ o, w4.heap.size ≤ (wr.alloc o).heap.size from fun o => by rw [size_alloc1]; have := HB.out.size; omega)
          have HOk : Hid (wr.ownsRow w4.heap.size 3 1 v k ((List.replicate k (7 : Int)).map (Value.int .i64))) := by
            have := HO.out; unfold OwnD at this; rw [List.length_replicate] at this; exact this
          clear HO
          go_wp2_with (at_builtin; refine wpList_append_own _ rfl _ _ 23 rfl w4.heap.size 3 ii _ 1 8 Try.underlying23 hii hzi0 hzi1 hzi2 rfl (by decide) _ _ _ rfl (World.ownsRow.alloc HOk.out _) ⟨_, 0, none⟩ 1 1 [.int .i64 7] rfl rfl (cell_one_new _ _ _) (by intro u hu; simp at hu; subst hu; rfl) hs1 hs2 (Hs3.out _) ?_; intro v' w5 hown' hgrow _)
          have hb3 : Below w4.heap.size w4 w5 := (HB.out.alloc HB.out.size _).grown hgrow (Hs3.out _) (fun g h => (HOk.out.lt g h).1)
          have Hown' : Hid (OwnD w5 w4.heap.size v' (List.replicate (k + 1) 7)) := by
            show w5.ownsRow _ _ _ _ _ _
            rw [List.length_replicate, List.replicate_succ', List.map_append]
            exact hown'
          have Hb3 := Lib.hid hb3
          clear hown' hgrow hb3
          go_wp2
          go_roundw
          case rel => exact ⟨k + 1, _, by omega, rfl, by go_num, Hown', Hb3⟩
          case measure => simp [intOf]; omega
        · obtain rfl : k = h := by omega
          have HL : Hid ((List.replicate k (7 : Int)).length = k) := List.length_replicate ..
          obtain ⟨Aw, cw, rfl, hcw1, hcw2, hrw⟩ := own_slice HO.out rfl
          rw [HL.out] at hcw1 ⊢
          have NW : Hid (RoomIn wr Aw A2 cw c2 k m (List.replicate k 7) wish) :=
            ⟨hrw, HL.out, ⟨hcw1, hcw2⟩, N4.out.most, (N4.out.later HB.out).rdw, N4.out.lenw, N4.out.capw, N4.out.small⟩
          have NR := Lib.hid (N4.out.later HB.out)
          have HR := Lib.hid (N4.out.rdw.below HB.out)
          have HBf := Lib.hid (HB4.out.trans (HB.out.mono HB4.out.size))
          have Hp0 : Hid (neN wish 0 = 0) := rfl
          clear hrw HO
          go_wp2
          go_loop [7, 8] (fun a i => ∃ j t : Nat, j ≤ m ∧ Hid (neN wish j = t) ∧ a = .int .i64 t ∧ i = .int .i64 j) (fun _ i => m - (intOf i).toNat)
          case atStart => exact ⟨0, 0, Nat.zero_le _, Hp0, rfl, rfl⟩
          case round =>
            clear Hp0
            obtain ⟨j, t, hj, Ht, rfl, rfl⟩ := hrel
            have htj : t ≤ j := by rw [← Ht.out]; exact neN_le _ _
            by_cases hjm : j < m
            · obtain ⟨bw, ow, ar, ca, ls, rfl, hbw, Hl, hcl, hca, hcm, hrl⟩ := HR.out.x (k := j) (by rw [Hlenw.out]; exact hjm)
              have hls : neW wish j = decide (0 < ls.length) := by unfold neW; rw [Hl.out]
              have Hst := Lib.hid (neN_step wish j)
              rw [hls, Ht.out] at Hst
              obtain ⟨q, Hq⟩ : ∃ q, Hid (ls.length = q) := ⟨_, rfl⟩
              rw [Hq.out] at hcl hca Hst
              clear hls hrl
              by_cases hq : 0 < q
              · rw [decide_eq_true hq, if_pos rfl] at Hst
                go_wp2
                go_round
                case rel => exact ⟨j + 1, t + 1, by omega, Hst, by go_num, by go_num⟩
                case measure => simp [intOf]; omega
              · rw [decide_eq_false hq, if_neg (by decide)] at Hst
                go_wp2
                go_round
                case rel => exact ⟨j + 1, t, by omega, Hst, rfl, by go_num⟩
                case measure => simp [intOf]; omega
            · obtain rfl : j = m := by omega
              obtain rfl : p = t := by rw [← Hp.out, ← Ht.out]
              go_wp2_with fail
              refine (HMI.out _ _ _ _ _ _ _ wish wr NW.out).mono ?_
              rintro e w6 ⟨rfl, hq⟩
              rw [Hwide.out]
              have N6 := Lib.hid (NR.out.later hq)
              have HB6 := Lib.hid (HBf.out.trans (hq.mono HBf.out.size))
              clear hq
              go_wp2_with fail
              refine (HMI.out _ _ _ _ _ _ room wish w6 N6.out).mono ?_
              rintro e w7 ⟨rfl, hq⟩
              rw [Ha.out]
              have HB7 := Lib.hid (HB6.out.trans (hq.mono HB6.out.size))
              clear hq
              go_wp2
              go_ret
              exact ⟨rfl, HB7.out⟩
end Go.Proofs.Ytakljcpneghgnaa
