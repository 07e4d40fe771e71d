/-
  The laws FnMostTaken and FnLeastBlock.
  Conditions: none.
-/
import Derived.Test.YtakljcpneghgnaaMF
import Derived.Test.YtakljcpneghgnaaDR
import Derived.Test.YtakljcpneghgnaaLB
import Derived.Test.YtakljcpneghgnaaMT
namespace Go.Proofs.Ytakljcpneghgnaa
open Go.ChangeShapes Go.WideShapes Go.ChangeAt Go.RowKit
set_option linter.unusedVariables false
set_option maxRecDepth 4000

set_option maxHeartbeats 1600000 in
theorem lawMostTaken_walk (A : Option Addr) (c : Nat) (bs : List Int) (w : World) (hr : RdB w w.heap.size A bs) (hcap : bs.length ≤ c) (hm : c ≤ maxLen) :
    Calls Try.prog 4 #[.slice A bs.length c] w fun e w' => e = .returned (.bool true) ∧ Below w.heap.size w w' := by
  unfold maxLen at hm
  by_cases hb : 1048576 < bs.length
  · go_enter Try.func4, Try.ntmps4
    go_wp2
    go_ret
    exact ⟨rfl, Below.refl _ _⟩
  · have HD := Lib.hid (drawMostTaken_any A c bs.length bs w hr rfl hcap hm)
    have HMI := Lib.hid iMostTaken_ok
    have HMS := Lib.hid sMostTaken_ok
    have HLI := Lib.hid iLeastBlock_ok
    go_enter Try.func4, Try.ntmps4
    go_wp2_with fail
    refine HD.out.mono ?_
    rintro e w1 ⟨A1, A2, c1, c2, h, m, room, wish, rfl, h5, h8, N1, HB1⟩
    clear HD hr
    have hcw := N1.out.capw
    have hbn : ∀ x : Int, (x != x) = false := fun x => by simp
    have hbe : ∀ x : Int, (x == x) = true := fun x => by simp
    obtain ⟨a, Ha⟩ : ∃ a, Hid (blv room wish = a) := ⟨_, rfl⟩
    have Hf : Hid (0 ≤ a → vroom room wish = true) := fun h => blv_valid (by rw [Ha.out]; exact h)
    go_wp2_with fail
    refine (HMI.out _ _ _ _ _ _ room wish w1 N1.out).mono ?_
    rintro e w2 ⟨rfl, hq⟩
    rw [Ha.out]
    have N2 := Lib.hid (N1.out.later hq)
    have HB2 := Lib.hid (HB1.out.trans (hq.mono HB1.out.size))
    clear hq
    go_wp2_with fail
    refine (HMS.out _ _ _ _ _ _ room wish w2 N2.out).mono ?_
    rintro e w3 ⟨rfl, hq⟩
    rw [Ha.out]
    have N3 := Lib.hid (N2.out.later hq)
    have HB3 := Lib.hid (HB2.out.trans (hq.mono HB2.out.size))
    clear hq
    by_cases ha : a < 0
    · clear Hf
      go_wp2_with fail
      refine (HMS.out _ _ _ _ _ _ room wish w3 N3.out).mono ?_
      rintro e w4 ⟨rfl, hq⟩
      rw [Ha.out]
      have HB4 := Lib.hid (HB3.out.trans (hq.mono HB3.out.size))
      clear hq
      go_wp2
      go_ret
      exact ⟨rfl, HB4.out⟩
    · have Hv := Lib.hid (Hf.out (by omega))
      have Ht := Lib.hid (fun k (hk : m = k + 1) => blv_take (room := room) (wish := wish) (n := k) (by rw [N1.out.lenw]; exact hk) Hv.out)
      have hab := (blv_total Hv.out).1
      rw [Ha.out, N1.out.lenw] at hab
      clear Hf N1 N2
      go_wp2_with fail
      refine (HLI.out _ _ _ _ _ _ room wish w3 N3.out).mono ?_
      rintro e w4 ⟨rfl, hq⟩
      rw [Ha.out]
      have N4 := Lib.hid (N3.out.later hq)
      have HB4 := Lib.hid (HB3.out.trans (hq.mono HB3.out.size))
      clear hq
      by_cases h0 : m = 0
      · subst h0
        go_wp2_with fail
        refine (HLI.out _ _ _ _ _ _ room wish w4 N4.out).mono ?_
        rintro e w5 ⟨rfl, hq⟩
        rw [Ha.out]
        have HB5 := Lib.hid (HB4.out.trans (hq.mono HB4.out.size))
        clear hq
        go_wp2
        go_ret
        exact ⟨rfl, HB5.out⟩
      · obtain ⟨k, rfl⟩ : ∃ k, m = k + 1 := ⟨m - 1, by omega⟩
        have hmb : (((k + 1 : Nat) : Int) == 0) = false := by rw [beq_eq_false_iff_ne]; omega
        have hwm : IntKind.i64.wrap (((k + 1 : Nat) : Int) - 1) = (k : Int) := by rw [IntWalk.i64_in _ (by omega)]; omega
        have Nt := Lib.hid (N4.out.take (show k ≤ k + 1 by omega))
        have hle : k ≤ c2 := by omega
        have hwa : IntKind.i64.wrap (a - 1) = a - 1 := IntWalk.i64_in _ (by omega)
        clear h0
        go_wp2_with fail
        refine (HMI.out _ _ _ _ _ _ room (wish.take k) w4 Nt.out).mono ?_
        rintro e w5 ⟨rfl, hq⟩
        have HB5 := Lib.hid (HB4.out.trans (hq.mono HB4.out.size))
        have hcase := Ht.out k rfl
        rw [Ha.out] at hcase
        clear hq Ht
        obtain ⟨b, Hb⟩ : ∃ b, Hid (blv room (wish.take k) = b) := ⟨_, rfl⟩
        rw [Hb.out] at hcase ⊢
        rcases hcase with rfl | rfl
        · go_wp2
          go_ret
          exact ⟨rfl, HB5.out⟩
        · have hne : ((a - 1 : Int) == a) = false := by rw [beq_eq_false_iff_ne]; omega
          go_wp2
          go_ret
          exact ⟨rfl, HB5.out⟩

set_option maxHeartbeats 1600000 in
theorem lawLeastBlock_walk (A : Option Addr) (c : Nat) (bs : List Int) (w : World) (hr : RdB w w.heap.size A bs) (hcap : bs.length ≤ c) (hm : c ≤ maxLen) :
    Calls Try.prog 5 #[.slice A bs.length c] w fun e w' => e = .returned (.bool true) ∧ Below w.heap.size w w' := by
  unfold maxLen at hm
  by_cases hb : 1048576 < bs.length
  · go_enter Try.func5, Try.ntmps5
    go_wp2
    go_ret
    exact ⟨rfl, Below.refl _ _⟩
  · have HD := Lib.hid (drawLeastBlock_any A c bs.length bs w hr rfl hcap hm)
    have HMI := Lib.hid iMostTaken_ok
    have HLI := Lib.hid iLeastBlock_ok
    have HLS := Lib.hid sLeastBlock_ok
    go_enter Try.func5, Try.ntmps5
    go_wp2_with fail
    refine HD.out.mono ?_
    rintro e w1 ⟨A1, A2, c1, c2, h, m, room, wish, rfl, h5, h8, N1, HB1⟩
    clear HD hr
    have hcw := N1.out.capw
    have hbn : ∀ x : Int, (x != x) = false := fun x => by simp
    have hbe : ∀ x : Int, (x == x) = true := fun x => by simp
    obtain ⟨a, Ha⟩ : ∃ a, Hid (blv room wish = a) := ⟨_, rfl⟩
    have Hf : Hid (0 ≤ a → vroom room wish = true) := fun h => blv_valid (by rw [Ha.out]; exact h)
    go_wp2_with fail
    refine (HLI.out _ _ _ _ _ _ room wish w1 N1.out).mono ?_
    rintro e w2 ⟨rfl, hq⟩
    rw [Ha.out]
    have N2 := Lib.hid (N1.out.later hq)
    have HB2 := Lib.hid (HB1.out.trans (hq.mono HB1.out.size))
    clear hq
    go_wp2_with fail
    refine (HLS.out _ _ _ _ _ _ room wish w2 N2.out).mono ?_
    rintro e w3 ⟨rfl, hq⟩
    rw [Ha.out]
    have N3 := Lib.hid (N2.out.later hq)
    have HB3 := Lib.hid (HB2.out.trans (hq.mono HB2.out.size))
    clear hq
    by_cases ha : a < 0
    · clear Hf
      go_wp2_with fail
      refine (HLS.out _ _ _ _ _ _ room wish w3 N3.out).mono ?_
      rintro e w4 ⟨rfl, hq⟩
      rw [Ha.out]
      have HB4 := Lib.hid (HB3.out.trans (hq.mono HB3.out.size))
      clear hq
      go_wp2
      go_ret
      exact ⟨rfl, HB4.out⟩
    · have Hv := Lib.hid (Hf.out (by omega))
      have hab := blv_total Hv.out
      rw [Ha.out, N1.out.lenw, N1.out.len] at hab
      obtain ⟨t, Ht⟩ : ∃ t, Hid (totI room h = t) := ⟨_, rfl⟩
      rw [Ht.out] at hab
      obtain ⟨hab1, hab2⟩ := hab
      have Hz : Hid (∀ i, i < h → -4294967296 ≤ room.getD i 0 ∧ room.getD i 0 ≤ 4294967296) := fun i hi => by
        have := ((vroom_iff _ _).1 Hv.out).2.2.1 i (by rw [N1.out.len]; exact hi)
        omega
      clear Hf N1 N2
      go_wp2_with fail
      refine (HMI.out _ _ _ _ _ _ room wish w3 N3.out).mono ?_
      rintro e w4 ⟨rfl, hq⟩
      rw [Ha.out]
      have N4 := Lib.hid (N3.out.later hq)
      have HB4 := Lib.hid (HB3.out.trans (hq.mono HB3.out.size))
      clear hq
      have HT := Lib.hid (total_any A1 c1 h room w4 _ N4.out.rd N4.out.len (by have := N4.out.most; omega) Hz.out)
      rw [Ht.out] at HT
      go_wp2_with fail
      refine HT.out.mono ?_
      rintro e w5 ⟨rfl, rfl⟩
      go_wp2
      go_ret
      exact ⟨rfl, HB4.out⟩
end Go.Proofs.Ytakljcpneghgnaa
