/-
  The drawn arguments of TreeApart.
  Conditions: none beyond what each theorem states.
  The law FnTreeApart: in trees as many as are apart cover, and so many are apart in the net of the roads.
  Conditions: none.
-/
import Derived.Test.YtdhelapgdgekfaaZ7
import Derived.Test.YtdhelapgdgekfaaZ18
import Derived.Test.YtdhelapgdgekfaaZ17
import Derived.Test.YtdhelapgdgekfaaZ22
namespace Go.Proofs.Ytdhelapgdgekfaa
open Go.ChangeShapes Go.WideShapes Go.ChangeAt Go.RowKit
set_option linter.unusedVariables false
set_option maxRecDepth 4000

theorem drawTreeApart_any (A : Option Addr) (c n : Nat) (bs : List Int) (w : World) (hr : RdB w w.heap.size A bs) (hn : bs.length = n) (hc : n ≤ c) (hm : c ≤ 9223372036854775807) :
    Calls Try.prog 26 #[.slice A n c] w (DrawnTreeK w) := by
  have H := Lib.hid (newReader_any A c n bs w hr hn hc hm)
  clear hn
  go_enter Try.func26, Try.ntmps26
  go_wp2_with fail
  refine H.out.mono ?_
  rintro e w1 ⟨rfl, hg1, hnx1⟩
  go_wp2_with fail
  refine (someTree_any w.heap.size w.heap.size 0 w1 hg1 (by omega)).mono ?_
  rintro e w2 ⟨v, ts, rfl, hl, hown, hg2, hgb2⟩
  have Hwo := Lib.hid hown.lt
  have Hown := Lib.hid hown
  clear hown
  go_wp2_with fail
  refine (aFar_any w.heap.size w.heap.size (0 + 40) w2 hg2 (by omega)).mono ?_
  rintro e w3 ⟨k, rfl, hk1, hk2, hg3, hgb3⟩
  have hown3 := Hown.out.kept hgb3 (.inr (fun e => by have := (Hwo.out _ e).1; have := hg1.lt; omega))
  obtain ⟨A', c', rfl, hc1, hc2, hrd⟩ := rdR_own hown3 rfl
  go_wp2
  go_ret2
  exact ⟨A', c', ts, k, rfl, by omega, by omega, hl, hc1, hc2, hrd, hnx1.trans (gb_below (gb_trans hgb2 hgb3 (.inl rfl)) (Nat.le_refl _) hnx1.size)⟩
end Go.Proofs.Ytdhelapgdgekfaa
namespace Go.Proofs.Ytdhelapgdgekfaa
open Go.ChangeShapes Go.WideShapes Go.ChangeAt Go.RowKit
set_option linter.unusedVariables false
set_option maxRecDepth 4000

set_option maxHeartbeats 1600000 in
theorem lawTreeApart_walk (A : Option Addr) (c : Nat) (bs : List Int) (w : World) (hr : RdB w w.heap.size A bs) (hcap : bs.length ≤ c) (hm : c ≤ maxLen) :
    Calls Try.prog 5 #[.slice A bs.length c] w fun e w' => e = .returned (.bool true) ∧ Below w.heap.size w w' := by
  unfold maxLen at hm
  by_cases hb : 1048576 < bs.length
  · go_enter Try.func5, Try.ntmps5
    go_wp2
    go_ret
    exact ⟨rfl, Below.refl _ _⟩
  · have H := Lib.hid (drawTreeApart_any A c bs.length bs w hr rfl hcap hm)
    go_enter Try.func5, Try.ntmps5
    go_wp2_with fail
    refine H.out.mono ?_
    rintro e w1 ⟨A', c', ts, far, rfl, hk1, hk2, hl, hc1, hc2, hrd, hnx1⟩
    have Hwf := Lib.hid (wf_small (n := far) (by omega))
    obtain ⟨a, Ha⟩ : ∃ a, Hid (apv ts far = a) := ⟨_, rfl⟩
    have hbn : ∀ x : Int, (x != x) = false := fun x => by simp
    have hbe : ∀ x : Int, (x == x) = true := fun x => by simp
    have Hrd := Lib.hid hrd
    have HB1 := Lib.hid hnx1
    clear hrd hnx1
    go_wp2_with fail
    refine (iTreeApart_any A' c' ts.length ts far w1 Hrd.out rfl hc1 (by omega)).mono ?_
    rintro e w2 ⟨rfl, hq⟩
    rw [Ha.out]
    have R2 := Lib.hid ((Hrd.out.below hq).more hq.size)
    have HB2 := Lib.hid (HB1.out.trans (hq.mono HB1.out.size))
    clear hq
    go_wp2_with fail
    refine (sTreeApart_any A' c' ts.length ts far w2 R2.out rfl (by omega)).mono ?_
    rintro e w3 ⟨rfl, hq⟩
    rw [Ha.out]
    have R3 := Lib.hid ((R2.out.below hq).more hq.size)
    have HB3 := Lib.hid (HB2.out.trans (hq.mono HB2.out.size))
    clear hq
    by_cases ha : a < 0
    · go_wp2_with fail
      refine (sTreeApart_any A' c' ts.length ts far w3 R3.out rfl (by omega)).mono ?_
      rintro e w4 ⟨rfl, hq⟩
      rw [Ha.out]
      have HB4 := Lib.hid (HB3.out.trans (hq.mono HB3.out.size))
      go_wp2
      go_ret
      exact ⟨rfl, HB4.out⟩
    · obtain ⟨hv, h0, h50⟩ := apv_has (ts := ts) (far := far) (by rw [Ha.out]; omega)
      obtain ⟨e1, -, e2⟩ := tree_facts hv h0 h50
      obtain ⟨g1, g7, -⟩ := (vt_iff ts).1 hv
      rw [← e1] at e2
      have e1 := e1.symm
      rw [Ha.out] at e1 e2
      have E1 := Lib.hid e1
      have E2 := Lib.hid e2
      clear e1 e2 hv h0 h50
      go_wp2_with fail
      refine (iTreeCover_any A' c' ts.length ts far w3 R3.out rfl hc1 (by omega) Hwf.out).mono ?_
      rintro e w4 ⟨rfl, hq⟩
      rw [E1.out]
      have R4 := Lib.hid ((R3.out.below hq).more hq.size)
      have HB4 := Lib.hid (HB3.out.trans (hq.mono HB3.out.size))
      clear hq
      go_wp2_with fail
      refine (streetsOf_any A' c' ts.length ts w4 R4.out rfl (by omega)).mono ?_
      rintro e w5 ⟨A5, c5, rfl, hc5, hc6, hrd5, hq5⟩
      have HB5 := Lib.hid (HB4.out.trans (hq5.mono HB4.out.size))
      have N5 : Hid (NetIn w5 A5 c5 (ts.length - 1) (ts.length : Nat) (strOf ts)) := ⟨hrd5, strOf_len ts, ⟨hc5, hc6⟩, by omega, wf_small (by omega)⟩
      clear hrd5 hq5
      go_wp2_with fail
      refine (iNetApart_ok A5 c5 _ _ _ far w5 N5.out Hwf.out).mono ?_
      rintro e w6 ⟨rfl, hq6⟩
      rw [E2.out]
      have HB6 := Lib.hid (HB5.out.trans (hq6.mono HB5.out.size))
      go_wp2
      go_ret
      exact ⟨rfl, HB6.out⟩
end Go.Proofs.Ytdhelapgdgekfaa
