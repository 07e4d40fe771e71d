/-
  The law FnTreeCover: in trees as many as cover are apart, and so many cover the net of the roads.
  Conditions: none.
-/
import Derived.Test.YtdhelapgdgekfaaZ18
import Derived.Test.YtdhelapgdgekfaaZ7
import Derived.Test.YtdhelapgdgekfaaZ17
import Derived.Test.YtdhelapgdgekfaaZ22
import Derived.Test.YtdhelapgdgekfaaZ20
namespace Go.Proofs.Ytdhelapgdgekfaa
open Go.ChangeShapes Go.WideShapes Go.ChangeAt Go.RowKit
set_option linter.unusedVariables false
set_option maxRecDepth 4000

set_option maxHeartbeats 1600000 in
theorem lawTreeCover_walk (A : Option Addr) (c : Nat) (bs : List Int) (w : World) (hr : RdB w w.heap.size A bs) (hcap : bs.length ≤ c) (hm : c ≤ maxLen) :
    Calls Try.prog 4 #[.slice A bs.length c] w fun e w' => e = .returned (.bool true) ∧ Below w.heap.size w w' := by
  unfold maxLen at hm
  by_cases hb : 1048576 < bs.length
  · go_enter Try.func4, Try.ntmps4
    go_wp2
    go_ret
    exact ⟨rfl, Below.refl _ _⟩
  · have H := Lib.hid (drawTreeCover_any A c bs.length bs w hr rfl hcap hm)
    go_enter Try.func4, Try.ntmps4
    go_wp2_with fail
    refine H.out.mono ?_
    rintro e w1 ⟨A', c', ts, far, rfl, hk1, hk2, hl, hc1, hc2, hrd, hnx1⟩
    have Hwf := Lib.hid (wf_small (n := far) (by omega))
    have Hlow := Lib.hid (cvv_bd ts far)
    obtain ⟨a, Ha⟩ : ∃ a, Hid (cvv ts far = a) := ⟨_, rfl⟩
    have hbn : ∀ x : Int, (x != x) = false := fun x => by simp
    have hbe : ∀ x : Int, (x == x) = true := fun x => by simp
    have Hrd := Lib.hid hrd
    have HB1 := Lib.hid hnx1
    clear hrd hnx1
    go_wp2_with fail
    refine (iTreeCover_any A' c' ts.length ts far w1 Hrd.out rfl hc1 (by omega) Hwf.out).mono ?_
    rintro e w2 ⟨rfl, hq⟩
    rw [Ha.out]
    have R2 := Lib.hid ((Hrd.out.below hq).more hq.size)
    have HB2 := Lib.hid (HB1.out.trans (hq.mono HB1.out.size))
    clear hq
    go_wp2_with fail
    refine (sTreeCover_any A' c' ts.length ts far w2 R2.out rfl (by omega)).mono ?_
    rintro e w3 ⟨rfl, hq⟩
    rw [Ha.out]
    have R3 := Lib.hid ((R2.out.below hq).more hq.size)
    have HB3 := Lib.hid (HB2.out.trans (hq.mono HB2.out.size))
    clear hq
    by_cases ha : a < 0
    · go_wp2_with fail
      refine (sTreeCover_any A' c' ts.length ts far w3 R3.out rfl (by omega)).mono ?_
      rintro e w4 ⟨rfl, hq⟩
      rw [Ha.out]
      have HB4 := Lib.hid (HB3.out.trans (hq.mono HB3.out.size))
      go_wp2
      go_ret
      exact ⟨rfl, HB4.out⟩
    · obtain ⟨hv, h0, h50⟩ := cvv_has (ts := ts) (far := far) (by rw [Ha.out]; omega)
      obtain ⟨e1, e2, -⟩ := tree_facts hv h0 h50
      obtain ⟨g1, g7, -⟩ := (vt_iff ts).1 hv
      rw [Ha.out] at e1 e2
      have E1 := Lib.hid e1
      have E2 := Lib.hid e2
      clear e1 e2 hv h0 h50
      go_wp2_with fail
      refine (iTreeApart_any A' c' ts.length ts far w3 R3.out rfl hc1 (by omega)).mono ?_
      rintro e w4 ⟨rfl, hq⟩
      rw [E1.out]
      have R4 := Lib.hid ((R3.out.below hq).more hq.size)
      have HB4 := Lib.hid (HB3.out.trans (hq.mono HB3.out.size))
      clear hq
      go_wp2_with fail
      refine (streetsOf_any A' c' ts.length ts w4 R4.out rfl (by omega)).mono ?_
      rintro e w5 ⟨A5, c5, rfl, hc5, hc6, hrd5, hq5⟩
      have HB5 := Lib.hid (HB4.out.trans (hq5.mono HB4.out.size))
      have N5 : Hid (NetIn w5 A5 c5 (ts.length - 1) (ts.length : Nat) (strOf ts)) := ⟨hrd5, strOf_len ts, ⟨hc5, hc6⟩, by omega, wf_small (by omega)⟩
      clear hrd5 hq5
      go_wp2_with fail
      refine (iNetCover_ok A5 c5 _ _ _ far w5 N5.out Hwf.out).mono ?_
      rintro e w6 ⟨rfl, hq6⟩
      rw [E2.out]
      have HB6 := Lib.hid (HB5.out.trans (hq6.mono HB5.out.size))
      go_wp2
      go_ret
      exact ⟨rfl, HB6.out⟩
end Go.Proofs.Ytdhelapgdgekfaa
