/-
  longestGap: the longest time from one received time to the next one, round the end.
  Conditions: ascending times below the round's length, of at most 20.
-/
import Derived.Test.YtdkonaaoanggiaaYD
namespace Go.Proofs.Ytdkonaaoanggiaa
open Go.ChangeShapes Go.WideShapes Go.ChangeAt Go.RowKit Go.Conc
set_option linter.unusedVariables false
set_option maxRecDepth 4000

/-- What is left in the channel behind j times. -/
def ChT (w : World) (c cap : Nat) (ts : List Nat) (j : Nat) : Prop := ChI w c cap ((ts.drop j).map (fun (t : Nat) => (t : Int))) true
theorem chT_some {w : World} {c cap : Nat} {ts : List Nat} {j : Nat} (h : ChT w c cap ts j) (hj : j < ts.length) :
    ∃ (buf : Array Value) (s r : Nat), w.heap[c]? = some (.chan cap buf true s r false) ∧ 0 < buf.size ∧ buf.getD 0 undef = .int .i64 (ts.getD j 0 : Nat) ∧ ∀ s' r', ChT (w.setChan c cap (buf.extract 1 buf.size) true s' r' false) c cap ts (j + 1) := by
  have hlt := ChI.lt h
  obtain ⟨s, r, hc⟩ := h
  have e1 : ts.drop j = ts.getD j 0 :: ts.drop (j + 1) := by
    rw [List.drop_eq_getElem_cons hj]
    simp [List.getD, List.getElem?_eq_getElem hj]
  rw [e1] at hc
  refine ⟨_, s, r, hc, by simp, by simp, fun s' r' => ⟨s', r', ?_⟩⟩
  rw [heap_setChan _ _ _ _ _ _ _ _ hlt]
  congr 2
  apply Array.ext'
  simp only [List.map_map]
  simp
  rw [List.take_of_length_le (by simp)]
theorem chT_none {w : World} {c cap : Nat} {ts : List Nat} {j : Nat} (h : ChT w c cap ts j) (hj : ts.length ≤ j) : ∃ s r : Nat, w.heap[c]? = some (.chan cap #[] true s r false) := by
  obtain ⟨s, r, hc⟩ := h
  rw [List.drop_of_length_le hj] at hc
  exact ⟨s, r, hc⟩
theorem asc_lt {ts : List Nat} {m i : Nat} (h : Asc ts m) (hi : i < ts.length) : ts.getD i 0 < m := h.2 i hi
/-- What longestGap answers. -/
def GapIs (ts : List Nat) (m B : Nat) (w : World) (e : Ending) (w' : World) : Prop := e = .returned (.int .i64 (lgY m ts)) ∧ Hid (Below B w w')

set_option maxHeartbeats 1600000 in
theorem longestGap_any (c cap m B : Nat) (ts : List Nat) (w : World) (hc : ChT w c cap ts 0) (hA : Asc ts m) (hm : m ≤ 20) (hB : B ≤ c) :
    Calls Try.prog 58 #[.chan (some c), .int .i64 m] w (GapIs ts m B w) := by
  have HC := Lib.hid hc
  have HA := Lib.hid hA
  obtain ⟨n, Hn⟩ : ∃ n, Hid (ts.length = n) := ⟨_, rfl⟩
  clear hc hA
  by_cases h0 : n = 0
  · obtain ⟨s, r, hcw⟩ := chT_none HC.out (by rw [Hn.out]; omega)
    have HE : Hid (GapIs ts m B w (.returned (.int .i64 (-1))) w) := ⟨by unfold lgY; rw [if_pos (by rw [Hn.out]; exact h0)], Below.refl _ _⟩
    clear h0
    go_enter Try.func58, Try.ntmps58
    go_upto_region 1 with fail
    refine opsTo_region ?_
    show OpsTo _ _ _ [0, 1, 2, 3, 4, 5, 6] _ _
    refine opsTo_value rfl rfl rfl ?_
    refine opsTo_shut (c := c) (z := .int .i64 0) true rfl rfl (by simp [go_sem, execOp, rcase]) hcw ?_
    refine opsTo_value rfl rfl rfl ?_
    refine opsTo_value rfl rfl rfl ?_
    refine opsTo_value rfl rfl rfl ?_
    refine opsTo_value rfl rfl rfl ?_
    refine opsTo_value rfl rfl rfl ?_
    refine opsTo_nil ?_
    simp only [got, if_true]
    go_simp
    go_wp2
    go_ret
    exact HE.out
  · have hn0 : 0 < n := by omega
    clear h0
    obtain ⟨x0, Hx0⟩ : ∃ x : Nat, Hid (ts.getD 0 0 = x) := ⟨_, rfl⟩
    have hx0 : x0 < m := by rw [← Hx0.out]; exact HA.out.2 0 (by rw [Hn.out]; exact hn0)
    obtain ⟨buf, s, r, hcw, hsz, hget, hnx⟩ := chT_some HC.out (j := 0) (by rw [Hn.out]; exact hn0)
    rw [Hx0.out] at hget
    obtain ⟨W, HW⟩ : ∃ W, Hid (W = w.setChan c cap (buf.extract 1 buf.size) true s (r + 1) false) := ⟨_, rfl⟩
    have HC1 : Hid (ChT W c cap ts 1) := by show ChT _ _ _ _ _; rw [HW.out]; exact hnx _ _
    have HB1 : Hid (Below B w W) := by show Below _ _ _; rw [HW.out]; exact below_setChan (Below.refl _ _) hB _ _ _ _ _ _
    have Hcw := Lib.hid hcw
    have Hsz := Lib.hid hsz
    have Hget := Lib.hid hget
    clear hcw hsz hget hnx HC
    go_enter Try.func58, Try.ntmps58
    go_upto_region 1 with fail
    refine opsTo_region ?_
    show OpsTo _ _ _ [0, 1, 2, 3, 4, 5, 6] _ _
    refine opsTo_value rfl rfl rfl ?_
    refine opsTo_recv (c := c) (z := .int .i64 0) true rfl rfl (by simp [go_sem, execOp, rcase]) Hcw.out Hsz.out ?_
    refine opsTo_value rfl rfl rfl ?_
    refine opsTo_value rfl rfl rfl ?_
    refine opsTo_value rfl rfl rfl ?_
    refine opsTo_value rfl rfl rfl ?_
    refine opsTo_value rfl rfl rfl ?_
    refine opsTo_nil ?_
    rw [← HW.out, Hget.out]
    simp only [got, if_true]
    go_simp
    clear Hcw Hsz Hget HW
    go_wp2
    go_loopg [7, 8] (n - 1) (fun f a b wr => ∃ j x : Nat, j + 1 + f = n ∧ a = .int .i64 (mxG m ts j : Nat) ∧ b = .int .i64 x ∧ Hid (ts.getD j 0 = x) ∧ Hid (ChT wr c cap ts (j + 1)) ∧ Hid (Below B w wr))
    case atStart => exact ⟨0, x0, by omega, rfl, rfl, Hx0, HC1, HB1⟩
    case round =>
      clear HC1 HB1
      obtain ⟨j, x, hjn, rfl, rfl, Hx, HC, HB⟩ := hrel
      obtain ⟨g, Hg⟩ : ∃ g, Hid (mxG m ts j = g) := ⟨_, rfl⟩
      have hxm : x < m := by rw [← Hx.out]; exact HA.out.2 j (by rw [Hn.out]; omega)
      rw [Hg.out]
      by_cases hf : 0 < gk
      · obtain ⟨y, Hy⟩ : ∃ y : Nat, Hid (ts.getD (j + 1) 0 = y) := ⟨_, rfl⟩
        have hxy : x < y := by rw [← Hx.out, ← Hy.out]; exact HA.out.1 j (j + 1) (by omega) (by rw [Hn.out]; omega)
        have hym : y < m := by rw [← Hy.out]; exact HA.out.2 (j + 1) (by rw [Hn.out]; omega)
        have Hstep : Hid (((mxG m ts (j + 1) : Nat) : Int) = if (g : Int) < (y : Int) - (x : Int) then (y : Int) - (x : Int) else (g : Int)) := by
          show _ = _
          simp only [mxG]
          rw [Hg.out]
          unfold dG
          rw [if_pos (by rw [Hn.out]; omega), Hy.out, Hx.out]
          split <;> omega
        obtain ⟨buf, s, r, hcw, hsz, hget, hnx⟩ := chT_some HC.out (j := j + 1) (by rw [Hn.out]; omega)
        rw [Hy.out] at hget
        obtain ⟨W2, HW⟩ : ∃ W2, Hid (W2 = wr.setChan c cap (buf.extract 1 buf.size) true s (r + 1) false) := ⟨_, rfl⟩
        have HC2 : Hid (ChT W2 c cap ts (j + 1 + 1)) := by show ChT _ _ _ _ _; rw [HW.out]; exact hnx _ _
        have HB2 : Hid (Below B w W2) := by show Below _ _ _; rw [HW.out]; exact below_setChan HB.out hB _ _ _ _ _ _
        have Hcw := Lib.hid hcw
        have Hsz := Lib.hid hsz
        have Hget := Lib.hid hget
        have hwr : IntKind.i64.wrap ((y : Int) - (x : Int)) = (y : Int) - (x : Int) := IntWalk.i64_in _ (by omega)
        clear hcw hsz hget hnx HC HB
        go_upto_region 6 with fail
        refine opsTo_region ?_
        show OpsTo _ _ _ [0, 1] _ _
        refine opsTo_recv (c := c) (z := .int .i64 0) true rfl rfl (by simp [go_sem, execOp, rcase]) Hcw.out Hsz.out ?_
        refine opsTo_value rfl rfl rfl ?_
        refine opsTo_nil ?_
        rw [← HW.out, Hget.out]
        simp only [got, if_true]
        go_simp
        clear Hcw Hsz Hget HW
        go_wp2
        all_goals
          go_roundg (gk - 1)
          case rel => exact ⟨j + 1, y, by omega, by congr 1; rw [Hstep.out]; split <;> omega, rfl, Hy, HC2, HB2⟩
          case measure => omega
      · obtain rfl : gk = 0 := by omega
        obtain ⟨s, r, hcw⟩ := chT_none HC.out (by rw [Hn.out]; omega)
        have Hend : Hid (lgY m ts = if (g : Int) < (x0 : Int) + (m : Int) - (x : Int) then (x0 : Int) + (m : Int) - (x : Int) else (g : Int)) := by
          show _ = _
          unfold lgY
          rw [if_neg (by rw [Hn.out]; omega), Hn.out, ← hjn]
          show (((mxG m ts (j + 1) : Nat)) : Int) = _
          simp only [mxG]
          rw [Hg.out]
          unfold dG
          rw [if_neg (by rw [Hn.out]; omega), Hx0.out, Hx.out]
          split <;> omega
        have Hcw := Lib.hid hcw
        clear hcw HC
        go_upto_region 6 with fail
        refine opsTo_region ?_
        show OpsTo _ _ _ [0, 1] _ _
        refine opsTo_shut (c := c) (z := .int .i64 0) true rfl rfl (by simp [go_sem, execOp, rcase]) Hcw.out ?_
        refine opsTo_value rfl rfl rfl ?_
        refine opsTo_nil ?_
        simp only [got, if_true]
        go_simp
        clear Hcw
        go_wp2
        all_goals
          go_ret
          exact ⟨ret_int (by rw [Hend.out]; split <;> omega), HB⟩
end Go.Proofs.Ytdkonaaoanggiaa
