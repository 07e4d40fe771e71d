/-
  gapsOfTwo: the longest gap of each spot, as a row of the call's own; the greatest one of a row of gaps.
  Conditions: at most 8 spots, a round of 1 to 20 times, at most 20 times behind.
-/
import Derived.Test.YtdkonaaoanggiaaYE
import Derived.Test.YtdkonaaoanggiaaUT
import Derived.Test.YtdkonaaoanggiaaMQ
import Derived.Test.YtdkonaaoanggiaaNI
namespace Go.Proofs.Ytdkonaaoanggiaa
open Go.ChangeShapes Go.WideShapes Go.ChangeAt Go.RowKit
set_option linter.unusedVariables false
set_option maxRecDepth 4000

/-- A row of ints of the call's own. -/
def RowIs (xs : List Int) (w : World) (e : Ending) (w' : World) : Prop :=
  ∃ A' c', e = .returned (.slice A' xs.length c') ∧ Hid (w'.ownsRow w.heap.size 3 1 (.slice A' xs.length c') xs.length (xs.map (Value.int .i64))) ∧ Hid (Below w.heap.size w w')
def GapRel (n l : Nat) (zs : List Int) (w : World) (i : Value) (wr : World) : Prop :=
  ∃ k : Nat, k ≤ n ∧ i = .int .i64 k ∧ Hid (wr.ownsRow w.heap.size 3 1 (.slice (some ⟨w.heap.size, 0, none⟩) n n) n (((gpY n zs l).take k).map (Value.int .i64) ++ List.replicate (n - k) (Value.int .i64 0))) ∧ Hid (Below w.heap.size w wr)

set_option maxHeartbeats 1600000 in
theorem gapsOfTwo_any (A : Option Addr) (c m n l : Nat) (zs : List Int) (w : World) (hr : RdI w w.heap.size A zs) (hn : zs.length = m) (hm : 1 ≤ m) (hm2 : m ≤ 20) (hl : l ≤ 20) (h8 : n ≤ 8) :
    Calls Try.prog 50 #[.int .i64 n, .slice A m c, .int .i64 l] w (RowIs (gpY n zs l) w) := by
  obtain ⟨i0, hi0, hz0, hz1, hz2⟩ := info_parts intInfo
  have Hn := Lib.hid hn
  have HR := Lib.hid hr
  have Hgl := Lib.hid (gpY_len n zs l)
  clear hn hr
  go_enter Try.func50, Try.ntmps50
  go_wp2_with (at_make; refine wpList_make_full _ rfl _ _ 23 rfl w.heap.size 3 i0 _ 1 Try.underlying23 hi0 hz0 hz1 _ _ _ _ n rfl rfl rfl rfl (by rw [hz2]; omega) (by unfold maxLen; omega) (Nat.le_refl _) ?_; intro w1 hown1 hg1)
  have HB1 : Hid (Below w.heap.size w w1) := (Below.refl _ _).grown hg1 (Nat.le_refl _) (fun j hj => by cases hj)
  rw [made_ints] at hown1
  have HO1 : Hid (w1.ownsRow w.heap.size 3 1 (.slice (some ⟨w.heap.size, 0, none⟩) n n) n (((gpY n zs l).take 0).map (Value.int .i64) ++ List.replicate (n - 0) (Value.int .i64 0))) := by show World.ownsRow _ _ _ _ _ _ _; simpa using hown1
  clear hown1 hg1
  go_loopw [12] (fun i wr => GapRel n l zs w i wr) (fun i _ => n - (intOf i).toNat)
  case atStart => exact ⟨0, Nat.zero_le _, rfl, HO1, HB1⟩
  case round =>
    clear HO1 HB1
    obtain ⟨k, hk, rfl, HO, HB⟩ := hrel
    by_cases hlt : k < n
    · obtain ⟨v, Hv⟩ : ∃ v, Hid ((gpY n zs l).getD k 0 = v) := ⟨_, rfl⟩
      have Hlg : Hid (lgY m (tmY zs l (k : Int) m) = v) := by show _ = _; rw [← Hv.out, gpY_at hlt, Hn.out]
      have hsz := HB.out.size
      go_wp2_with fail
      refine (visitTimes_any A c m l k zs wr ((HR.out.below HB.out).more hsz) Hn.out hm hm2 hl).mono ?_
      rintro e w2 ⟨rfl, HC2, HB2⟩
      have HC3 : Hid (ChT w2 wr.heap.size m (tmY zs l (k : Int) m) 0) := by
        have h := HC2.out
        rw [Hn.out] at h
        exact h
      clear HC2
      go_wp2_with fail
      refine (longestGap_any wr.heap.size m m wr.heap.size (tmY zs l (k : Int) m) w2 HC3.out (tmY_asc _ _ _ _) hm2 (Nat.le_refl _)).mono ?_
      rintro e w3 ⟨rfl, HB3⟩
      have HBr : Hid (Below wr.heap.size wr w3) := HB2.out.trans HB3.out
      have HB4 : Hid (Below w.heap.size w w3) := HB.out.trans (HBr.out.mono hsz)
      have hown := ownN_below HO.out HBr.out
      rw [Hlg.out]
      have hst := toI_step Hgl.out hlt hown
      rw [Hv.out] at hst
      have hcell : ∃ u, w3.cell? ⟨w.heap.size, k, none⟩ = some u := by
        rw [hown.cellAt k (by omega)]
        exact ⟨_, List.getElem?_eq_getElem (by simp [Hgl.out]; omega)⟩
      obtain ⟨u, hu⟩ := hcell
      have hfz := hown.frozenAt k
      have Hst := Lib.hid hst
      clear hst hown HB2 HB3 HC3 HO HB HBr Hlg
      go_wp2
      go_roundw
      case rel => exact ⟨k + 1, by omega, by go_num, Hst, HB4.out.setCell (Nat.le_refl _) _⟩
      case measure => simp [intOf]; omega
    · have hkn : k = n := by omega
      have hnn : n - k = 0 := by omega
      have hown := HO.out
      rw [hnn, List.take_of_length_le (by rw [Hgl.out]; omega)] at hown
      simp only [List.replicate_zero, List.append_nil] at hown
      have HE : Hid (RowIs (gpY n zs l) w (.returned (.slice (some ⟨w.heap.size, 0, none⟩) n n)) wr) := ⟨_, _, by rw [Hgl.out], by rw [Hgl.out]; exact hown, HB⟩
      clear hown hnn hkn HO
      go_wp2
      go_ret
      exact HE.out

/-! ### the greatest gap -/
def IdxIs (zs : List Int) (y : Int) (w : World) (e : Ending) (w' : World) : Prop := ∃ r : Int, e = .returned (.int .i64 r) ∧ (hasB zs y = true → 0 ≤ r) ∧ (hasB zs y = false → r < 0) ∧ w = w'
set_option maxHeartbeats 800000 in
theorem indexI_any (A : Option Addr) (c n : Nat) (zs : List Int) (y : Int) (w : World) (B : Nat) (hr : RdI w B A zs) (hn : zs.length = n) (hb : n ≤ 1048576) :
    Calls Try.prog 62 #[.slice A n c, .int .i64 y] w (IdxIs zs y w) := by
  have Hn := Lib.hid hn
  clear hn
  go_enter Try.func62, Try.ntmps62
  go_wp2
  go_loop [8] (fun i => ∃ k : Nat, k ≤ n ∧ Hid (y ∉ zs.take k) ∧ i = .int .i64 k) (fun i => n - (intOf i).toNat)
  case atStart => exact ⟨0, Nat.zero_le _, (by show y ∉ zs.take 0; simp), rfl⟩
  case round =>
    obtain ⟨k, hk, Hy, rfl⟩ := hrel
    by_cases hlt : k < n
    · obtain ⟨b, off, x, rfl, hbw, Hx, hc⟩ := hr.x (k := k) (by rw [Hn.out]; exact hlt)
      by_cases he : x = y
      · subst he
        have Hs := Lib.hid (isIn_yes (by rw [Hn.out]; exact hlt) Hx.out)
        have hb1 : (x == x) = true := by simp
        go_wp2
        go_ret
        exact ⟨_, rfl, fun _ => by omega, fun h => absurd (Hs.out.symm.trans h) (by decide), rfl⟩
      · have hb1 : (y == x) = false := by rw [beq_eq_false_iff_ne]; exact fun e => he e.symm
        have Hs := Lib.hid (isIn_step (by rw [Hn.out]; exact hlt) Hx.out Hy.out he)
        clear he
        go_wp2
        go_round
        case rel => exact ⟨k + 1, by omega, Hs, by go_num⟩
        case measure => simp [intOf]; omega
    · have Hs := Lib.hid (isIn_no (by rw [Hn.out]; omega) Hy.out)
      go_wp2
      go_ret
      exact ⟨_, rfl, fun h => absurd (Hs.out.symm.trans h) (by decide), fun _ => by omega, rfl⟩
theorem containsI_any (A : Option Addr) (c n : Nat) (zs : List Int) (y : Int) (w : World) (B : Nat) (hr : RdI w B A zs) (hn : zs.length = n) (hb : n ≤ 1048576) :
    Calls Try.prog 60 #[.slice A n c, .int .i64 y] w fun e w' => e = .returned (.bool (hasB zs y)) ∧ w = w' := by
  have H := Lib.hid (indexI_any A c n zs y w B hr hn hb)
  clear hn hr
  go_enter Try.func60, Try.ntmps60
  go_wp2_with fail
  refine H.out.mono ?_
  rintro e w' ⟨r, rfl, h1, h2, rfl⟩
  by_cases hf : hasB zs y = true
  · have hr0 := h1 hf
    have Hf := Lib.hid hf
    clear h1 h2 hf
    go_wp2
    go_ret
    exact ⟨ret_bool (by rw [Hf.out]; try (simp <;> omega)), rfl⟩
  · have hf' : hasB zs y = false := by simpa using hf
    have hr0 := h2 hf'
    have Hf := Lib.hid hf'
    clear h1 h2 hf hf'
    go_wp2
    go_ret
    exact ⟨ret_bool (by rw [Hf.out]; try (simp <;> omega)), rfl⟩
set_option maxHeartbeats 800000 in
theorem maxI_any (A : Option Addr) (c n : Nat) (zs : List Int) (w : World) (B : Nat) (hr : RdI w B A zs) (hn : zs.length = n) (h1 : 1 ≤ n) (hb : n ≤ 1048576) (h0 : 0 ≤ zs.getD 0 0) :
    Calls Try.prog 61 #[.slice A n c] w fun e w' => e = .returned (.int .i64 (mxI zs n)) ∧ w = w' := by
  have Hn := Lib.hid hn
  have HR := Lib.hid hr
  clear hn
  obtain ⟨b, off, x, rfl, hbw, Hx, hc⟩ := hr.x (k := 0) (by rw [Hn.out]; omega)
  rw [Nat.add_zero] at hc
  have HS : Hid (mxI zs 1 = x) := by show _ = _; simp only [mxI]; rw [Hx.out] at h0 ⊢; omega
  clear hr h0
  go_enter Try.func61, Try.ntmps61
  go_wp2
  go_loop [3, 4] (fun a i => ∃ k : Nat, ∃ g : Int, 1 ≤ k ∧ k ≤ n ∧ a = .int .i64 g ∧ Hid (mxI zs k = g) ∧ i = .int .i64 k) (fun _ i => n - (intOf i).toNat)
  case atStart => exact ⟨1, x, by omega, h1, rfl, HS, rfl⟩
  case round =>
    obtain ⟨k, g, hk1, hk, rfl, Hg, rfl⟩ := hrel
    by_cases hlt : k < n
    · obtain ⟨b', off', y, he, -, Hy, hcy⟩ := HR.out.x (k := k) (by rw [Hn.out]; exact hlt)
      injection he with he
      injection he with he1 he2
      subst he1 he2
      have Hs : Hid (mxI zs (k + 1) = if g < y then y else g) := by show _ = _; simp only [mxI]; rw [Hg.out, Hy.out]; split <;> omega
      go_wp2
      all_goals
        go_round
        case rel => exact ⟨k + 1, _, by omega, by omega, rfl, by show _ = _; rw [Hs.out]; try (split <;> omega), by go_num⟩
        case measure => simp [intOf]; omega
    · obtain rfl : k = n := by omega
      go_wp2
      go_ret
      exact ⟨ret_int Hg.out.symm, rfl⟩
/-- worstOf of the gaps of a round. -/
theorem worstOf_any (A : Option Addr) (c n : Nat) (gs : List Int) (w : World) (B : Nat) (hr : RdI w B A gs) (hn : gs.length = n) (h1 : 1 ≤ n) (hb : n ≤ 1048576) (h0 : gs.getD 0 0 = -1 ∨ 0 ≤ gs.getD 0 0) :
    Calls Try.prog 52 #[.slice A n c] w fun e w' => e = .returned (.int .i64 (wrY gs)) ∧ w = w' := by
  have H1 := Lib.hid (containsI_any A c n gs (-1) w B hr hn hb)
  by_cases hf : hasB gs (-1) = true
  · rw [hf] at H1
    have HE : Hid (wrY gs = -1) := wrY_no (by unfold hasB at hf; simpa using hf)
    clear hf h0 hr hn
    go_enter Try.func52, Try.ntmps52
    go_wp2_with fail
    refine H1.out.mono ?_
    rintro e w' ⟨rfl, rfl⟩
    go_wp2
    go_ret
    exact ⟨ret_int HE.out.symm, rfl⟩
  · have hf' : hasB gs (-1) = false := by simpa using hf
    rw [hf'] at H1
    have hni : ¬ -1 ∈ gs := by unfold hasB at hf; simpa using hf
    have HE : Hid (wrY gs = mxI gs n) := by show _ = _; rw [wrY_yes hni, hn]
    have H2 := Lib.hid (maxI_any A c n gs w B hr hn h1 hb (by
      rcases h0 with h | h
      · refine absurd ?_ hni
        rw [← h]
        simp [List.getD, List.getElem?_eq_getElem (show 0 < gs.length by omega)]
      · exact h))
    clear hf hf' h0 hr hn hni
    go_enter Try.func52, Try.ntmps52
    go_wp2_with fail
    refine H1.out.mono ?_
    rintro e w' ⟨rfl, rfl⟩
    go_wp2_with fail
    refine H2.out.mono ?_
    rintro e w' ⟨rfl, rfl⟩
    go_wp2
    go_ret
    exact ⟨ret_int HE.out.symm, rfl⟩
end Go.Proofs.Ytdkonaaoanggiaa
