/-
  MostTaken of the model, walked: as many calls are taken as the sets of helpers block at least.
  Conditions: fewer than 2^60 numbers and calls.
-/
import Derived.Test.YtakljcpneghgnaaV9
namespace Go.Proofs.Ytakljcpneghgnaa
open Go.ChangeShapes Go.WideShapes Go.ChangeAt Go.RowKit
set_option linter.unusedVariables false
set_option maxRecDepth 4000

theorem boolInfoV : (Try.prog.info? 4).map (fun i => (i.zero, i.size, i.bytes)) = some (some (.bool false), 1, 1) := by kernel_rfl
theorem push_all {room : List Int} {wish : List (List Int)} {B H n : Nat} (hv : vroom room wish = true) (hH : room.length = H) (hn : wish.length = n) (f : Nat) : PushAt room wish B H n f := by
  induction f using Nat.strongRecOn with
  | ind f ih => exact push_step room wish B H n f hv hH hn ih
theorem mRow_snoc (M : Nat → Int) (n : Nat) : mRow M (n + 1) = mRow M n ++ [.int .i64 (M n)] := by
  unfold mRow
  rw [List.range_succ, List.map_append]; rfl
theorem bRow_none (H : Nat) : (madeCells (Value.bool false).cells H).toList = bRow (fun _ => false) H := by
  rw [show (Value.bool false).cells = #[Value.bool false] from rfl, toList_madeCells_one]
  unfold bRow
  apply List.ext_getElem?
  intro i
  by_cases hi : i < H <;> simp [hi]
theorem mRow_none (n : Nat) : mRow (fun _ => -1) n = List.replicate n (.int .i64 (-1)) := by
  unfold mRow
  apply List.ext_getElem?
  intro i
  by_cases hi : i < n <;> simp [hi]

set_option maxHeartbeats 1600000 in
theorem taken_any (A A' : Option Addr) (c c' H n : Nat) (room : List Int) (wish : List (List Int)) (w : World) (hr : RdI w w.heap.size A room) (hH : room.length = H) (hw : RdV w w.heap.size A' wish) (hn : wish.length = n) (hv : vroom room wish = true) :
    Calls Try.prog 53 #[.slice A H c, .slice A' n c'] w fun e w' => ∃ v M, e = .returned v ∧ w'.ownsRow w.heap.size 3 1 v n (mRow M n) ∧ Kpt (rR room) (mayW wish) (oW wish) H n n M ∧ Below w.heap.size w w' := by
  obtain ⟨i0, hi0, hz0, hz1, hz2⟩ := info_parts intInfo
  obtain ⟨ib, hib, hzb0, hzb1, hzb2⟩ := info_parts boolInfoV
  obtain ⟨h4, h7, hR, hW⟩ := (vroom_iff _ _).1 hv
  rw [hH] at h4 hR hW
  rw [hn] at h7 hW
  have Hpush := Lib.hid (push_all (B := w.heap.size) hv hH hn)
  have Hkz : Hid (Kpt (rR room) (mayW wish) (oW wish) H n 0 (fun _ => -1)) := kpt_zero fun h hh => (hR h hh).1
  have Hyes := Lib.hid (fun (i : Nat) (M M' : Nat → Int) (s : Nat → Bool) (hk : Kpt (rR room) (mayW wish) (oW wish) H n i M) (hi : i < n) (p : PuOk (rR room) (mayW wish) H n M M' i s) => kpt_yes (fun T j hj => by rw [← hn] at hj; exact oW_iff hv T j hj) hk hi p)
  have Hno := Lib.hid (fun (i : Nat) (M : Nat → Int) (s s' : Nat → Bool) (hk : Kpt (rR room) (mayW wish) (oW wish) H n i M) (hi : i < n) (h0 : ∀ x, ¬ s x = true) (p : PuNo (rR room) (mayW wish) H n M s s') (hx : ∀ x, mayW wish i x → s' x = true) => kpt_no (fun T j hj => by rw [← hn] at hj; exact oW_iff hv T j hj) (fun j x hj hm => by rw [← hn] at hj; rw [← hH]; exact mayW_lt hv j x hj hm) hk hi h0 p hx)
  have HO0 : Hid ((w.alloc (.cells #[] 3)).ownsRow w.heap.size 3 1 (.slice (some ⟨w.heap.size, 0, none⟩) 0 0) 0 (mRow (fun _ => -1) 0)) := World.ownsRow_lit w #[] 0 (Nat.le_refl _) (by decide) rfl
  have HB0 := Lib.hid ((Below.refl w.heap.size w).alloc (Nat.le_refl _) (.cells #[] 3))
  have Hr := Lib.hid hr
  have Hw := Lib.hid hw
  clear hr hH hw hn hv hR hW
  go_enter Try.func53, Try.ntmps53
  go_wp2
  go_loopw [5, 6] (fun v i wr => ∃ k : Nat, ∃ g cap, k ≤ n ∧ i = .int .i64 k ∧ v = .slice (some ⟨g, 0, none⟩) k cap ∧ Hid (wr.ownsRow w.heap.size 3 1 (.slice (some ⟨g, 0, none⟩) k cap) k (mRow (fun _ => -1) k)) ∧ Hid (Below w.heap.size w wr)) (fun _ i _ => n - (intOf i).toNat)
  case atStart => exact ⟨0, _, _, Nat.zero_le _, rfl, rfl, HO0, HB0⟩
  case round =>
    clear HO0 HB0
    obtain ⟨k, g, cap, hk, rfl, rfl, HO, HB⟩ := hrel
    by_cases hlk : k < n
    · have hs1 : k + 1 ≤ maxLen := by unfold maxLen; omega
      have hs2 : (k + 1) * 8 ≤ 140737488355328 := by omega
      have hsz2 : ∀ o, w.heap.size ≤ (wr.alloc o).heap.size := fun o => by rw [size_alloc1]; have := HB.out.size; omega
      have Hsz2 := Lib.hid hsz2
      clear hsz2
      go_wp2_with (
        at_builtin
        refine wpList_append_own _ rfl _ _ 23 rfl w.heap.size 3 i0 (.int .i64 0) 1 8 Try.underlying23 hi0 hz0 hz1 hz2 rfl (by decide) _ _ _ rfl (HO.out.alloc _) ⟨_, 0, none⟩ 1 1 [.int .i64 (-1)] rfl rfl (cell_one_new _ _ _) (by intro u hu; simp at hu; subst hu; rfl) hs1 hs2 (Hsz2.out _) ?_
        intro v3 w3 hown3 hg3 hloc
        clear hloc
        have hB3 : Below w.heap.size w w3 := (HB.out.alloc HB.out.size _).grown hg3 (Hsz2.out _) (fun g h => (HO.out.lt g h).1)
        obtain ⟨g3, cap3, rfl, -, -⟩ := hown3.form (by omega)
        have HO3 : Hid (w3.ownsRow w.heap.size 3 1 (.slice (some ⟨g3, 0, none⟩) (k + 1) cap3) (k + 1) (mRow (fun _ => -1) (k + 1))) := by show _; rw [mRow_snoc]; exact hown3
        have HB3 := Lib.hid hB3
        clear hown3 hg3 hB3)
      go_roundw
      case rel => exact ⟨k + 1, g3, cap3, by omega, by go_num, rfl, HO3, HB3⟩
      case measure => simp [intOf]; omega
    · obtain rfl : k = n := by omega
      have hbi : ib.bytes * H ≤ 281474976710656 := by rw [hzb2]; omega
      have hml : H ≤ maxLen := by unfold maxLen; omega
      go_wp2
      go_loopw [5, 7] (fun v i wr => ∃ i' : Nat, ∃ g cap M, i' ≤ k ∧ i = .int .i64 i' ∧ v = .slice (some ⟨g, 0, none⟩) k cap ∧ k ≤ cap ∧ Hid (wr.ownsRow w.heap.size 3 1 (.slice (some ⟨g, 0, none⟩) k cap) k (mRow M k)) ∧ Hid (Kpt (rR room) (mayW wish) (oW wish) H k i' M) ∧ Hid (Below w.heap.size w wr)) (fun _ i _ => k - (intOf i).toNat)
      case atStart =>
        obtain ⟨_, c2, e, hcap, _, _⟩ := own_sliceN HO.out
        injection e with _ _ e3
        exact ⟨0, g, cap, _, Nat.zero_le _, rfl, rfl, by omega, HO, Hkz, HB⟩
      case round =>
        clear HO HB Hkz
        obtain ⟨i, g, cap, M, hi, rfl, rfl, hcap, HO, HK, HB⟩ := hrel
        by_cases hli : i < k
        · have hsz := HB.out.size
          go_wp2_with (
            at_make
            refine wpList_make_full _ rfl _ _ 80 rfl wr.heap.size 4 ib _ 1 Try.underlying80 hib hzb0 hzb1 _ _ _ _ H rfl rfl rfl rfl hbi hml (Nat.le_refl _) ?_
            intro w1 hown1 hg1
            rw [Nat.mul_one, bRow_none] at hown1
            have hb1 : Below wr.heap.size wr w1 := (Below.refl _ _).grown hg1 (Nat.le_refl _) (fun j hj => by cases hj)
            have hgs := (hown1.lt wr.heap.size rfl).2
            have hOw := ownN_below HO.out hb1
            have hgh := (HO.out.lt g rfl)
            have hin := HB.out.trans (hb1.mono hsz)
            have hR1 := Hr.out.below hin
            have hW1 := Hw.out.below hin
            have hHas : HasR w1 g k M := ⟨Nat.lt_of_lt_of_le hgh.2 hb1.size, fun j hj => (hOw.cellAt j (by omega)).trans (mRow_get M hj)⟩
            have Hpu := Lib.hid (Hpush.out (unS (fun _ => false) H) _ _ c c' g cap wr.heap.size i M (fun _ => false) w1 hR1 hW1 hsz hHas (by omega) hli hcap (Nat.le_refl _) (ownG_base hown1 hsz) HK.out.giv (.inl (HK.out.rest i hli (Nat.le_refl _))))
            have HIN := Lib.hid hin
            have HOW := Lib.hid hOw
            have Hgs : Hid (g < wr.heap.size ∧ wr.heap.size < w1.heap.size) := ⟨hgh.2, hgs⟩
            clear hown1 hg1 hb1 hgs hOw hgh hin hR1 hW1 hHas)
          refine Hpu.out.mono ?_
          rintro e w2 ⟨s', -, hgb, hcase⟩
          have HB2 := Lib.hid (HIN.out.trans (gb_below hgb hsz (Nat.le_of_lt Hgs.out.2)))
          rcases hcase with ⟨v, M', rfl, hown, hok⟩ | ⟨rfl, hno, hall⟩
          · obtain ⟨A2, cap2, rfl, hc2, -, hA2⟩ := own_sliceN hown
            obtain ⟨g2, rfl, -, -⟩ := hA2 (by omega)
            have HO2 := Lib.hid (ownG_base hown HIN.out.size)
            have HK2 := Lib.hid (Hyes.out i M M' _ HK.out hli hok)
            clear hown hok hgb hA2
            go_wp2
            go_roundw
            case rel => exact ⟨i + 1, g2, cap2, M', by omega, by go_num, rfl, hc2, HO2, HK2, HB2⟩
            case measure => simp [intOf]; omega
          · have HO2 := Lib.hid (HOW.out.kept hgb (.inr (fun e => by have h1 := Hgs.out.1; simp [Value.ownBlock] at e; omega)))
            have HK2 := Lib.hid (Hno.out i M _ s' HK.out hli (fun x h => by cases h) hno hall)
            clear hno hall hgb
            go_wp2
            go_roundw
            case rel => exact ⟨i + 1, g, cap, M, by omega, by go_num, rfl, hcap, HO2, HK2, HB2⟩
            case measure => simp [intOf]; omega
        · obtain rfl : i = k := by omega
          go_wp2
          go_ret
          exact ⟨_, M, rfl, HO.out, HK.out, HB.out⟩
/-- How many of the first calls have a helper. -/
theorem tknM_step (M : Nat → Int) (k : Nat) : tknM M (k + 1) = tknM M k + (if 0 ≤ M k then 1 else 0) := rfl
set_option maxHeartbeats 1600000 in
theorem sMostTaken_any (A A' : Option Addr) (c c' H n : Nat) (room : List Int) (wish : List (List Int)) (w : World) (hr : RdI w w.heap.size A room) (hH : room.length = H) (hw : RdV w w.heap.size A' wish) (hn : wish.length = n) (hb : H ≤ 1152921504606846976) (hb2 : n ≤ 1152921504606846976) :
    Calls Try.prog 22 #[.slice A H c, .slice A' n c'] w fun e w' => e = .returned (.int .i64 (blv room wish)) ∧ Below w.heap.size w w' := by
  have H1 := Lib.hid (sRoom_in A A' c c' H n room wish w _ hr hH hw hn hb hb2)
  by_cases hv : vroom room wish = true
  · have Ht : Hid (∀ q, Calls Try.prog 53 #[.slice A H c, .slice A' n c'] (w.drewN q) fun e w' => ∃ v M, e = .returned v ∧ w'.ownsRow w.heap.size 3 1 v n (mRow M n) ∧ Kpt (rR room) (mayW wish) (oW wish) H n n M ∧ Below w.heap.size (w.drewN q) w') := fun q => taken_any A A' c c' H n room wish (w.drewN q) hr hH hw hn hv
    have h7 : n ≤ 7 := by have := ((vroom_iff _ _).1 hv).2.1; omega
    have Hend := Lib.hid (fun (M : Nat → Int) (hk : Kpt (rR room) (mayW wish) (oW wish) H n n M) => show blv room wish = ((tknM M n : Nat) : Int) by
      rw [kpt_end (fun T j hj => by rw [← hn] at hj; exact oW_iff hv T j hj) hk]
      unfold blv; rw [if_pos hv, hH, hn])
    rw [hv] at H1
    clear hr hH hw hn hv
    go_enter Try.func22, Try.ntmps22
    go_wp2_with fail
    refine H1.out.mono ?_
    rintro e w1 ⟨rfl, q1, rfl⟩
    go_wp2_with fail
    refine (Ht.out q1).mono ?_
    rintro e w2 ⟨v, M, rfl, hown, hk, hbl⟩
    obtain ⟨A2, cap2, rfl, hc2, -, hA2⟩ := own_sliceN hown
    have HO := Lib.hid hown
    have HB : Hid (Below w.heap.size w w2) := (below_drewN (Below.refl _ _) q1).trans hbl
    have Hs := Lib.hid (Hend.out M hk)
    have HA2 := Lib.hid hA2
    clear hown hk hbl hA2
    go_wp2
    have Hms : Hid (∀ k, tknM M k ≤ k) := fun k => by
      show tknM M k ≤ k
      induction k with
      | zero => exact Nat.le_refl _
      | succ k ih => rw [tknM_step]; split <;> omega
    go_loopw [6, 7] (fun a i wr => ∃ k q : Nat, k ≤ n ∧ i = .int .i64 k ∧ a = .int .i64 (tknM M k : Nat) ∧ wr = w2.drewN q) (fun _ i _ => n - (intOf i).toNat)
    case atStart => exact ⟨0, 0, Nat.zero_le _, rfl, rfl, rfl⟩
    case round =>
      obtain ⟨k, q, hk, rfl, rfl, rfl⟩ := hrel
      have hms := Hms.out k
      obtain ⟨a, Ha⟩ : ∃ a, Hid (tknM M k = a) := ⟨_, rfl⟩
      rw [Ha.out] at hms ⊢
      by_cases hlk : k < n
      · obtain ⟨g, rfl, -, -⟩ := HA2.out (by omega)
        have hcell : w2.cell? ⟨g, k, none⟩ = some (.int .i64 (M k)) := (HO.out.cellAt k (by omega)).trans (mRow_get M hlk)
        obtain ⟨x, Hx⟩ : ∃ x, Hid (M k = x) := ⟨_, rfl⟩
        rw [Hx.out] at hcell
        by_cases hx : 0 ≤ x
        · have Hn2 : Hid (tknM M (k + 1) = a + 1) := by show _ = _; rw [tknM_step, Ha.out, Hx.out, if_pos hx]
          have hdx : decide (x ≥ 0) = true := decide_eq_true hx
          go_wp2
          go_roundw
          case rel => exact ⟨k + 1, _, by omega, by go_num, by rw [Hn2.out]; go_num, rfl⟩
          case measure => simp [intOf]; omega
        · have Hn2 : Hid (tknM M (k + 1) = a) := by show _ = _; rw [tknM_step, Ha.out, Hx.out, if_neg hx]; rfl
          have hdx : decide (x ≥ 0) = false := decide_eq_false hx
          go_wp2
          go_roundw
          case rel => exact ⟨k + 1, _, by omega, by go_num, by rw [Hn2.out], rfl⟩
          case measure => simp [intOf]; omega
      · obtain rfl : k = n := by omega
        have Hae : Hid (blv room wish = ((a : Nat) : Int)) := by show _ = _; rw [Hs.out, Ha.out]
        go_wp2
        go_ret
        exact ⟨ret_int Hae.out.symm, below_drewN HB.out q⟩
  · have hv' : vroom room wish = false := by simpa using hv
    have Hs : Hid (blv room wish = -1) := by show _ = _; unfold blv; rw [if_neg hv]
    rw [hv'] at H1
    clear hv hv' hH hn hr hw
    go_enter Try.func22, Try.ntmps22
    go_wp2_with fail
    refine H1.out.mono ?_
    rintro e w1 ⟨rfl, q1, rfl⟩
    go_wp2
    go_ret
    exact ⟨ret_int Hs.out.symm, below_drewN (Below.refl _ _) q1⟩
end Go.Proofs.Ytakljcpneghgnaa
