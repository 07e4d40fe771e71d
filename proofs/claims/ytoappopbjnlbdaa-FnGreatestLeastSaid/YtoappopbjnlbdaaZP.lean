/-
  ValidWards, FewestWards, LeastGreatest, GreatestByParts and GreatestLeast of the model.
  Conditions: fewer than 2^20 numbers.
-/
import Derived.Test.YtoappopbjnlbdaaZO
namespace Go.Proofs.Ytoappopbjnlbdaa
open Go.ChangeShapes Go.WideShapes Go.ChangeAt Go.RowKit
set_option linter.unusedVariables false
set_option maxRecDepth 4000

set_option maxHeartbeats 800000 in
theorem sValidWards_in (A : Option Addr) (c n : Nat) (zs : List Int) (w : World) (h : LIn w A c n zs) :
    Calls Try.prog 45 #[.slice A n c] w fun e w' => e = .returned (.bool (vw zs)) ∧ w = w' := by
  have Hn := Lib.hid h.len
  have HR := Lib.hid h.rd
  have hm := h.most
  clear h
  go_enter Try.func45, Try.ntmps45
  go_wp2
  go_loop [3] (fun i => ∃ k : Nat, k ≤ n ∧ i = .int .i64 k ∧ Hid (FineTo zs k)) (fun i => n - (intOf i).toNat)
  case atStart => exact ⟨0, by omega, rfl, fun i hi => by omega⟩
  case round =>
    obtain ⟨k, hk, rfl, Ho⟩ := hrel
    by_cases hlt : k < n
    · obtain ⟨b, off, x, rfl, -, Hx, hcx⟩ := HR.out.x (k := k) (by rw [Hn.out]; omega)
      by_cases h1 : x < 0 ∨ 20 < x
      · have Hs := Lib.hid (show vw zs = false by unfold vw; rw [okF_no (by rw [Hn.out]; exact hlt) Hx.out h1]; simp)
        go_wp2_with fail
        refine (inRange_no _ _ _ w h1).mono ?_
        rintro e w' ⟨rfl, rfl⟩
        go_wp2
        go_ret
        exact ⟨ret_bool Hs.out.symm, rfl⟩
      · have Hs := Lib.hid (Ho.out.step Hx.out (by omega) (by omega))
        go_wp2_with fail
        refine (inRange_yes _ _ _ w (by omega) (by omega)).mono ?_
        rintro e w' ⟨rfl, rfl⟩
        go_wp2
        go_round
        case rel => exact ⟨k + 1, by omega, by go_num, Hs⟩
        case measure => simp [intOf]; omega
    · have Hs := Lib.hid (Ho.out.end_ (by rw [Hn.out]; omega))
      have Hf : Hid ((decide (1 ≤ (n : Int)) && decide ((n : Int) ≤ 10)) = vw zs) := by
        show _ = _
        unfold vw; rw [Hs.out, Hn.out, Bool.and_true]
        congr 1
        · rw [decide_eq_decide]; omega
        · rw [decide_eq_decide]; omega
      go_wp2_with fail
      refine (inRange_any _ _ _ w).mono ?_
      rintro e w' ⟨rfl, rfl⟩
      go_wp2
      go_ret
      exact ⟨ret_bool (by rw [← Hf.out]), rfl⟩
theorem sValidWards_any (A : Option Addr) (c n : Nat) (zs : List Int) (w : World) (h : LIn w A c n zs) :
    Calls Try.prog 18 #[.slice A n c] w fun e w' => e = .returned (.bool (vw zs)) ∧ w = w' := by
  have H := Lib.hid (sValidWards_in A c n zs w h)
  clear h
  go_enter Try.func18, Try.ntmps18
  go_wp2_with fail
  refine H.out.mono ?_
  rintro e w' ⟨rfl, rfl⟩
  go_wp2
  go_ret
  exact ⟨rfl, rfl⟩

/-- Numbers of people. -/
def P20 (zs : List Int) : Prop := ∀ x, x ∈ zs → 0 ≤ x ∧ x ≤ 20
theorem P20.bd {zs : List Int} (h : P20 zs) (hl : zs.length ≤ 10) : 0 ≤ sm zs ∧ sm zs ≤ 200 := by
  refine ⟨sm_ge0 fun x hx => (h x hx).1, ?_⟩
  have := sm_le_mul (ds := zs) (u := 20) fun x hx => (h x hx).2
  omega
theorem P20.take {zs : List Int} (h : P20 zs) (k : Nat) : P20 (zs.take k) := fun x hx => h x (List.mem_of_mem_take hx)
theorem P20.drop {zs : List Int} (h : P20 zs) (k : Nat) : P20 (zs.drop k) := fun x hx => h x (List.mem_of_mem_drop hx)
set_option maxHeartbeats 800000 in
theorem sTotal_any (A : Option Addr) (c n : Nat) (zs : List Int) (w : World) (B : Nat) (hr : RdI w B A zs) (hn : zs.length = n) (h10 : n ≤ 10) (hz : P20 zs) :
    Calls Try.prog 67 #[.slice A n c] w fun e w' => e = .returned (.int .i64 (sm zs)) ∧ w = w' := by
  have Hn := Lib.hid hn
  have Hz := Lib.hid hz
  have HE : Hid (sm (zs.take n) = sm zs) := by show _ = _; rw [← hn, List.take_length]
  have HB : Hid (∀ k, k ≤ n → 0 ≤ sm (zs.take k) ∧ sm (zs.take k) ≤ 200) := fun k hk => (hz.take k).bd (by rw [List.length_take]; omega)
  clear hn hz
  go_enter Try.func67, Try.ntmps67
  go_wp2
  go_loop [3, 4] (fun a i => ∃ k : Nat, ∃ g : Int, k ≤ n ∧ a = .int .i64 g ∧ Hid (sm (zs.take k) = g) ∧ i = .int .i64 k) (fun _ i => n - (intOf i).toNat)
  case atStart => exact ⟨0, 0, Nat.zero_le _, rfl, by show _ = _; simp [sm], rfl⟩
  case round =>
    obtain ⟨k, g, hk, rfl, Hg, rfl⟩ := hrel
    by_cases hlt : k < n
    · obtain ⟨b, off, x, rfl, hbw, Hx, hc⟩ := hr.x (k := k) (by rw [Hn.out]; exact hlt)
      have h1 := HB.out k hk
      have h2 := Hz.out _ (getD_mem (zs := zs) (k := k) (by rw [Hn.out]; exact hlt))
      rw [Hx.out] at h2
      rw [Hg.out] at h1
      have Ha2 : Hid (sm (zs.take (k + 1)) = g + x) := by show _ = _; rw [take_snoc (by rw [Hn.out]; exact hlt), sm_app, sm_one, Hg.out, Hx.out]
      have hw : IntKind.i64.wrap (g + x) = g + x := IntWalk.i64_in _ (by omega)
      go_wp2
      go_round
      case rel => exact ⟨k + 1, g + x, by omega, rfl, Ha2, by go_num⟩
      case measure => simp [intOf]; omega
    · obtain rfl : k = n := by omega
      go_wp2
      go_ret
      exact ⟨ret_int (by rw [← HE.out]; exact Hg.out.symm), rfl⟩

theorem nwT_20 {m : Int} {zs : List Int} (hw : Wd zs) : ∀ k, k ≤ zs.length → nwT m zs k ≤ 20 * k
  | 0, _ => by simp [nwT]
  | k + 1, hk => by
    have h1 := nwT_20 (m := m) hw k (by omega)
    have h2 := hw.at_ (k := k) (by omega)
    by_cases h : m < nwT m zs k + zs.getD k 0
    · rw [nwT_cut h]; omega
    · rw [nwT_go h]; omega
set_option maxHeartbeats 1600000 in
theorem sFewest_in (A : Option Addr) (c n : Nat) (zs : List Int) (m : Int) (w : World) (B : Nat) (hr : RdI w B A zs) (hn : zs.length = n) (hw : Wd zs) (hm0 : 0 ≤ m) (hm1 : m ≤ 1000) :
    Calls Try.prog 50 #[.slice A n c, .int .i64 m] w fun e w' => e = .returned (.int .i64 (fwV zs m)) ∧ w = w' := by
  have Hn := Lib.hid hn
  have HW := Lib.hid hw
  have hn10 := hw.n10
  rw [hn] at hn10
  clear hn hw
  go_enter Try.func50, Try.ntmps50
  go_wp2
  go_loop [5, 6, 7] (fun o a i => ∃ k t : Nat, ∃ q : Int, k ≤ n ∧ t ≤ k ∧ o = .int .i64 ((t : Int) + 1) ∧ a = .int .i64 q ∧ i = .int .i64 k ∧ Hid (nwT m zs k = q) ∧ Hid ((ctT m zs k).length = t) ∧ Hid (∀ i, i < k → zs.getD i 0 ≤ m)) (fun _ _ i => n - (intOf i).toNat)
  case atStart => exact ⟨0, 0, 0, Nat.zero_le _, Nat.zero_le _, rfl, rfl, rfl, rfl, rfl, fun i hi => by omega⟩
  case round =>
    obtain ⟨k, t, q, hk, htk, rfl, rfl, rfl, Hq, Ht, Ha⟩ := hrel
    by_cases hlt : k < n
    · obtain ⟨b, off, x, rfl, -, Hx, hcx⟩ := hr.x (k := k) (by rw [Hn.out]; exact hlt)
      have hx := HW.out.at_ (k := k) (by rw [Hn.out]; exact hlt)
      have hq0 := nwT_ge0 (m := m) HW.out.ge0 k (by rw [Hn.out]; omega)
      have hq1 : nwT m zs k ≤ 20 * k := nwT_20 HW.out k (by rw [Hn.out]; omega)
      rw [Hx.out] at hx
      rw [Hq.out] at hq0 hq1
      have hqx : IntKind.i64.wrap (q + x) = q + x := IntWalk.i64_in _ (by omega)
      by_cases hbig : m < x
      · have HE : Hid (fwV zs m = -1) := by
          show _ = _
          unfold fwV
          rw [if_neg]
          intro hh
          have := hh _ (getD_mem (zs := zs) (k := k) (by rw [Hn.out]; exact hlt))
          rw [Hx.out] at this; omega
        go_wp2
        go_ret
        exact ⟨ret_int HE.out.symm, rfl⟩
      · have Ha2 : Hid (∀ i, i < k + 1 → zs.getD i 0 ≤ m) := fun i hi => by
          by_cases e : i = k
          · rw [e, Hx.out]; omega
          · exact Ha.out i (by omega)
        by_cases hcut : m < q + x
        · have hcut' : m < nwT m zs k + zs.getD k 0 := by rw [Hq.out, Hx.out]; exact hcut
          have HN : Hid (nwT m zs (k + 1) = x) := by show _ = _; rw [nwT_cut hcut', Hx.out]
          have HT : Hid ((ctT m zs (k + 1)).length = t + 1) := by show _ = _; rw [ctT_cut hcut', List.length_append, Ht.out]; rfl
          have hx0 : IntKind.i64.wrap (0 + x) = x := by rw [Int.zero_add]; exact IntWalk.i64_in _ (by omega)
          clear hcut'
          go_wp2
          go_round
          case rel => exact ⟨k + 1, t + 1, x, by omega, by omega, by go_num, by go_num, by go_num, HN, HT, Ha2⟩
          case measure => simp [intOf]; omega
        · have hcut' : ¬ m < nwT m zs k + zs.getD k 0 := by rw [Hq.out, Hx.out]; exact hcut
          have HN : Hid (nwT m zs (k + 1) = q + x) := by show _ = _; rw [nwT_go hcut', Hx.out, Hq.out]
          have HT : Hid ((ctT m zs (k + 1)).length = t) := by show _ = _; rw [ctT_go hcut', Ht.out]
          clear hcut'
          go_wp2
          go_round
          case rel => exact ⟨k + 1, t, q + x, by omega, by omega, rfl, rfl, by go_num, HN, HT, Ha2⟩
          case measure => simp [intOf]; omega
    · obtain rfl : k = n := by omega
      have HE : Hid (fwV zs m = (t : Int) + 1) := by
        show _ = _
        unfold fwV
        rw [if_pos, Hn.out, Ht.out]
        intro x hx
        obtain ⟨i, hi, rfl⟩ := List.getElem_of_mem hx
        have := Ha.out i (by rw [← Hn.out]; exact hi)
        simpa [List.getD, List.getElem?_eq_getElem hi] using this
      go_wp2
      go_ret
      exact ⟨ret_int HE.out.symm, rfl⟩
end Go.Proofs.Ytoappopbjnlbdaa
