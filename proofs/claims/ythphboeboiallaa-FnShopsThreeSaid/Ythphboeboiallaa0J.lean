/-
  housesOf and shopsAway of the program, walked.
  Conditions: at most nine houses and four shops.
-/
import Derived.Test.Ythphboeboiallaa0H
namespace Go.Proofs.Ythphboeboiallaa
open Go.ChangeShapes Go.WideShapes Go.ChangeAt Go.RowKit Go.Maps
set_option linter.unusedVariables false
set_option maxRecDepth 4000

def HsRel (n mb : Nat) (w : World) (i : Value) (wr : World) : Prop := ∃ k : Nat, k ≤ n ∧ i = .int .i64 k ∧ Hid (SetQ wr mb k n (fun x => decide (x < k))) ∧ Hid (Below w.heap.size w wr)
def HsPost (n : Nat) (w : World) (e : Ending) (w' : World) : Prop := ∃ mb, e = .returned (.map (some mb)) ∧ Hid (w.heap.size ≤ mb) ∧ Hid (SetQ w' mb n n (fun _ => true)) ∧ Hid (Below w.heap.size w w')
theorem setQ_made (w : World) (n : Nat) : SetQ (w.alloc (.map #[] 0)) w.heap.size 0 n (fun x => decide (x < 0)) :=
  ⟨.map [], World.ownsMap_made _ _ _ _, fun x hx => ⟨by simp [DataW.atKey], by simp [has]⟩, by rw [cntQ_all_no (fun x hx => by simp)]; rfl⟩
set_option maxHeartbeats 800000 in
theorem housesOf_any (n : Nat) (w : World) (hn : n ≤ 9) : Calls Try.prog 50 #[.int .i64 (n : Int)] w (HsPost n w) := by
  have hmm := @run_makeMap Try.prog
  have HS0 := Lib.hid (setQ_made w n)
  have HB0 : Hid (Below w.heap.size w (w.alloc (.map #[] 0))) := (Below.refl _ _).alloc (Nat.le_refl _) _
  have HA := Lib.hid (fun (k : Nat) (W : World) (hk : k < n) (h : SetQ W w.heap.size k n (fun x => decide (x < k))) => add_any W h hk hn (by simp) (by omega))
  go_enter Try.func50, Try.ntmps50
  go_wp2
  go_loopw [7] (fun i wr => HsRel n w.heap.size w i wr) (fun i _ => n - (intOf i).toNat)
  case atStart => exact ⟨0, Nat.zero_le _, rfl, HS0, HB0⟩
  case round =>
    clear HS0 HB0
    obtain ⟨k, hk, rfl, HS, HB⟩ := hrel
    by_cases hlt : k < n
    · go_wp2_with fail
      refine (HA.out k wr hlt HS.out).mono ?_
      rintro e w2 ⟨rfl, hs2, hg2⟩
      have HS2 : Hid (SetQ w2 w.heap.size (k + 1) n (fun x => decide (x < k + 1))) := hs2.congr fun x hx => by
        show setQ _ _ _ _ = _
        unfold setQ
        by_cases e : x = k
        · simp [e]
        · simp only [e, if_false]; rw [decide_eq_decide]; omega
      have HB2 : Hid (Below w.heap.size w w2) := HB.out.grown hg2 HB.out.size (fun j hj => by injection hj with hj; omega)
      clear hs2 hg2
      go_wp2
      go_roundw
      case rel => exact ⟨k + 1, by omega, by go_num, HS2, HB2⟩
      case measure => simp [intOf]; omega
    · obtain rfl : k = n := by omega
      have HS2 : Hid (SetQ wr w.heap.size k k (fun _ => true)) := HS.out.congr fun x hx => by simp [hx]
      go_wp2
      go_ret
      exact ⟨_, rfl, Nat.le_refl _, HS2, HB⟩

theorem distQ (a b : Nat) (w : World) (ha : a ≤ 100) (hb : b ≤ 100) :
    Calls Try.prog 67 #[.int .i64 (a : Int), .int .i64 (b : Int)] w fun e w' => e = .returned (.int .i64 ((gpS a b : Nat) : Int)) ∧ w = w' := by
  have h := distance_any (a : Int) (b : Int) w (by omega) (by omega) (by omega) (by omega)
  rw [gpS_int] at h
  exact h
theorem gapQ (a b : Nat) (w : World) (ha : a ≤ 100) (hb : b ≤ 100) :
    Calls Try.prog 69 #[.int .i64 (a : Int), .int .i64 (b : Int)] w fun e w' => e = .returned (.int .i64 ((gpS a b : Nat) : Int)) ∧ w = w' := by
  have h := gap_any (a : Int) (b : Int) w (by omega) (by omega) (by omega) (by omega)
  rw [gpS_int] at h
  exact h
/-- A place read out of a row. -/
theorem RdI.q {w : World} {B : Nat} {A : Option Addr} {ss : List Nat} (h : RdI w B A (cI ss)) {k : Nat} (hk : k < ss.length) :
    ∃ b off s, A = some ⟨b, off, none⟩ ∧ b < B ∧ Hid (ss.getD k 0 = s) ∧ w.cell? ⟨b, off + k, none⟩ = some (.int .i64 ((s : Nat) : Int)) := by
  obtain ⟨b, off, e, hb, hc⟩ := h.at_ (k := k) (by rw [cI_length]; exact hk)
  rw [cI_getD] at hc
  exact ⟨b, off, _, e, hb, rfl, hc⟩
def AwRel (ss : List Nat) (h far m B : Nat) (w : World) (o i : Value) (wr : World) : Prop :=
  ∃ k g c L : Nat, k ≤ m ∧ L ≤ k ∧ o = .slice (some ⟨g, 0, none⟩) L c ∧ i = .int .i64 k ∧ Hid (OwnQ wr B g c L (cI (awK ss h far k))) ∧ Hid (Below w.heap.size w wr)
set_option maxHeartbeats 1600000 in
theorem shopsAway_any (A : Option Addr) (c m : Nat) (ss : List Nat) (h far : Nat) (w : World) (B : Nat) (hB : B ≤ w.heap.size) (hr : RdI w B A (cI ss)) (hm : ss.length = m) (hm4 : m ≤ 100) (hss : ∀ s ∈ ss, s ≤ 100) (hh : h ≤ 100) (hf : far ≤ 100) :
    Calls Try.prog 51 #[.slice A m c, .int .i64 (h : Int), .int .i64 (far : Int)] w (RowQ (cI (awS ss h far)) w) := by
  obtain ⟨i0, hi0, hz0, hz1, hz2⟩ := info_parts intInfo
  have Hm := Lib.hid hm
  have Hr := Lib.hid hr
  have HD := Lib.hid (fun (k : Nat) (W : World) (hk : k < ss.length) => distQ (ss.getD k 0) h W (hss _ (getDN_mem hk)) hh)
  have HE : Hid (awS ss h far = awK ss h far m) := by show _ = _; rw [← hm]; rfl
  have HO0 : Hid (OwnQ (w.alloc (.cells #[] 3)) w.heap.size w.heap.size 0 0 (cI (awK ss h far 0))) := ⟨rfl, World.ownsRow_lit w #[] 0 (Nat.le_refl _) (by decide) rfl⟩
  have HB0 : Hid (Below w.heap.size w (w.alloc (.cells #[] 3))) := (Below.refl _ _).alloc (Nat.le_refl _) _
  clear hm hr hss
  rw [HE.out]
  go_enter Try.func51, Try.ntmps51
  go_wp2
  go_loopw [7, 13] (fun o i wr => AwRel ss h far m w.heap.size w o i wr) (fun _ i _ => m - (intOf i).toNat)
  case atStart => exact ⟨0, _, _, 0, by omega, by omega, rfl, rfl, HO0, HB0⟩
  case round =>
    clear HO0 HB0
    obtain ⟨k, g, c1, L, hk, hLk, rfl, rfl, HO, HB⟩ := hrel
    by_cases hlt : k < m
    · obtain ⟨b, off, s, rfl, hbw, Hs, hc⟩ := ((Hr.out.more hB).below HB.out).q (k := k) (by rw [Hm.out]; exact hlt)
      have HDk := Lib.hid (HD.out k wr (by rw [Hm.out]; exact hlt))
      have HT := Lib.hid (awK_succ ss h far k)
      rw [Hs.out] at HDk HT
      obtain ⟨d, Hd⟩ : ∃ d, Hid (gpS s h = d) := ⟨_, rfl⟩
      rw [Hd.out] at HDk HT
      go_wp2_with fail
      refine HDk.out.mono ?_
      rintro e w2 ⟨rfl, rfl⟩
      by_cases he : d = far
      · have ht : ((d : Int) == (far : Int)) = true := by rw [beq_iff_eq]; omega
        have HT2 : Hid (cI (awK ss h far (k + 1)) = cI (awK ss h far k) ++ [(k : Int)]) := by show _ = _; rw [HT.out, if_pos he, cI_append]; rfl
        have Hlen := Lib.hid HO.out.1
        have Hown := Lib.hid HO.out.2
        have hsz : L + 1 ≤ maxLen := by unfold maxLen; omega
        have hsz2 : (L + 1) * 8 ≤ 140737488355328 := by omega
        have hsz3 : w.heap.size ≤ (wr.alloc (.cells #[.int .i64 k] 3)).heap.size := by rw [size_alloc1]; have := HB.out.size; omega
        clear he HT HDk
        go_wp2_with (at_builtin; refine wpList_append_lies _ rfl _ _ 23 rfl w.heap.size 3 i0 _ 1 8 Try.underlying23 hi0 hz0 hz1 hz2 rfl (by decide) _ _ _ rfl (Hown.out.alloc _) ⟨wr.heap.size, 0, none⟩ 1 1 [.int .i64 k] rfl rfl (cell_one_new _ _ _) (by intro u hu; simp at hu; subst hu; rfl) (by decide) hsz hsz2 hsz3 _ rfl ?_; intro g3 c3 w4 hown4 hgrow4 hat4 hlt4)
        have HO4 : Hid (OwnQ w4 w.heap.size g3 c3 (L + 1) (cI (awK ss h far (k + 1)))) := by show OwnQ _ _ _ _ _ _; rw [HT2.out]; exact ownQ_push Hlen.out hown4
        have HB4 : Hid (Below w.heap.size w w4) := (HB.out.alloc HB.out.size _).grown hgrow4 hsz3 (fun q hq => (Hown.out.lt q hq).1)
        clear hown4 hgrow4 hat4 hlt4 Hown HO hsz hsz2 hsz3
        go_wp2
        go_roundw
        case rel => exact ⟨k + 1, g3, c3, L + 1, by omega, by omega, rfl, by go_num, HO4, HB4⟩
        case measure => simp [intOf]; omega
      · have ht : ((d : Int) == (far : Int)) = false := by rw [beq_eq_false_iff_ne]; omega
        have HO2 : Hid (OwnQ wr w.heap.size g c1 L (cI (awK ss h far (k + 1)))) := by show OwnQ _ _ _ _ _ _; rw [HT.out, if_neg he, List.append_nil]; exact HO.out
        clear he HT HDk
        go_wp2
        go_roundw
        case rel => exact ⟨k + 1, g, c1, L, by omega, by omega, rfl, by go_num, HO2, HB⟩
        case measure => simp [intOf]; omega
    · obtain rfl : k = m := by omega
      have HX := Lib.hid (HO.out.row (Nat.le_refl _) HB.out)
      go_wp2
      go_ret
      exact HX.out
end Go.Proofs.Ythphboeboiallaa
