/-
  visitTimes: the times at which one of two helpers is at a spot, sent into a channel that has room for all of them, which is closed then.
  Conditions: a round of 1 to 20 times, at most 20 times behind.
-/
import Derived.Test.YtdkonaaoanggiaaYC
import Derived.Test.YtdkonaaoanggiaaYB
namespace Go.Proofs.Ytdkonaaoanggiaa
open Go.ChangeShapes Go.WideShapes Go.ChangeAt Go.RowKit Go.Conc
set_option linter.unusedVariables false
set_option maxRecDepth 4000

theorem make_times (m : Nat) (hm : m ≤ 1000) (w : World) : (Instr.makeChan 58 (.int .i64 m)).run Try.prog w = .ok (.chan (some w.heap.size)) (w.alloc (.chan m #[] false 0 0 false)) := by
  obtain ⟨i, hi, -, -, hb⟩ := info_parts intInfo
  exact run_makeChan (P := Try.prog) (w := w) Try.underlying58 hi .i64 m (by omega) (by rw [hb]; omega)
def tmI (zs : List Int) (l : Nat) (s : Int) (k : Nat) : List Int := (tmY zs l s k).map (fun (t : Nat) => (t : Int))
/-- What visitTimes answers. -/
def TimesOf (zs : List Int) (l : Nat) (s : Int) (w : World) (e : Ending) (w' : World) : Prop :=
  e = .returned (.chan (some w.heap.size)) ∧ Hid (ChI w' w.heap.size zs.length (tmI zs l s zs.length) true) ∧ Hid (Below w.heap.size w w')
theorem tmI_yes {zs : List Int} {l k : Nat} {s : Int} (h : atY zs l s k = true) : tmI zs l s (k + 1) = tmI zs l s k ++ [(k : Int)] := by unfold tmI; rw [tmY_succ, if_pos h]; simp
theorem tmI_no {zs : List Int} {l k : Nat} {s : Int} (h : ¬ atY zs l s k = true) : tmI zs l s (k + 1) = tmI zs l s k := by unfold tmI; rw [tmY_succ, if_neg h]; simp
theorem tmI_len (zs : List Int) (l : Nat) (s : Int) (k : Nat) : (tmI zs l s k).length ≤ k := by
  unfold tmI tmY
  rw [List.length_map]
  have := List.length_filter_le (atY zs l s) (List.range k)
  rw [List.length_range] at this
  exact this

set_option maxHeartbeats 1600000 in
theorem visitTimes_any (A : Option Addr) (c m l : Nat) (s : Int) (zs : List Int) (w : World) (hr : RdI w w.heap.size A zs) (hn : zs.length = m) (hm : 1 ≤ m) (hm2 : m ≤ 20) (hl : l ≤ 20) :
    Calls Try.prog 59 #[.slice A m c, .int .i64 l, .int .i64 s] w (TimesOf zs l s w) := by
  have hmc := make_times m (by omega) w
  have Hn := Lib.hid hn
  have HR := Lib.hid hr
  have HC0 : Hid (ChI (w.alloc (.chan m #[] false 0 0 false)) w.heap.size m (tmI zs l s 0) false) := ⟨0, 0, heap_alloc_new _ _⟩
  have HB0 : Hid (Below w.heap.size w (w.alloc (.chan m #[] false 0 0 false))) := (Below.refl _ _).alloc (Nat.le_refl _) _
  clear hn hr
  go_enter Try.func59, Try.ntmps59
  go_wp2
  go_loopw [18] (fun i wr => ∃ k : Nat, k ≤ m ∧ i = .int .i64 k ∧ Hid (ChI wr w.heap.size m (tmI zs l s k) false) ∧ Hid (Below w.heap.size w wr)) (fun i _ => m - (intOf i).toNat)
  case atStart => exact ⟨0, by omega, rfl, HC0, HB0⟩
  case round =>
    clear HC0 HB0 hmc
    obtain ⟨k, hk, rfl, HC, HB⟩ := hrel
    by_cases hlt : k < m
    · obtain ⟨b, off, x, rfl, hbw, Hx, hcx⟩ := (HR.out.below HB.out).x (k := k) (by rw [Hn.out]; exact hlt)
      have hjm := bhI_lt (m := m) (l := l) (i := k) (by omega)
      obtain ⟨j, Hj⟩ : ∃ j, Hid (bhI m l k = j) := ⟨_, rfl⟩
      rw [Hj.out] at hjm
      obtain ⟨b', off', y, he, -, Hy, hcy⟩ := (HR.out.below HB.out).x (k := j) (by rw [Hn.out]; exact hjm)
      injection he with he
      injection he with he1 he2
      subst he1 he2
      obtain ⟨q, Hq⟩ : ∃ q, Hid (l % m = q) := ⟨_, rfl⟩
      have hqm : q < m := by rw [← Hq.out]; exact Nat.mod_lt _ (by omega)
      have t1 : (l : Int).tmod (m : Int) = (q : Int) := by rw [← Hq.out]; exact (Int.ofNat_tmod l m).symm
      have t2 : ((k : Int) + (m : Int) - (q : Int)).tmod (m : Int) = (j : Int) := by
        rw [← Hj.out]; unfold bhI; rw [Hq.out, show (k : Int) + (m : Int) - (q : Int) = ((k + m - q : Nat) : Int) by omega]; exact (Int.ofNat_tmod _ m).symm
      have Hat : Hid (atY zs l s k = ((x == s) || (y == s))) := by show _ = _; unfold atY; rw [Hx.out, Hn.out, Hj.out, Hy.out]
      go_upto_region 7 with fail
      obtain ⟨sn, rc, hc⟩ := HC.out
      have hlen : (tmI zs l s k).length ≤ k := tmI_len zs l s k
      obtain ⟨W, HW⟩ : ∃ W, Hid (W = wr.setChan w.heap.size m ((((tmI zs l s k).map (Value.int .i64)).toArray).push (.int .i64 k)) false (sn + 1) rc false) := ⟨_, rfl⟩
      have HB2 : Hid (Below w.heap.size w W) := by show Below _ _ _; rw [HW.out]; exact below_setChan HB.out (Nat.le_refl _) _ _ _ _ _ _
      have HC2 : Hid (atY zs l s k = true → ChI W w.heap.size m (tmI zs l s (k + 1)) false) := fun e => by
        rw [HW.out]
        have hlt2 := HC.out.lt
        refine ⟨sn + 1, rc, ?_⟩
        rw [heap_setChan _ _ _ _ _ _ _ _ hlt2, tmI_yes e]
        simp
      have HC3 : Hid (¬ atY zs l s k = true → ChI wr w.heap.size m (tmI zs l s (k + 1)) false) := fun e => by rw [tmI_no e]; exact HC.out
      have Hc := Lib.hid hc
      clear hc
      by_cases h1 : x = s
      · have hb1 : (x == s) = true := by simp [h1]
        have HC4 : Hid (ChI W w.heap.size m (tmI zs l s (k + 1)) false) := HC2.out (by rw [Hat.out, hb1]; rfl)
        clear h1
        go_upto_region 8 with fail
        refine opsTo_region ?_
        show OpsTo _ _ _ [0, 1, 2] _ _
        refine opsTo_value rfl rfl rfl ?_
        refine opsTo_value rfl rfl rfl ?_
        refine opsTo_send (c := w.heap.size) (v := .int .i64 k) (z := .tuple #[]) rfl rfl rfl Hc.out (by simp; omega) ?_
        refine opsTo_nil ?_
        rw [← HW.out]
        go_simp
        go_wp2
        go_roundw
        case rel => exact ⟨k + 1, by omega, by go_num, HC4, HB2⟩
        case measure => simp [intOf]; omega
      · have hb1 : (x == s) = false := by rw [beq_eq_false_iff_ne]; exact h1
        by_cases h2 : y = s
        · have hb2 : (y == s) = true := by simp [h2]
          have HC4 : Hid (ChI W w.heap.size m (tmI zs l s (k + 1)) false) := HC2.out (by rw [Hat.out, hb1, hb2]; rfl)
          clear h1 h2
          go_upto_region 8 with fail
          refine opsTo_region ?_
          show OpsTo _ _ _ [0, 1, 2] _ _
          refine opsTo_value rfl rfl rfl ?_
          refine opsTo_value rfl rfl rfl ?_
          refine opsTo_send (c := w.heap.size) (v := .int .i64 k) (z := .tuple #[]) rfl rfl rfl Hc.out (by simp; omega) ?_
          refine opsTo_nil ?_
          rw [← HW.out]
          go_simp
          go_wp2
          go_roundw
          case rel => exact ⟨k + 1, by omega, by go_num, HC4, HB2⟩
          case measure => simp [intOf]; omega
        · have hb2 : (y == s) = false := by rw [beq_eq_false_iff_ne]; exact h2
          have HC4 : Hid (ChI wr w.heap.size m (tmI zs l s (k + 1)) false) := HC3.out (by rw [Hat.out, hb1, hb2]; decide)
          clear h1 h2
          go_wp2
          go_roundw
          case rel => exact ⟨k + 1, by omega, by go_num, HC4, HB⟩
          case measure => simp [intOf]; omega
    · obtain rfl : k = m := by omega
      obtain ⟨sn, rc, hc⟩ := HC.out
      have hcl := fun ats ty => run_close_open (P := Try.prog) (w := wr) ats ty hc
      have HE : Hid (TimesOf zs l s w (.returned (.chan (some w.heap.size))) (wr.setChan w.heap.size k (((tmI zs l s k).map (Value.int .i64)).toArray) true sn rc false)) :=
        ⟨rfl, ⟨sn, rc, by rw [Hn.out]; exact heap_setChan _ _ _ _ _ _ _ _ HC.out.lt⟩, below_setChan HB.out (Nat.le_refl _) _ _ _ _ _ _⟩
      go_wp2
      go_ret
      exact HE.out
end Go.Proofs.Ytdkonaaoanggiaa
