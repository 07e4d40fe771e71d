/-
  The model's LostStep and HelpersFor, walked.
  Conditions: none.
-/
import Derived.Test.YtbbmjfnjpmefpaaII
namespace Go.Proofs.Ytbbmjfnjpmefpaa
open Go.ChangeShapes Go.WideShapes Go.ChangeAt Go.RowKit
set_option linter.unusedVariables false
set_option maxRecDepth 4000

theorem sLostStep_no : Fr3No 19 := by
  intro a d k w h
  have H1 := Lib.hid (fun W => validLoad_any a d k W)
  rw [h] at H1
  clear h
  go_enter Try.func19, Try.ntmps19
  go_wp2_with fail
  refine (H1.out _).mono ?_
  rintro e w' ⟨rfl, rfl⟩
  go_wp2
  exact bodyPost_ret (v := .tuple #[.agg #[.int .i64 0, .int .i64 0], .bool false]) (by simp [results, Try.results19, go_sem]) rfl ⟨rfl, (Below.refl _ _).alloc (Nat.le_refl _) _⟩

set_option maxHeartbeats 1600000 in
theorem sLostStep_yes : Fr3Yes 19 bzL := by
  intro a d k x y w ha hd h1 hk hxy
  have H1 := Lib.hid (fun W => validLoad_any a d k W)
  rw [vbz_of ha hd h1 hk] at H1
  obtain ⟨p, Hp⟩ : ∃ p, Hid (w.heap.size = p) := ⟨_, rfl⟩
  obtain ⟨W, HW⟩ : ∃ W, Hid (w.alloc (.cells #[.int .i64 0, .int .i64 0] 26) = W) := ⟨_, rfl⟩
  have Hh : Hid (W.heap[p]? = some (.cells #[.int .i64 0, .int .i64 0] 26 (0, 0))) := by rw [← HW.out, ← Hp.out]; exact heap_alloc_new w _
  have HB : Hid (Below w.heap.size w W) := by rw [← HW.out]; exact (Below.refl _ _).alloc (Nat.le_refl _) _
  have Hpl : Hid (p < W.heap.size) := by rw [← HW.out, ← Hp.out]; show _ < (w.alloc _).heap.size; rw [size_alloc1]; omega
  have HXY := Lib.hid hxy
  clear hxy
  have HF1 : Hid (∀ W, Calls Try.prog 39 #[.int .i64 1, .int .i64 1] W fun e w' => e = .returned (.agg #[.int .i64 1, .int .i64 1]) ∧ Below W.heap.size W w') := fun W => sFrac_any 1 1 1 1 W (by omega) (by omega) (by omega) frz_one
  go_enter Try.func19, Try.ntmps19
  go_wp2_with fail
  rw [HW.out, Hp.out]
  refine (H1.out _).mono ?_
  rintro e w' ⟨rfl, rfl⟩
  go_wp2_with fail
  refine (HF1.out _).mono ?_
  rintro e w2 ⟨rfl, hb2⟩
  have Hb2 := Lib.hid hb2
  clear hb2
  obtain ⟨r, Hr⟩ : ∃ r, Hid (w2.heap.size = r) := ⟨_, rfl⟩
  have Hpr : Hid (p < r) := by have := Hpl.out; have := Hb2.out.size; have := Hr.out; show p < r; omega
  go_wp2
  rw [Hr.out]
  go_loopw [9] (fun s9 wr => LostRel a d k r w2 s9 wr) (fun s9 _ => k + 1 - (intOf s9).toNat)
  case atStart => exact ⟨0, 1, 1, rfl, by omega, rfl, by rw [← Hr.out]; exact heap_alloc_new w2 _, by rw [← Hr.out]; exact (Below.refl _ _).alloc (Nat.le_refl _) _⟩
  case round =>
    obtain ⟨i, u, v, rfl, hi, Hi, HC, hb⟩ := hrel
    have Hb := Lib.hid hb
    have hsz := hb.size
    clear hb
    obtain ⟨q0, q1, f0, f1⟩ := frac_cells HC.out
    by_cases hlt : i < k
    · obtain ⟨b1, b2, b3, b4⟩ := lost_bd ha hd h1 (by omega : i < 6) Hi.out
      obtain ⟨l, Hl⟩ : ∃ l, Hid (a * u = l) := ⟨_, rfl⟩
      obtain ⟨e, He⟩ : ∃ e, Hid ((i + 1) * d = e) := ⟨_, rfl⟩
      obtain ⟨m, Hm⟩ : ∃ m, Hid (e * v = m) := ⟨_, rfl⟩
      have l1 : l ≤ 600000000 := by rw [← Hl.out]; exact Nat.mul_le_mul (by omega : a ≤ 10) b1
      have l2 : e ≤ 60 := by rw [← He.out]; exact Nat.mul_le_mul (by omega : i + 1 ≤ 6) (by omega : d ≤ 10)
      have l3 : 1 ≤ e := by rw [← He.out]; exact Nat.mul_pos (by omega) h1
      have l4 : m ≤ 3600000000 := by rw [← Hm.out]; exact Nat.mul_le_mul l2 b3
      have l5 : 1 ≤ m := by rw [← Hm.out]; exact Nat.mul_pos l3 b2
      obtain ⟨x1, y1, Hn⟩ : ∃ x1 y1, Hid (frz l (m + l) = (x1, y1)) := ⟨_, _, rfl⟩
      have Hn1 : Hid (bzL a d (i + 1) = (x1, y1)) := by
        show frz (a * (bzL a d i).1) ((i + 1) * d * (bzL a d i).2 + a * (bzL a d i).1) = _
        rw [Hi.out]
        show frz (a * u) ((i + 1) * d * v + a * u) = _
        rw [Hl.out, He.out, Hm.out]
        exact Hn.out
      have HF := Lib.hid (fun W => sFrac_any l (m + l) x1 y1 W (by omega) (by omega) (by omega) Hn.out)
      have p1 : (a : Int) * (u : Int) = (l : Int) := by rw [← Hl.out]; push_cast; rfl
      have p2 : ((i : Int) + 1) * (d : Int) = (e : Int) := by rw [← He.out]; push_cast; rfl
      have p3 : (e : Int) * (v : Int) = (m : Int) := by rw [← Hm.out]; push_cast; rfl
      rw [show ((m + l : Nat) : Int) = (m : Int) + (l : Int) by push_cast; rfl] at HF
      go_wp2_with fail
      refine (HF.out _).mono ?_
      rintro e' w4 ⟨rfl, hb4⟩
      have HC4 : Hid (w4.heap[r]? = some (.cells #[.int .i64 u, .int .i64 v] 26 (0, 0))) := (hb4.block r (by
        rcases Nat.lt_or_ge r wr.heap.size with hh | hh
        · exact hh
        · have := HC.out; rw [Array.getElem?_eq_none hh] at this; cases this)).trans HC.out
      have Hb4 : Hid (Below r w2 w4) := Hb.out.trans (hb4.mono (by have := Hr.out; omega))
      clear hb4 q0 q1 f0 f1
      obtain ⟨q0, q1, f0, f1⟩ := frac_cells HC4.out
      go_wp2
      go_roundw
      case rel => exact ⟨i + 1, x1, y1, by go_num, by omega, Hn1, set_frac HC4.out, (Hb4.out.setCell (Nat.le_refl _) _).setCell (Nat.le_refl _) _⟩
      case measure => simp [intOf]; omega
    · obtain rfl : i = k := by omega
      have he : (u, v) = (x, y) := Hi.out.symm.trans HXY.out
      injection he with he1 he2
      subst he1 he2
      have Hh1 : Hid (wr.heap[p]? = some (.cells #[.int .i64 0, .int .i64 0] 26 (0, 0))) := (Hb.out.block p Hpr.out).trans ((Hb2.out.block p Hpl.out).trans Hh.out)
      obtain ⟨q2, q3, f2, f3⟩ := frac_cells Hh1.out
      have Hz : Hid (Below w.heap.size w ((wr.setCell ⟨p, 0, none⟩ (.int .i64 u)).setCell ⟨p, 1, none⟩ (.int .i64 v))) :=
        (((HB.out.trans (Hb2.out.mono HB.out.size)).trans (Hb.out.mono (by have := HB.out.size; have := Hb2.out.size; have := Hr.out; omega))).setCell (by have := Hp.out; simp; omega) _).setCell (by have := Hp.out; simp; omega) _
      go_wp2
      exact bodyPost_ret (v := .tuple #[.agg #[.int .i64 u, .int .i64 v], .bool true]) (by simp [results, Try.results19, go_sem, q2, q3]) rfl ⟨rfl, Hz.out⟩

set_option maxHeartbeats 1600000 in
theorem sHelpersFor_ok : HNum 25 := by
  intro a d m w
  have H1 := Lib.hid (fun W => validLoad_any a d 0 W)
  have H2 := Lib.hid (fun W => inRange_any m 1 50 W)
  by_cases hv : vbz a d 0 = true
  · rw [hv] at H1
    by_cases hm : 1 ≤ m ∧ m ≤ 50
    · obtain ⟨hm1, hm2⟩ := hm
      rw [decide_eq_true hm1, decide_eq_true hm2, Bool.true_and] at H2
      have Hans : Hid (hpI a d m = hpz a.toNat d.toNat m.toNat) := by show hpI a d m = _; unfold hpI; rw [if_pos ⟨hv, hm1, hm2⟩]
      obtain ⟨a, d, z, rfl, rfl, -, ha, hd, h1, -⟩ := vbz_nat hv
      obtain ⟨m, rfl⟩ := Int.eq_ofNat_of_zero_le (by omega : 0 ≤ m)
      simp only [Int.toNat_natCast] at Hans
      clear hv
      go_enter Try.func25, Try.ntmps25
      go_wp2_with fail
      refine (H1.out _).mono ?_
      rintro e w' ⟨rfl, rfl⟩
      go_wp2_with fail
      refine (H2.out _).mono ?_
      rintro e w' ⟨rfl, rfl⟩
      go_wp2
      go_loopw [7] (fun s wr => HlpRel a d m w s wr) (fun s _ => 6 - (intOf s).toNat)
      case atStart => exact ⟨0, rfl, by omega, fun n hn => by omega, Below.refl _ _⟩
      case round =>
        obtain ⟨i, rfl, hi, Ho, hb⟩ := hrel
        have Hb := Lib.hid hb
        clear hb
        by_cases hlt : i < 6
        · have hlt5 : (i : Int) ≤ 5 := by omega
          obtain ⟨x, y, Hxy⟩ : ∃ x y, Hid (bzL a d i = (x, y)) := ⟨_, _, rfl⟩
          obtain ⟨b1, b2, b3, b4⟩ := lost_bd ha hd h1 hlt Hxy.out
          obtain ⟨n, Hn⟩ : ∃ n, Hid (x * m = n) := ⟨_, rfl⟩
          have hn : n ≤ 3000000000 := by rw [← Hn.out]; exact Nat.mul_le_mul b1 (by omega : m ≤ 50)
          have Hok := Lib.hid (okz_yes Hxy.out Hn.out)
          have HL := Lib.hid (sLostStep_yes a d i x y wr ha hd h1 hlt Hxy.out)
          have p1 : (x : Int) * (m : Int) = (n : Int) := by rw [← Hn.out]; push_cast; rfl
          go_wp2_with fail
          refine HL.out.mono ?_
          rintro e w1 ⟨rfl, hb1⟩
          have Hb1 : Hid (Below w.heap.size w w1) := Hb.out.trans (hb1.mono Hb.out.size)
          clear hb1
          by_cases hny : n ≤ y
          · have Hq : Hid (hpI (a : Int) (d : Int) (m : Int) = i) := by show hpI _ _ _ = _; rw [Hans.out]; exact hpz_at hlt (by rw [Hok.out]; exact decide_eq_true hny) Ho.out
            go_wp2
            go_ret
            exact ⟨ret_int Hq.out.symm, Hb1.out.alloc Hb1.out.size _⟩
          · have Hq : Hid (∀ q, q < i + 1 → okz a d m q = false) := fun q hq => by
              by_cases e : q = i
              · subst e; rw [Hok.out]; exact decide_eq_false hny
              · exact Ho.out q (by omega)
            go_wp2
            go_roundw
            case rel => exact ⟨i + 1, by go_num, by omega, Hq, Hb1.out.alloc Hb1.out.size _⟩
            case measure => simp [intOf]; omega
        · obtain rfl : i = 6 := by omega
          have Hq : Hid (hpI (a : Int) (d : Int) (m : Int) = -1) := by show hpI _ _ _ = _; rw [Hans.out]; exact hpz_none Ho.out
          go_wp2
          go_ret
          exact ⟨ret_int Hq.out.symm, Hb.out⟩
    · have Hans : Hid (hpI a d m = -1) := by show hpI a d m = _; unfold hpI; rw [if_neg (fun h => hm h.2)]
      have hm' : (decide (1 ≤ m) && decide (m ≤ 50)) = false := by simp; omega
      rw [hm'] at H2
      clear hm hm' hv
      go_enter Try.func25, Try.ntmps25
      go_wp2_with fail
      refine (H1.out _).mono ?_
      rintro e w' ⟨rfl, rfl⟩
      go_wp2_with fail
      refine (H2.out _).mono ?_
      rintro e w' ⟨rfl, rfl⟩
      go_wp2
      go_ret
      exact ⟨ret_int Hans.out.symm, Below.refl _ _⟩
  · have hv' : vbz a d 0 = false := by simpa using hv
    have Hans : Hid (hpI a d m = -1) := by show hpI a d m = _; unfold hpI; rw [if_neg (fun h => hv h.1)]
    rw [hv'] at H1
    clear hv hv' H2
    go_enter Try.func25, Try.ntmps25
    go_wp2_with fail
    refine (H1.out _).mono ?_
    rintro e w' ⟨rfl, rfl⟩
    go_wp2
    go_ret
    exact ⟨ret_int Hans.out.symm, Below.refl _ _⟩
end Go.Proofs.Ytbbmjfnjpmefpaa
