/-
  The model's BusyShare and MeanBusy, walked.
  Conditions: none.
-/
import Derived.Test.YtbbmjfnjpmefpaaIH
namespace Go.Proofs.Ytbbmjfnjpmefpaa
open Go.ChangeShapes Go.WideShapes Go.ChangeAt Go.RowKit
set_option linter.unusedVariables false
set_option maxRecDepth 4000

theorem sBusyShare_no : Fr4No 14 := by
  intro a d k j w h
  have H1 := Lib.hid (fun W => validLoad_any a d k W)
  have H2 := Lib.hid (fun W => inRange_any j 0 k W)
  by_cases hv : vbz a d k = true
  · rw [hv] at H1 h
    rw [Bool.true_and] at h
    rw [h] at H2
    clear h hv
    go_enter Try.func14, Try.ntmps14
    go_wp2_with fail
    refine (H1.out _).mono ?_
    rintro e w' ⟨rfl, rfl⟩
    go_wp2_with fail
    refine (H2.out _).mono ?_
    rintro e w' ⟨rfl, rfl⟩
    go_wp2
    exact bodyPost_ret (v := .tuple #[.agg #[.int .i64 0, .int .i64 0], .bool false]) (by simp [results, Try.results14, go_sem]) rfl ⟨rfl, (Below.refl _ _).alloc (Nat.le_refl _) _⟩
  · have hv' : vbz a d k = false := by simpa using hv
    rw [hv'] at H1
    clear h hv hv' H2
    go_enter Try.func14, Try.ntmps14
    go_wp2_with fail
    refine (H1.out _).mono ?_
    rintro e w' ⟨rfl, rfl⟩
    go_wp2
    exact bodyPost_ret (v := .tuple #[.agg #[.int .i64 0, .int .i64 0], .bool false]) (by simp [results, Try.results14, go_sem]) rfl ⟨rfl, (Below.refl _ _).alloc (Nat.le_refl _) _⟩

def ShRel (a d k : Nat) (W : World) (s10 s11 : Value) (wr : World) : Prop := ∃ i u : Nat, s10 = .int .i64 u ∧ s11 = .int .i64 i ∧ i ≤ k + 1 ∧ Hid (bzS (bzW a d k) i = u) ∧ W = wr
set_option maxHeartbeats 1600000 in
theorem sBusyShare_yes : Fr4Yes 14 := by
  intro a d k j x y w ha hd h1 hk hj hxy
  have H1 := Lib.hid (fun W => validLoad_any a d k W)
  rw [vbz_of ha hd h1 hk] at H1
  obtain ⟨p, Hp⟩ : ∃ p, Hid (w.heap.size = p) := ⟨_, rfl⟩
  obtain ⟨W, HW⟩ : ∃ W, Hid (w.alloc (.cells #[.int .i64 0, .int .i64 0] 26) = W) := ⟨_, rfl⟩
  have Hh : Hid (W.heap[p]? = some (.cells #[.int .i64 0, .int .i64 0] 26 (0, 0))) := by rw [← HW.out, ← Hp.out]; exact heap_alloc_new w _
  have HB : Hid (Below w.heap.size w W) := by rw [← HW.out]; exact (Below.refl _ _).alloc (Nat.le_refl _) _
  have Hpl : Hid (p < W.heap.size) := by rw [← HW.out, ← Hp.out]; show _ < (w.alloc _).heap.size; rw [size_alloc1]; omega
  have HR := Lib.hid (fun W => inRange_yes (j : Int) 0 (k : Int) W (by omega) (by omega))
  have HWb := Lib.hid (bzW_bd a ha d hd h1 k hk)
  have HSb := Lib.hid (bzS_bd a ha d hd h1 k hk)
  have HSp := Lib.hid (bzS_pos a ha d hd h1 k hk)
  have HXY := Lib.hid hxy
  clear hxy
  go_enter Try.func14, Try.ntmps14
  go_wp2_with fail
  rw [HW.out, Hp.out]
  refine (H1.out _).mono ?_
  rintro e w' ⟨rfl, rfl⟩
  go_wp2_with fail
  refine (HR.out _).mono ?_
  rintro e w' ⟨rfl, rfl⟩
  go_wp2
  go_loopw [10, 11] (fun s10 s11 wr => ShRel a d k W s10 s11 wr) (fun _ s11 _ => k + 1 - (intOf s11).toNat)
  case atStart => exact ⟨0, 0, rfl, rfl, by omega, rfl, rfl⟩
  case round =>
    obtain ⟨i, u, rfl, rfl, hi, Hu, rfl⟩ := hrel
    have hu : u ≤ 60000000 := by rw [← Hu.out]; exact (HSb.out i (by omega)).1
    by_cases hlt : i ≤ k
    · have hlt0 : i ≤ k := hlt
      obtain ⟨pa, Hpa⟩ : ∃ q, Hid (bzP a i = q) := ⟨_, rfl⟩
      obtain ⟨z, Hz⟩ : ∃ z, Hid (k - i = z) := ⟨_, rfl⟩
      obtain ⟨pd, Hpd⟩ : ∃ q, Hid (bzP d (k - i) = q) := ⟨_, rfl⟩
      obtain ⟨fk, Hfk⟩ : ∃ q, Hid (bzF k = q) := ⟨_, rfl⟩
      obtain ⟨fi, Hfi⟩ : ∃ q, Hid (bzF i = q) := ⟨_, rfl⟩
      obtain ⟨r, Hr⟩ : ∃ r, Hid (pa * pd = r) := ⟨_, rfl⟩
      obtain ⟨g, Hg⟩ : ∃ g, Hid (fk / fi = g) := ⟨_, rfl⟩
      obtain ⟨t, Ht⟩ : ∃ t, Hid (r * g = t) := ⟨_, rfl⟩
      have Hw : Hid (bzW a d k i = t) := by show bzP a i * bzP d (k - i) * (bzF k / bzF i) = t; rw [Hpa.out, Hpd.out, Hfk.out, Hfi.out, Hr.out, Hg.out, Ht.out]
      have ht : t ≤ 12000000 := by rw [← Hw.out]; exact HWb.out i (by omega)
      have hfi := bzF_bd i (by omega)
      have hpa := bzP_bd a ha i (by omega)
      have hpd := bzP_bd d hd (k - i) (by omega)
      have hfk := bzF_bd k hk
      rw [Hfi.out] at hfi
      rw [Hfk.out] at hfk
      rw [Hpa.out] at hpa
      rw [Hpd.out] at hpd
      have hr : r ≤ 10000000000 := by rw [← Hr.out]; exact Nat.mul_le_mul hpa hpd
      have hg : g ≤ 120 := by have := div_le Hg.out; omega
      have hzk : z < 6 := by rw [← Hz.out]; omega
      have p0 : (k : Int) - (i : Int) = (z : Int) := by rw [← Hz.out]; omega
      have p1 : (pa : Int) * (pd : Int) = (r : Int) := by rw [← Hr.out]; push_cast; rfl
      have p2 : (fk : Int).tdiv (fi : Int) = (g : Int) := div_cast Hg.out
      have p3 : (r : Int) * (g : Int) = (t : Int) := by rw [← Ht.out]; push_cast; rfl
      have t1 : ¬ (fi : Int) = 0 := by omega
      have t2 : ¬ fi = 0 := by omega
      have HP := Lib.hid (fun W => powerOf_any a i pa W ha (by omega) Hpa.out)
      have HQ := Lib.hid (fun W => powerOf_any d z pd W hd (by omega) (by rw [← Hz.out]; exact Hpd.out))
      have HFk := Lib.hid (fun W => factorial_any k fk W hk Hfk.out)
      have HFi := Lib.hid (fun W => factorial_any i fi W (by omega) Hfi.out)
      have Hn : Hid (bzS (bzW a d k) (i + 1) = u + t) := by show bzS (bzW a d k) i + bzW a d k i = u + t; rw [Hu.out, Hw.out]
      go_wp2_with fail
      refine (HP.out _).mono ?_
      rintro e w' ⟨rfl, rfl⟩
      go_wp2_with fail
      refine (HQ.out _).mono ?_
      rintro e w' ⟨rfl, rfl⟩
      go_wp2_with fail
      refine (HFk.out _).mono ?_
      rintro e w' ⟨rfl, rfl⟩
      go_wp2_with fail
      refine (HFi.out _).mono ?_
      rintro e w' ⟨rfl, rfl⟩
      go_wp2
      go_roundw
      case rel => exact ⟨i + 1, u + t, by go_num, by go_num, by omega, Hn, rfl⟩
      case measure => simp [intOf]; omega
    · obtain rfl : i = k + 1 := by omega
      have HSu : Hid (bzS (bzW a d k) (k + 1) = u) := Hu
      have hu1 : 1 ≤ u := by rw [← HSu.out]; exact HSp.out
      obtain ⟨i, Hi⟩ : ∃ i, Hid (j = i) := ⟨_, rfl⟩
      have hik : i ≤ k := by rw [← Hi.out]; exact hj
      obtain ⟨pa, Hpa⟩ : ∃ q, Hid (bzP a i = q) := ⟨_, rfl⟩
      obtain ⟨z, Hz⟩ : ∃ z, Hid (k - i = z) := ⟨_, rfl⟩
      obtain ⟨pd, Hpd⟩ : ∃ q, Hid (bzP d (k - i) = q) := ⟨_, rfl⟩
      obtain ⟨fk, Hfk⟩ : ∃ q, Hid (bzF k = q) := ⟨_, rfl⟩
      obtain ⟨fi, Hfi⟩ : ∃ q, Hid (bzF i = q) := ⟨_, rfl⟩
      obtain ⟨r, Hr⟩ : ∃ r, Hid (pa * pd = r) := ⟨_, rfl⟩
      obtain ⟨g, Hg⟩ : ∃ g, Hid (fk / fi = g) := ⟨_, rfl⟩
      obtain ⟨t, Ht⟩ : ∃ t, Hid (r * g = t) := ⟨_, rfl⟩
      have Hw : Hid (bzW a d k i = t) := by show bzP a i * bzP d (k - i) * (bzF k / bzF i) = t; rw [Hpa.out, Hpd.out, Hfk.out, Hfi.out, Hr.out, Hg.out, Ht.out]
      have ht : t ≤ 12000000 := by rw [← Hw.out]; exact HWb.out i (by omega)
      have hfi := bzF_bd i (by omega)
      have hpa := bzP_bd a ha i (by omega)
      have hpd := bzP_bd d hd (k - i) (by omega)
      have hfk := bzF_bd k hk
      rw [Hfi.out] at hfi
      rw [Hfk.out] at hfk
      rw [Hpa.out] at hpa
      rw [Hpd.out] at hpd
      have hr : r ≤ 10000000000 := by rw [← Hr.out]; exact Nat.mul_le_mul hpa hpd
      have hg : g ≤ 120 := by have := div_le Hg.out; omega
      have hzk : z < 6 := by rw [← Hz.out]; omega
      have p0 : (k : Int) - (i : Int) = (z : Int) := by rw [← Hz.out]; omega
      have p1 : (pa : Int) * (pd : Int) = (r : Int) := by rw [← Hr.out]; push_cast; rfl
      have p2 : (fk : Int).tdiv (fi : Int) = (g : Int) := div_cast Hg.out
      have p3 : (r : Int) * (g : Int) = (t : Int) := by rw [← Ht.out]; push_cast; rfl
      have t1 : ¬ (fi : Int) = 0 := by omega
      have t2 : ¬ fi = 0 := by omega
      rw [Hi.out] at HXY
      have Hf : Hid (frz t u = (x, y)) := by show frz t u = _; rw [← Hw.out, ← HSu.out]; exact HXY.out
      have HF := Lib.hid (fun W => sFrac_any t u x y W (by omega) (by omega) hu1 Hf.out)
      have HP := Lib.hid (fun W => powerOf_any a i pa W ha (by omega) Hpa.out)
      have HQ := Lib.hid (fun W => powerOf_any d z pd W hd (by omega) (by rw [← Hz.out]; exact Hpd.out))
      have HFk := Lib.hid (fun W => factorial_any k fk W hk Hfk.out)
      have HFi := Lib.hid (fun W => factorial_any i fi W (by omega) Hfi.out)
      have hji : (j : Int) = (i : Int) := by rw [Hi.out]
      rw [hji]
      clear hji
      go_wp2_with fail
      refine (HP.out _).mono ?_
      rintro e w' ⟨rfl, rfl⟩
      go_wp2_with fail
      refine (HQ.out _).mono ?_
      rintro e w' ⟨rfl, rfl⟩
      go_wp2_with fail
      refine (HFk.out _).mono ?_
      rintro e w' ⟨rfl, rfl⟩
      go_wp2_with fail
      refine (HFi.out _).mono ?_
      rintro e w' ⟨rfl, rfl⟩
      go_wp2_with fail
      refine (HF.out _).mono ?_
      rintro e w4 ⟨rfl, hb4⟩
      have Hb4 := Lib.hid hb4
      clear hb4
      have Hh4 : Hid (w4.heap[p]? = some (.cells #[.int .i64 0, .int .i64 0] 26 (0, 0))) := (Hb4.out.block p Hpl.out).trans Hh.out
      obtain ⟨q2, q3, f2, f3⟩ := frac_cells Hh4.out
      have Hz' : Hid (Below w.heap.size w ((w4.setCell ⟨p, 0, none⟩ (.int .i64 x)).setCell ⟨p, 1, none⟩ (.int .i64 y))) :=
        ((HB.out.trans (Hb4.out.mono HB.out.size)).setCell (by have := Hp.out; simp; omega) _).setCell (by have := Hp.out; simp; omega) _
      go_wp2
      exact bodyPost_ret (v := .tuple #[.agg #[.int .i64 x, .int .i64 y], .bool true]) (by simp [results, Try.results14, go_sem, q2, q3]) rfl ⟨rfl, Hz'.out⟩
theorem sMeanBusy_no : Fr3No 22 := by
  intro a d k w h
  have H1 := Lib.hid (fun W => validLoad_any a d k W)
  rw [h] at H1
  clear h
  go_enter Try.func22, Try.ntmps22
  go_wp2_with fail
  refine (H1.out _).mono ?_
  rintro e w' ⟨rfl, rfl⟩
  go_wp2
  exact bodyPost_ret (v := .tuple #[.agg #[.int .i64 0, .int .i64 0], .bool false]) (by simp [results, Try.results22, go_sem]) rfl ⟨rfl, (Below.refl _ _).alloc (Nat.le_refl _) _⟩
def MeRel (a d k : Nat) (W : World) (s8 s9 s10 : Value) (wr : World) : Prop := ∃ i u v : Nat, s8 = .int .i64 v ∧ s9 = .int .i64 u ∧ s10 = .int .i64 i ∧ i ≤ k + 1 ∧ Hid (bzS (bzW a d k) i = u) ∧ Hid (bzS (fun i => i * bzW a d k i) i = v) ∧ W = wr
set_option maxHeartbeats 1600000 in
theorem sMeanBusy_yes : Fr3Yes 22 bzM := by
  intro a d k x y w ha hd h1 hk hxy
  have H1 := Lib.hid (fun W => validLoad_any a d k W)
  rw [vbz_of ha hd h1 hk] at H1
  obtain ⟨p, Hp⟩ : ∃ p, Hid (w.heap.size = p) := ⟨_, rfl⟩
  obtain ⟨W, HW⟩ : ∃ W, Hid (w.alloc (.cells #[.int .i64 0, .int .i64 0] 26) = W) := ⟨_, rfl⟩
  have Hh : Hid (W.heap[p]? = some (.cells #[.int .i64 0, .int .i64 0] 26 (0, 0))) := by rw [← HW.out, ← Hp.out]; exact heap_alloc_new w _
  have HB : Hid (Below w.heap.size w W) := by rw [← HW.out]; exact (Below.refl _ _).alloc (Nat.le_refl _) _
  have Hpl : Hid (p < W.heap.size) := by rw [← HW.out, ← Hp.out]; show _ < (w.alloc _).heap.size; rw [size_alloc1]; omega
  have HWb := Lib.hid (bzW_bd a ha d hd h1 k hk)
  have HSb := Lib.hid (bzS_bd a ha d hd h1 k hk)
  have HSp := Lib.hid (bzS_pos a ha d hd h1 k hk)
  have HXY := Lib.hid hxy
  clear hxy
  go_enter Try.func22, Try.ntmps22
  go_wp2_with fail
  rw [HW.out, Hp.out]
  refine (H1.out _).mono ?_
  rintro e w' ⟨rfl, rfl⟩
  go_wp2
  go_loopw [8, 9, 10] (fun s8 s9 s10 wr => MeRel a d k W s8 s9 s10 wr) (fun _ _ s10 _ => k + 1 - (intOf s10).toNat)
  case atStart => exact ⟨0, 0, 0, rfl, rfl, rfl, by omega, rfl, rfl, rfl⟩
  case round =>
    obtain ⟨i, u, v, rfl, rfl, rfl, hi, Hu, Hv, rfl⟩ := hrel
    have hu : u ≤ 60000000 := by rw [← Hu.out]; exact (HSb.out i (by omega)).1
    have hv : v ≤ 300000000 := by rw [← Hv.out]; exact (HSb.out i (by omega)).2
    by_cases hlt : i ≤ k
    · have hlt0 : i ≤ k := hlt
      obtain ⟨pa, Hpa⟩ : ∃ q, Hid (bzP a i = q) := ⟨_, rfl⟩
      obtain ⟨z, Hz⟩ : ∃ z, Hid (k - i = z) := ⟨_, rfl⟩
      obtain ⟨pd, Hpd⟩ : ∃ q, Hid (bzP d (k - i) = q) := ⟨_, rfl⟩
      obtain ⟨fk, Hfk⟩ : ∃ q, Hid (bzF k = q) := ⟨_, rfl⟩
      obtain ⟨fi, Hfi⟩ : ∃ q, Hid (bzF i = q) := ⟨_, rfl⟩
      obtain ⟨r, Hr⟩ : ∃ r, Hid (pa * pd = r) := ⟨_, rfl⟩
      obtain ⟨g, Hg⟩ : ∃ g, Hid (fk / fi = g) := ⟨_, rfl⟩
      obtain ⟨t, Ht⟩ : ∃ t, Hid (r * g = t) := ⟨_, rfl⟩
      have Hw : Hid (bzW a d k i = t) := by show bzP a i * bzP d (k - i) * (bzF k / bzF i) = t; rw [Hpa.out, Hpd.out, Hfk.out, Hfi.out, Hr.out, Hg.out, Ht.out]
      have ht : t ≤ 12000000 := by rw [← Hw.out]; exact HWb.out i (by omega)
      have hfi := bzF_bd i (by omega)
      have hpa := bzP_bd a ha i (by omega)
      have hpd := bzP_bd d hd (k - i) (by omega)
      have hfk := bzF_bd k hk
      rw [Hfi.out] at hfi
      rw [Hfk.out] at hfk
      rw [Hpa.out] at hpa
      rw [Hpd.out] at hpd
      have hr : r ≤ 10000000000 := by rw [← Hr.out]; exact Nat.mul_le_mul hpa hpd
      have hg : g ≤ 120 := by have := div_le Hg.out; omega
      have hzk : z < 6 := by rw [← Hz.out]; omega
      have p0 : (k : Int) - (i : Int) = (z : Int) := by rw [← Hz.out]; omega
      have p1 : (pa : Int) * (pd : Int) = (r : Int) := by rw [← Hr.out]; push_cast; rfl
      have p2 : (fk : Int).tdiv (fi : Int) = (g : Int) := div_cast Hg.out
      have p3 : (r : Int) * (g : Int) = (t : Int) := by rw [← Ht.out]; push_cast; rfl
      have t1 : ¬ (fi : Int) = 0 := by omega
      have t2 : ¬ fi = 0 := by omega
      have HP := Lib.hid (fun W => powerOf_any a i pa W ha (by omega) Hpa.out)
      have HQ := Lib.hid (fun W => powerOf_any d z pd W hd (by omega) (by rw [← Hz.out]; exact Hpd.out))
      have HFk := Lib.hid (fun W => factorial_any k fk W hk Hfk.out)
      have HFi := Lib.hid (fun W => factorial_any i fi W (by omega) Hfi.out)
      obtain ⟨s, Hs⟩ : ∃ s, Hid (i * t = s) := ⟨_, rfl⟩
      have Hn : Hid (bzS (bzW a d k) (i + 1) = u + t) := by show bzS (bzW a d k) i + bzW a d k i = u + t; rw [Hu.out, Hw.out]
      have Hm : Hid (bzS (fun i => i * bzW a d k i) (i + 1) = v + s) := by show bzS (fun i => i * bzW a d k i) i + i * bzW a d k i = v + s; rw [Hv.out, Hw.out, Hs.out]
      have hs : v + s ≤ 300000000 := by rw [← Hm.out]; exact (HSb.out (i + 1) (by omega)).2
      have p4 : (i : Int) * (t : Int) = (s : Int) := by rw [← Hs.out]; push_cast; rfl
      go_wp2_with fail
      refine (HP.out _).mono ?_
      rintro e w' ⟨rfl, rfl⟩
      go_wp2_with fail
      refine (HQ.out _).mono ?_
      rintro e w' ⟨rfl, rfl⟩
      go_wp2_with fail
      refine (HFk.out _).mono ?_
      rintro e w' ⟨rfl, rfl⟩
      go_wp2_with fail
      refine (HFi.out _).mono ?_
      rintro e w' ⟨rfl, rfl⟩
      go_wp2
      go_roundw
      case rel => exact ⟨i + 1, u + t, v + s, by go_num, by go_num, by go_num, by omega, Hn, Hm, rfl⟩
      case measure => simp [intOf]; omega
    · obtain rfl : i = k + 1 := by omega
      have HSu : Hid (bzS (bzW a d k) (k + 1) = u) := Hu
      have hu1 : 1 ≤ u := by rw [← HSu.out]; exact HSp.out
      have Hf : Hid (frz v u = (x, y)) := by show frz v u = _; rw [← Hv.out, ← HSu.out]; exact HXY.out
      have HF := Lib.hid (fun W => sFrac_any v u x y W (by omega) (by omega) hu1 Hf.out)
      go_wp2_with fail
      refine (HF.out _).mono ?_
      rintro e w4 ⟨rfl, hb4⟩
      have Hb4 := Lib.hid hb4
      clear hb4
      have Hh4 : Hid (w4.heap[p]? = some (.cells #[.int .i64 0, .int .i64 0] 26 (0, 0))) := (Hb4.out.block p Hpl.out).trans Hh.out
      obtain ⟨q2, q3, f2, f3⟩ := frac_cells Hh4.out
      have Hz' : Hid (Below w.heap.size w ((w4.setCell ⟨p, 0, none⟩ (.int .i64 x)).setCell ⟨p, 1, none⟩ (.int .i64 y))) :=
        ((HB.out.trans (Hb4.out.mono HB.out.size)).setCell (by have := Hp.out; simp; omega) _).setCell (by have := Hp.out; simp; omega) _
      go_wp2
      exact bodyPost_ret (v := .tuple #[.agg #[.int .i64 x, .int .i64 y], .bool true]) (by simp [results, Try.results22, go_sem, q2, q3]) rfl ⟨rfl, Hz'.out⟩
end Go.Proofs.Ytbbmjfnjpmefpaa
