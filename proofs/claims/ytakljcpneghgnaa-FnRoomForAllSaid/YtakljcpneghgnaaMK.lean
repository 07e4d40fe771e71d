/-
  The calls that a helper has, as the program finds them.
  Conditions: as each theorem states.
-/
import Derived.Test.YtakljcpneghgnaaSH
import Derived.BigQuiet
import Derived.Laws.StructEq
namespace Go.Proofs.Ytakljcpneghgnaa
open Go.ChangeShapes Go.WideShapes Go.ChangeAt Go.RowKit Go.Maps
set_option linter.unusedVariables false
set_option maxRecDepth 4000

theorem hsU : Try.prog.underlying 75 = some (.struct (Try.prog.fieldsOf 75)) := by unfold Program.fieldsOf; rw [Try.underlying75]
theorem hsH : Try.prog.stoodInHeld 75 = false := by kernel_rfl
theorem hsG : Try.prog.eqGuardType Try.prog.depth 75 = false := by kernel_rfl
theorem eqHelp (a r p x : Int) (W : World) : (Op.equalIn 10000 75 (.agg #[.int .u64 a, .int .i64 r]) (.agg #[.int .u64 p, .int .i64 x])).run Try.prog W = .ok (a == p && r == x) W := by
  rw [run_equalIn_struct W 9999 _ _ _ hsU hsH]
  by_cases h1 : a = p <;> by_cases h2 : r = x <;> simp [go_sem, Program.fieldsOf, Try.underlying75, Try.underlying53, Try.underlying3, h1, h2]
/-- What makeRoom's closures see: the boxes of sharing and of the helper. -/
structure Bx (w : World) (room : List Int) (S h sb kb : Nat) : Prop where
  s : w.cell? ⟨sb, 0, none⟩ = some (.pointer (some ⟨S, 0, none⟩))
  k0 : w.cell? ⟨kb, 0, none⟩ = some (.int .u64 ((2 ^ h : Nat) : Int))
  k1 : w.cell? ⟨kb, 1, none⟩ = some (.int .i64 (rR room h))
theorem Bx.below {w w' : World} {room : List Int} {S h sb kb : Nat} (b : Bx w room S h sb kb) (hb : Below w.heap.size w w') : Bx w' room S h sb kb :=
  ⟨(hb.cell (World.block_lt_of_cell? w _ b.s)).trans b.s, (hb.cell (World.block_lt_of_cell? w _ b.k0)).trans b.k0, (hb.cell (World.block_lt_of_cell? w _ b.k1)).trans b.k1⟩
theorem Bx.fr {w w' : World} {room : List Int} {S h sb kb tb mb : Nat} (b : Bx w room S h sb kb) (f : Fr w w' tb mb) (h1 : sb ≠ tb) (h2 : sb ≠ mb) (h3 : kb ≠ tb) (h4 : kb ≠ mb) : Bx w' room S h sb kb :=
  ⟨(f.cell (World.block_lt_of_cell? w _ b.s) h1 h2).trans b.s, (f.cell (World.block_lt_of_cell? w _ b.k0) h3 h4).trans b.k0, (f.cell (World.block_lt_of_cell? w _ b.k1) h3 h4).trans b.k1⟩
set_option maxHeartbeats 800000 in
theorem makeClosure_any (room : List Int) (wish : List (List Int)) (H n S hb cb tb mb B h sb kb i m : Nat) (M : Nat → Int) (w : World) (hS : Sh w room wish H n S hb cb tb mb) (hT : Tk w B room n tb M) (hX : Bx w room S h sb kb) (hi : i < n) (hn : n ≤ 7) (h4 : H ≤ 4) (hh : h < H) (hM : InH M H n) :
    Calls Try.prog 77 #[.agg #[.int .i64 i, .int .u64 m], .pointer (some ⟨sb, 0, none⟩), .pointer (some ⟨kb, 0, none⟩)] w fun e w' => e = .returned (.bool (decide (M i = h))) ∧ Below w.heap.size w w' := by
  have hB := (Below.refl w.heap.size w).alloc (Nat.le_refl _) (.cells #[.int .i64 i, .int .u64 m] 55)
  have hS2 := hS.fr (.of_below hB)
  obtain ⟨c0, c1, c2⟩ := hS2.cells
  obtain ⟨t0, t1, -, -⟩ := (hT.below hB).cells hi
  obtain ⟨b0, b1, b2⟩ := hX.below hB
  have hte := tak_eq (room := room) h4 hh (hM i hi)
  obtain ⟨a, Ha⟩ : ∃ a, Hid (((tA M i : Nat) : Int) = a) := ⟨_, rfl⟩
  obtain ⟨r, Hr⟩ : ∃ r, Hid (tR room M i = r) := ⟨_, rfl⟩
  obtain ⟨x, Hx⟩ : ∃ x, Hid (rR room h = x) := ⟨_, rfl⟩
  obtain ⟨p, Hp⟩ : ∃ p : Int, Hid (((2 ^ h : Nat) : Int) = p) := ⟨_, rfl⟩
  rw [Ha.out] at t0 hte
  rw [Hr.out] at t1 hte
  rw [Hx.out] at b2 hte
  rw [Hp.out] at b1 hte
  have HB := Lib.hid hB
  have Hte := Lib.hid hte
  clear hB hS2 hS hT hX hM hte
  have e2 := eqHelp
  have e3 := hsG
  go_enter Try.func77, Try.ntmps77
  go_wp2
  go_quiet (fail)
  go_wp2
  go_ret
  exact ⟨ret_bool (by rw [Bool.eq_iff_iff, Bool.and_eq_true, beq_iff_eq, beq_iff_eq, decide_eq_true_iff]; exact Hte.out), below_drewN HB.out _⟩
set_option maxHeartbeats 1600000 in
theorem whereMake_any (cb n sb kb : Nat) (N : Nat → Int) (M : Nat → Nat) (P : Nat → Bool) (w : World) (hr : RdC w cb n N M) (hn : n ≤ 7)
    (HF : ∀ i, i < n → ∀ w', Below w.heap.size w w' → Calls Try.prog 77 #[.agg #[.int .i64 (N i), .int .u64 (M i)], .pointer (some ⟨sb, 0, none⟩), .pointer (some ⟨kb, 0, none⟩)] w' fun e w'' => e = .returned (.bool (P i)) ∧ Below w'.heap.size w' w'') :
    Calls Try.prog 54 #[.slice (some ⟨cb, 0, none⟩) n n, .func (.func 77) #[] #[.pointer (some ⟨sb, 0, none⟩), .pointer (some ⟨kb, 0, none⟩)]] w (Where N M (selL P n) w) := by
  obtain ⟨i0, hi0, hz0, hz1, hz2⟩ := info_parts callInfo
  have Hr := Lib.hid hr
  have HF' := Lib.hid HF
  have hcb := hr.1
  have HO0 : Hid ((w.alloc (.cells #[] 55)).ownsRow w.heap.size 55 2 (.slice (some ⟨w.heap.size, 0, none⟩) 0 0) 0 (rowL N M [])) := World.ownsRow_lit w #[] 0 (Nat.le_refl _) (by decide) rfl
  have HB0 := Lib.hid ((Below.refl w.heap.size w).alloc (Nat.le_refl _) (.cells #[] 55))
  clear hr HF
  go_enter Try.func54, Try.ntmps54
  go_wp2
  go_loopw [5, 11] (fun s i wr => ∃ k m g c : Nat, k ≤ n ∧ i = .int .i64 k ∧ s = .slice (some ⟨g, 0, none⟩) m c ∧ Hid ((selL P k).length = m) ∧ Hid (wr.ownsRow w.heap.size 55 2 (.slice (some ⟨g, 0, none⟩) m c) m (rowL N M (selL P k))) ∧ Hid (Below w.heap.size w wr)) (fun _ i _ => n - (intOf i).toNat)
  case atStart => exact ⟨0, 0, _, _, Nat.zero_le _, rfl, rfl, rfl, HO0, HB0⟩
  case round =>
    clear HO0 HB0
    obtain ⟨k, m, g, c, hk, rfl, rfl, Hm, HO, HB⟩ := hrel
    by_cases hlt : k < n
    · have hrw := (Hr.out.keep HB.out hcb).2 k hlt
      have hc0 := hrw.1
      have hc1 := hrw.2
      clear hrw
      have hsz := HB.out.size
      have hB1 := HB.out.alloc HB.out.size (.cells #[.int .i64 (N k), .int .u64 (M k)] 55)
      have HB1 := Lib.hid hB1
      have HO1 := Lib.hid (HO.out.alloc (.cells #[.int .i64 (N k), .int .u64 (M k)] 55))
      have Hc := Lib.hid (HF'.out k hlt _ hB1)
      have Hh := Lib.hid (heap_alloc_new wr (.cells #[.int .i64 (N k), .int .u64 (M k)] 55))
      have Hs1 := Lib.hid (size_alloc1 wr (.cells #[.int .i64 (N k), .int .u64 (M k)] 55))
      clear hB1 HO HB
      go_wp2_with fail
      refine Hc.out.mono ?_
      rintro e w2 ⟨rfl, hq⟩
      have hh2 : w2.heap[wr.heap.size]? = some (.cells #[.int .i64 (N k), .int .u64 (M k)] 55 (0, 0)) := (hq.block _ (by rw [Hs1.out]; omega)).trans Hh.out
      have cx : w2.cell? ⟨wr.heap.size, 0, none⟩ = some (.int .i64 (N k)) := by rw [cell_of_row _ _ _ _ _ _ hh2]; rfl
      have cy : w2.cell? ⟨wr.heap.size, 1, none⟩ = some (.int .u64 (M k)) := by rw [cell_of_row _ _ _ _ _ _ hh2]; rfl
      have HB2 := Lib.hid (HB1.out.trans (hq.mono HB1.out.size))
      have HO2 := Lib.hid (ownN_below HO1.out hq)
      clear hq hh2 HB1 HO1 Hc Hh Hs1 hc0 hc1
      by_cases hP : P k = true
      · have Hl2 : Hid ((selL P (k + 1)).length = m + 1) := by show _ = _; simp only [selL]; rw [if_pos hP, List.length_append, Hm.out]; rfl
        have Hr2 : Hid (rowL N M (selL P (k + 1)) = rowL N M (selL P k) ++ [.int .i64 (N k), .int .u64 (M k)]) := by show _ = _; simp only [selL]; rw [if_pos hP, rowL_snoc]
        have hm7 : m ≤ 7 := by have h1 := selL_len P k; rw [Hm.out] at h1; have := blk_le P k; omega
        have hs1 : m + 1 ≤ maxLen := by unfold maxLen; omega
        have hs2 : (m + 1) * 16 ≤ 140737488355328 := by omega
        have hs3 : w.heap.size ≤ (w2.alloc (.cells #[.int .i64 (N k), .int .u64 (M k)] 55)).heap.size := by rw [size_alloc1]; have := HB2.out.size; omega
        rw [hP]
        clear hP
        go_wp2_with (at_builtin; refine wpList_append_lies _ rfl _ _ 49 rfl w.heap.size 55 i0 _ 2 16 Try.underlying49 hi0 hz0 hz1 hz2 rfl (by decide) _ _ _ rfl (World.ownsRow.alloc HO2.out _) ⟨w2.heap.size, 0, none⟩ 1 1 [.int .i64 (N k), .int .u64 (M k)] rfl rfl (lit_two _ _ _ _) (by intro u hu; simp at hu; rcases hu with rfl | rfl <;> rfl) (by decide) hs1 hs2 hs3 _ rfl ?_; intro g3 c3 w3 hown3 hgrow3 hat3 hlt3)
        have HO3 : Hid (w3.ownsRow w.heap.size 55 2 (.slice (some ⟨g3, 0, none⟩) (m + 1) c3) (m + 1) (rowL N M (selL P (k + 1)))) := by show World.ownsRow _ _ _ _ _ _ _; rw [Hr2.out]; exact hown3
        have HB3 := Lib.hid ((HB2.out.alloc HB2.out.size _).grown hgrow3 hs3 (fun g h => (HO2.out.lt g h).1))
        clear hown3 hgrow3 hat3 hlt3 HO2 HB2 cx cy
        go_wp2
        go_roundw
        case rel => exact ⟨k + 1, m + 1, g3, c3, by omega, by go_num, rfl, Hl2, HO3, HB3⟩
        case measure => simp [intOf]; omega
      · have hPf : P k = false := by simpa using hP
        have Hl2 : Hid (selL P (k + 1) = selL P k) := by show _ = _; simp only [selL]; rw [if_neg hP]
        rw [hPf]
        clear hP hPf
        go_wp2
        go_roundw
        case rel => exact ⟨k + 1, m, g, c, by omega, by go_num, rfl, by rw [Hl2.out]; exact Hm, by rw [Hl2.out]; exact HO2, HB2⟩
        case measure => simp [intOf]; omega
    · obtain rfl : k = n := by omega
      obtain ⟨A1, c1, e1, hc1, hc2, -⟩ := own_sliceN HO.out
      injection e1 with e2 e3 e4
      subst e4
      clear e2 e3
      go_wp2
      go_ret
      exact ⟨g, c, by rw [Hm.out]; rfl, by rw [Hm.out]; exact hc1, hc2, by rw [Hm.out]; exact HO, HB⟩
end Go.Proofs.Ytakljcpneghgnaa
