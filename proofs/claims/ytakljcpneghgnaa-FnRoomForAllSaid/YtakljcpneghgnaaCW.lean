/-
  callsWhere of the program, walked, with the closure of LeastBlock; roomOf.
  Conditions: as each theorem states.
-/
import Derived.Test.YtakljcpneghgnaaHC
namespace Go.Proofs.Ytakljcpneghgnaa
open Go.ChangeShapes Go.WideShapes Go.ChangeAt Go.RowKit
set_option linter.unusedVariables false
set_option maxRecDepth 4000

/-- Calls as they are read. -/
def RdC (w : World) (b n : Nat) (N : Nat → Int) (M : Nat → Nat) : Prop :=
  b < w.heap.size ∧ ∀ i, i < n → w.cell? ⟨b, i * 2, none⟩ = some (.int .i64 (N i)) ∧ w.cell? ⟨b, i * 2 + 1, none⟩ = some (.int .u64 (M i))
theorem RdC.keep {w w' : World} {b n B : Nat} {N : Nat → Int} {M : Nat → Nat} (h : RdC w b n N M) (hb : Below B w w') (hB : b < B) : RdC w' b n N M :=
  ⟨Nat.lt_of_lt_of_le h.1 hb.size, fun i hi => ⟨(hb.cell hB).trans (h.2 i hi).1, (hb.cell hB).trans (h.2 i hi).2⟩⟩
theorem rdC_own {w : World} {B b n c : Nat} {N : Nat → Int} {M : Nat → Nat} (h : w.ownsRow B 55 2 (.slice (some ⟨b, 0, none⟩) n c) n (row2 (cP N) (cQ M) n)) : RdC w b n N M :=
  ⟨(h.lt b rfl).2, fun i hi => ⟨(h.cellAt (i * 2) (by omega)).trans (row2_get0 hi), (h.cellAt (i * 2 + 1) (by omega)).trans (row2_get1 hi)⟩⟩
/-- Those of the first calls of which something is so. -/
def selL (P : Nat → Bool) : Nat → List Nat
  | 0 => []
  | k + 1 => if P k = true then selL P k ++ [k] else selL P k
theorem selL_len (P : Nat → Bool) : ∀ n, (selL P n).length = blk P n
  | 0 => rfl
  | k + 1 => by
    simp only [selL, blk]
    split
    · rw [List.length_append, selL_len P k]; rfl
    · rw [selL_len P k]; rfl
theorem selL_mem {P : Nat → Bool} {i : Nat} : ∀ {n}, i ∈ selL P n ↔ i < n ∧ P i = true
  | 0 => by simp [selL]
  | k + 1 => by
    have ih := selL_mem (P := P) (i := i) (n := k)
    simp only [selL]
    split
    · rename_i h
      rw [List.mem_append, ih, List.mem_singleton]
      constructor
      · rintro (⟨h1, h2⟩ | h1)
        · exact ⟨by omega, h2⟩
        · rw [h1]; exact ⟨by omega, h⟩
      · rintro ⟨h1, h2⟩
        by_cases e : i = k
        · exact .inr e
        · exact .inl ⟨by omega, h2⟩
    · rename_i h
      rw [ih]
      constructor
      · rintro ⟨h1, h2⟩; exact ⟨by omega, h2⟩
      · rintro ⟨h1, h2⟩
        by_cases e : i = k
        · subst e; exact absurd h2 h
        · exact ⟨by omega, h2⟩
/-- The calls with these numbers, as a row. -/
def rowL (N : Nat → Int) (M : Nat → Nat) (L : List Nat) : List Value := row2 (cP fun i => N (L.getD i 0)) (cQ fun i => M (L.getD i 0)) L.length
theorem rowL_snoc (N : Nat → Int) (M : Nat → Nat) (L : List Nat) (k : Nat) : rowL N M (L ++ [k]) = rowL N M L ++ [.int .i64 (N k), .int .u64 (M k)] := by
  unfold rowL
  rw [show (L ++ [k]).length = L.length + 1 by simp, row2_snoc]
  congr 1
  · refine row2_congr fun i hi => ⟨?_, ?_⟩ <;> (simp only [cP, cQ]; rw [show (L ++ [k]).getD i 0 = L.getD i 0 by simp [List.getD, List.getElem?_append_left hi]])
  · simp only [cP, cQ]
    rw [show (L ++ [k]).getD L.length 0 = k by simp [List.getD]]
theorem lit_two (w : World) (x y : Value) (t : TypeId) : ∀ j u, [x, y][j]? = some u → (w.alloc (.cells #[x, y] t)).cell? ((⟨w.heap.size, 0, none⟩ : Addr).add j) = some u := by
  intro j u hu
  rw [addr_add0, cell_of_row _ _ _ _ t (0, 0) (heap_alloc_new w _)]
  simpa using hu
def Where (N : Nat → Int) (M : Nat → Nat) (L : List Nat) (w : World) (e : Ending) (w' : World) : Prop :=
  ∃ g c, e = .returned (.slice (some ⟨g, 0, none⟩) L.length c) ∧ L.length ≤ c ∧ c ≤ 9223372036854775807 ∧ Hid (w'.ownsRow w.heap.size 55 2 (.slice (some ⟨g, 0, none⟩) L.length c) L.length (rowL N M L)) ∧ Hid (Below w.heap.size w w')
set_option maxHeartbeats 1600000 in
theorem whereBlock_any (cb n pb : Nat) (N : Nat → Int) (M : Nat → Nat) (P : Nat → Bool) (w : World) (hr : RdC w cb n N M) (hn : n ≤ 7)
    (HF : ∀ i, i < n → ∀ w', Below w.heap.size w w' → Calls Try.prog 55 #[.agg #[.int .i64 (N i), .int .u64 (M i)], .pointer (some ⟨pb, 0, none⟩)] w' fun e w'' => e = .returned (.bool (P i)) ∧ Below w'.heap.size w' w'') :
    Calls Try.prog 54 #[.slice (some ⟨cb, 0, none⟩) n n, .func (.func 55) #[] #[.pointer (some ⟨pb, 0, none⟩)]] w (Where N M (selL P n) w) := by
  obtain ⟨i0, hi0, hz0, hz1, hz2⟩ := info_parts callInfo
  have Hr := Lib.hid hr
  have HF' := Lib.hid HF
  have hcb := hr.1
  have HO0 : Hid ((w.alloc (.cells #[] 55)).ownsRow w.heap.size 55 2 (.slice (some ⟨w.heap.size, 0, none⟩) 0 0) 0 (rowL N M [])) := World.ownsRow_lit w #[] 0 (Nat.le_refl _) (by decide) rfl
  have HB0 := Lib.hid ((Below.refl w.heap.size w).alloc (Nat.le_refl _) (.cells #[] 55))
  clear hr HF
  go_enter Try.func54, Try.ntmps54
  go_wp2
  go_loopw [5, 11] (fun s i wr => ∃ k m g c : Nat, k ≤ n ∧ i = .int .i64 k ∧ s = .slice (some ⟨g, 0, none⟩) m c ∧ Hid ((selL P k).length = m) ∧ Hid (wr.ownsRow w.heap.size 55 2 (.slice (some ⟨g, 0, none⟩) m c) m (rowL N M (selL P k))) ∧ Hid (Below w.heap.size w wr)) (fun _ i _ => n - (intOf i).toNat)
  case atStart => exact ⟨0, 0, _, _, Nat.zero_le _, rfl, rfl, rfl, HO0, HB0⟩
  case round =>
    clear HO0 HB0
    obtain ⟨k, m, g, c, hk, rfl, rfl, Hm, HO, HB⟩ := hrel
    by_cases hlt : k < n
    · have hrw := (Hr.out.keep HB.out hcb).2 k hlt
      have hc0 := hrw.1
      have hc1 := hrw.2
      clear hrw
      have hsz := HB.out.size
      have hB1 := HB.out.alloc HB.out.size (.cells #[.int .i64 (N k), .int .u64 (M k)] 55)
      have HB1 := Lib.hid hB1
      have HO1 := Lib.hid (HO.out.alloc (.cells #[.int .i64 (N k), .int .u64 (M k)] 55))
      have Hc := Lib.hid (HF'.out k hlt _ hB1)
      have Hh := Lib.hid (heap_alloc_new wr (.cells #[.int .i64 (N k), .int .u64 (M k)] 55))
      have Hs1 := Lib.hid (size_alloc1 wr (.cells #[.int .i64 (N k), .int .u64 (M k)] 55))
      clear hB1 HO HB
      go_wp2_with fail
      refine Hc.out.mono ?_
      rintro e w2 ⟨rfl, hq⟩
      have hh2 : w2.heap[wr.heap.size]? = some (.cells #[.int .i64 (N k), .int .u64 (M k)] 55 (0, 0)) := (hq.block _ (by rw [Hs1.out]; omega)).trans Hh.out
      have cx : w2.cell? ⟨wr.heap.size, 0, none⟩ = some (.int .i64 (N k)) := by rw [cell_of_row _ _ _ _ _ _ hh2]; rfl
      have cy : w2.cell? ⟨wr.heap.size, 1, none⟩ = some (.int .u64 (M k)) := by rw [cell_of_row _ _ _ _ _ _ hh2]; rfl
      have HB2 := Lib.hid (HB1.out.trans (hq.mono HB1.out.size))
      have HO2 := Lib.hid (ownN_below HO1.out hq)
      clear hq hh2 HB1 HO1 Hc Hh Hs1 hc0 hc1
      by_cases hP : P k = true
      · have Hl2 : Hid ((selL P (k + 1)).length = m + 1) := by show _ = _; simp only [selL]; rw [if_pos hP, List.length_append, Hm.out]; rfl
        have Hr2 : Hid (rowL N M (selL P (k + 1)) = rowL N M (selL P k) ++ [.int .i64 (N k), .int .u64 (M k)]) := by show _ = _; simp only [selL]; rw [if_pos hP, rowL_snoc]
        have hm7 : m ≤ 7 := by have h1 := selL_len P k; rw [Hm.out] at h1; have := blk_le P k; omega
        have hs1 : m + 1 ≤ maxLen := by unfold maxLen; omega
        have hs2 : (m + 1) * 16 ≤ 140737488355328 := by omega
        have hs3 : w.heap.size ≤ (w2.alloc (.cells #[.int .i64 (N k), .int .u64 (M k)] 55)).heap.size := by rw [size_alloc1]; have := HB2.out.size; omega
        rw [hP]
        clear hP
        go_wp2_with (at_builtin; refine wpList_append_lies _ rfl _ _ 49 rfl w.heap.size 55 i0 _ 2 16 Try.underlying49 hi0 hz0 hz1 hz2 rfl (by decide) _ _ _ rfl (World.ownsRow.alloc HO2.out _) ⟨w2.heap.size, 0, none⟩ 1 1 [.int .i64 (N k), .int .u64 (M k)] rfl rfl (lit_two _ _ _ _) (by intro u hu; simp at hu; rcases hu with rfl | rfl <;> rfl) (by decide) hs1 hs2 hs3 _ rfl ?_; intro g3 c3 w3 hown3 hgrow3 hat3 hlt3)
        have HO3 : Hid (w3.ownsRow w.heap.size 55 2 (.slice (some ⟨g3, 0, none⟩) (m + 1) c3) (m + 1) (rowL N M (selL P (k + 1)))) := by show World.ownsRow _ _ _ _ _ _ _; rw [Hr2.out]; exact hown3
        have HB3 := Lib.hid ((HB2.out.alloc HB2.out.size _).grown hgrow3 hs3 (fun g h => (HO2.out.lt g h).1))
        clear hown3 hgrow3 hat3 hlt3 HO2 HB2 cx cy
        go_wp2
        go_roundw
        case rel => exact ⟨k + 1, m + 1, g3, c3, by omega, by go_num, rfl, Hl2, HO3, HB3⟩
        case measure => simp [intOf]; omega
      · have hPf : P k = false := by simpa using hP
        have Hl2 : Hid (selL P (k + 1) = selL P k) := by show _ = _; simp only [selL]; rw [if_neg hP]
        rw [hPf]
        clear hP hPf
        go_wp2
        go_roundw
        case rel => exact ⟨k + 1, m, g, c, by omega, by go_num, rfl, by rw [Hl2.out]; exact Hm, by rw [Hl2.out]; exact HO2, HB2⟩
        case measure => simp [intOf]; omega
    · obtain rfl : k = n := by omega
      obtain ⟨A1, c1, e1, hc1, hc2, -⟩ := own_sliceN HO.out
      injection e1 with e2 e3 e4
      subst e4
      clear e2 e3
      go_wp2
      go_ret
      exact ⟨g, c, by rw [Hm.out]; rfl, by rw [Hm.out]; exact hc1, hc2, by rw [Hm.out]; exact HO, HB⟩
theorem blockClosure_any (S : Nat) (pb : Nat) (nr : Int) (m : Nat) (w : World) (hc : w.cell? ⟨pb, 0, none⟩ = some (.int .u64 (S : Nat))) {b : Bool} (h : (bits BinOp.andNot IntKind.u64 (m : Int) (S : Int) != 0) = b) :
    Calls Try.prog 55 #[.agg #[.int .i64 nr, .int .u64 m], .pointer (some ⟨pb, 0, none⟩)] w fun e w' => e = .returned (.bool b) ∧ Below w.heap.size w w' := by
  have hc2 : (w.alloc (.cells #[.int .i64 nr, .int .u64 m] 55)).cell? ⟨pb, 0, none⟩ = some (.int .u64 (S : Nat)) := (World.cell?_alloc_lt w _ _ (World.block_lt_of_cell? w _ hc)).trans hc
  have HB := Lib.hid ((Below.refl w.heap.size w).alloc (Nat.le_refl _) (.cells #[.int .i64 nr, .int .u64 m] 55))
  go_enter Try.func55, Try.ntmps55
  go_wp2
  go_ret
  exact ⟨rfl, HB.out⟩
set_option maxHeartbeats 800000 in
theorem roomOf_any (A : Option Addr) (c H S : Nat) (room : List Int) (w : World) (B : Nat) (hr : RdI w B A room) (hH : room.length = H) (h4 : H ≤ 4) (hS : S < 16) (hR : ∀ h, h < H → 0 ≤ rR room h ∧ rR room h ≤ 7) :
    Calls Try.prog 56 #[.slice A H c, .int .u64 (S : Nat)] w fun e w' => e = .returned (.int .i64 (rsm (rR room) S H)) ∧ w = w' := by
  have HH := Lib.hid hH
  have Hrs : Hid (∀ k, k ≤ H → 0 ≤ rsm (rR room) S k ∧ rsm (rR room) S k ≤ 7 * (k : Int)) := fun k hk => rsm_bd S k fun h hh => hR h (by omega)
  have HR := Lib.hid hR
  clear hH hR
  go_enter Try.func56, Try.ntmps56
  go_wp2
  go_loop [5, 10] (fun a i => ∃ k : Nat, k ≤ H ∧ i = .int .i64 k ∧ a = .int .i64 (rsm (rR room) S k)) (fun _ i => H - (intOf i).toNat)
  case atStart => exact ⟨0, Nat.zero_le _, rfl, rfl⟩
  case round =>
    obtain ⟨k, hk, rfl, rfl⟩ := hrel
    have hrs := Hrs.out k hk
    obtain ⟨a, Ha⟩ : ∃ a, Hid (rsm (rR room) S k = a) := ⟨_, rfl⟩
    rw [Ha.out] at hrs ⊢
    by_cases hlk : k < H
    · obtain ⟨b, off, x, rfl, -, Hx, hcx⟩ := hr.x (k := k) (by rw [HH.out]; exact hlk)
      have hxb := HR.out k hlk
      have hxe : rR room k = x := Hx.out
      rw [hxe] at hxb
      have hsh := shrM_all ⟨S, hS⟩ ⟨k, by omega⟩
      simp only at hsh
      by_cases hbit : S.testBit k = true
      · rw [hbit] at hsh
        have Hn2 : Hid (rsm (rR room) S (k + 1) = a + x) := by show _ = _; simp only [rsm]; rw [if_pos hbit, Ha.out, hxe]
        have w3 : IntKind.i64.wrap (a + x) = a + x := IntWalk.i64_in _ (by omega)
        clear hbit hxe
        go_wp2
        go_round
        case rel => exact ⟨k + 1, by omega, by go_num, by rw [Hn2.out]⟩
        case measure => simp [intOf]; omega
      · have hb2 : S.testBit k = false := by simpa using hbit
        rw [hb2] at hsh
        have Hn2 : Hid (rsm (rR room) S (k + 1) = a) := by show _ = _; simp only [rsm]; rw [if_neg hbit, Ha.out]; omega
        clear hbit hb2 hxe
        go_wp2
        go_round
        case rel => exact ⟨k + 1, by omega, by go_num, by rw [Hn2.out]⟩
        case measure => simp [intOf]; omega
    · obtain rfl : k = H := by omega
      have HN : Hid (rsm (rR room) S k = a) := Ha.out
      go_wp2
      go_ret
      exact ⟨ret_int HN.out.symm, rfl⟩
end Go.Proofs.Ytakljcpneghgnaa
