/-
  The drawn arguments of IsPerfect's laws.
  Conditions: none beyond what each theorem states.
-/
import Derived.Test.YtkgomgfhhhdnjaaZ10
namespace Go.Proofs.Ytkgomgfhhhdnjaa
open Go.ChangeShapes Go.WideShapes Go.ChangeAt Go.RowKit
set_option linter.unusedVariables false
set_option maxRecDepth 4000

theorem RdI.tail9 {w : World} {B b off : Nat} {L : List Int} (h : RdI w B (some ⟨b, off, none⟩) L) : RdI w B (some ⟨b, off + 1, none⟩) L.tail := fun hp => by
  rw [List.length_tail] at hp
  obtain ⟨b', off', e, hb, hc⟩ := h (by omega)
  injection e with e
  injection e with e1 e2
  subst e1 e2
  refine ⟨b, off + 1, rfl, hb, fun i hi => ?_⟩
  rw [List.length_tail] at hi
  have hg : L.tail.getD i 0 = L.getD (i + 1) 0 := by cases L <;> simp
  rw [hg, show off + 1 + i = off + (i + 1) by omega]
  exact hc (i + 1) (by omega)
theorem tail_run9 (bw ow n c : Nat) (hc : n + 1 ≤ c) : ∃ A' c', (A' = some (⟨bw, ow + 1, none⟩ : Addr) ∨ n = 0) ∧ n ≤ c' ∧ c' ≤ c ∧ ∀ W' : World, (Instr.slice 25 (.slice (some ⟨bw, ow, none⟩) (n + 1) c) (some (.int .i64 1)) none none).run Try.prog W' = .ok (.slice A' n c') W' := by
  refine ⟨if c = 1 then some ⟨bw, ow, none⟩ else some ⟨bw, ow + 1, none⟩, c - 1, ?_, by omega, by omega, fun W' => ?_⟩
  · split
    · right; omega
    · left; rfl
  · have h1 : (1 : Int) ≤ ((n + 1 : Nat) : Int) := by omega
    go_simp
    exact fun h => absurd h (by omega)
theorem lstG_kept9 {W w' : World} {A : Option Addr} {c m R : Nat} {zs : List Int} (h : LstG W A c m zs) (hg : W.grownBy w' (some R)) (hA : 0 < m → ∃ g off, A = some ⟨g, off, none⟩ ∧ R < g) : LstG w' A c m zs := by
  refine ⟨fun hp => ?_, h.len, h.cap, h.most⟩
  obtain ⟨b, off, e, hb, hc⟩ := h.rd hp
  obtain ⟨g, off', e', hR⟩ := hA (by rw [← h.len]; exact hp)
  have hbg : b = g := by rw [e] at e'; injection e' with e'; injection e'
  exact ⟨b, off, e, Nat.lt_of_lt_of_le hb hg.size, fun i hi => (World.cell?_of_block (w := W) (hg.block b hb (by intro e9; injection e9 with e9; omega))).trans (hc i hi)⟩
def DrawnPerf (w : World) (e : Ending) (w' : World) : Prop :=
  ∃ a b : Nat, ∃ A c m, ∃ zs : List Int, ∃ far : Int, e = .returned (.tuple #[.int .i64 a, .int .i64 b, .slice A m c, .int .i64 far]) ∧ (1 ≤ a ∧ a ≤ 10) ∧ (1 ≤ b ∧ b ≤ 10) ∧ (-1 ≤ far ∧ far ≤ 2) ∧ Hid (LstG w' A c m zs) ∧ m ≤ 101 ∧ Hid (Below w.heap.size w w')
set_option maxHeartbeats 3200000 in
theorem drawIsPerfect_any (A : Option Addr) (c n : Nat) (bs : List Int) (w : World) (hr : RdB w w.heap.size A bs) (hn : bs.length = n) (hc : n ≤ c) (hm : c ≤ 9223372036854775807) :
    Calls Try.prog 28 #[.slice A n c] w (DrawnPerf w) := by
  obtain ⟨i0, hi0, hz0, hz1, hz2⟩ := info_parts intInfo
  have H := Lib.hid (newReader_any A c n bs w hr hn hc hm)
  have HSl := Lib.hid sSlantCells_ok
  clear hn
  go_enter Try.func28, Try.ntmps28
  go_wp2_with fail
  refine H.out.mono ?_
  rintro e w1 ⟨rfl, hg1, hnx1⟩
  have hlt := hg1.lt
  go_wp2_with fail
  refine (oneLit w.heap.size w.heap.size 0 [5, 5, 10, 3, 4, 1, 2] 7 1 10 w1 _ hg1 (by omega) rfl (by omega) (by omega) rfl (by decide)).mono ?_
  rintro e w2 ⟨a, rfl, ha0, ha1, hg2, hgr2⟩
  go_wp2_with fail
  refine (oneLit w.heap.size w.heap.size (0 + 1) [5, 5, 10, 3, 1, 2] 6 1 10 w2 _ hg2 (by omega) rfl (by omega) (by omega) rfl (by decide)).mono ?_
  rintro e w3 ⟨b, rfl, hb0, hb1, hg3, hgr3⟩
  have hgb3 := gb_trans hgr2 hgr3 (.inl rfl)
  clear hgr2 hgr3 hg2
  obtain ⟨a, rfl⟩ := Int.eq_ofNat_of_zero_le (show 0 ≤ a by omega)
  obtain ⟨b, rfl⟩ := Int.eq_ofNat_of_zero_le (show 0 ≤ b by omega)
  have hmm : (a : Int) * (b : Int) = ((a * b : Nat) : Int) := (Int.natCast_mul a b).symm
  have hm100 : a * b ≤ 100 := Nat.mul_le_mul (show a ≤ 10 by omega) (show b ≤ 10 by omega)
  obtain ⟨m, Hm⟩ : ∃ m, Hid (a * b = m) := ⟨_, rfl⟩
  rw [Hm.out] at hmm hm100
  go_wp2_with fail
  refine (pick_any w.heap.size w.heap.size (0 + 1 + 1) 5 w3 hg3 (by omega) (by omega) (by omega)).mono ?_
  rintro e w4 ⟨v, rfl, hv0, -, -, hg4, hgr4⟩
  have HB4 : Hid (Below w.heap.size w w4) := hnx1.trans (gb_below (gb_trans hgb3 hgr4 (.inl rfl)) (Nat.le_refl _) (Nat.le_of_lt hlt))
  clear hgb3 hgr4 hg3 hnx1
  have hxl := slG_len a b v
  obtain ⟨xs, Hxs⟩ : ∃ xs, Hid (slG a b v = xs) := ⟨_, rfl⟩
  rw [Hxs.out] at hxl
  obtain ⟨L, HL⟩ : ∃ L, Hid (xs.length = L) := ⟨_, rfl⟩
  rw [HL.out] at hxl
  have HSl2 : Hid (Calls Try.prog 33 #[.int .i64 a, .int .i64 b, .int .i64 v] w4 fun e w' => ∃ A' c', e = .returned (.slice A' L c') ∧ Hid (w'.ownsRow w4.heap.size 3 1 (.slice A' L c') L (xs.map (Value.int .i64))) ∧ Hid (Below w4.heap.size w4 w')) := by
    have := HSl.out a b v w4
    unfold RowG at this
    rw [Hxs.out, HL.out] at this
    exact this
  have hR4 := hg4.lt
  go_wp2_with fail
  refine HSl2.out.mono ?_
  rintro e w5 ⟨A', c', rfl, hO5, hB5⟩
  have hg5 := gr_below9 hg4 hB5.out
  have HB5 := Lib.hid (HB4.out.trans (hB5.out.mono HB4.out.size))
  have HS45 : Hid (w4.heap.size ≤ w5.heap.size) := hB5.out.size
  clear HSl2 hB5 hg4
  go_wp2_with fail
  refine (pick_any w.heap.size w.heap.size (0 + 1 + 1 + 1) 8 w5 hg5 (by omega) (by omega) (by omega)).mono ?_
  rintro e w6 ⟨t, rfl, ht0, -, -, hg6, hgr6⟩
  have hO6 := World.ownsRow.kept hO5.out hgr6 (.inr (fun e => by have := (World.ownsRow.lt hO5.out _ e).1; omega))
  have HB6 : Hid (Below w.heap.size w w6) := HB5.out.trans (gb_below hgr6 (Nat.le_refl _) HB5.out.size)
  obtain ⟨A1, c1, he1, hLc, hc63, hRd⟩ := own_slice hO6 HL.out
  injection he1 with he1 he2 he3
  subst he1 he3
  have HF6 : Hid (0 < L → ∃ g off, A' = some ⟨g, off, none⟩ ∧ w.heap.size < g) := fun h0 => by
    obtain ⟨A2, c2, e2, -, -, h2⟩ := own_sliceN hO6
    injection e2 with e2
    obtain ⟨g, hg, hg2, -⟩ := h2 h0
    exact ⟨g, 0, by rw [e2]; exact hg, by omega⟩
  have HS46 : Hid (w4.heap.size ≤ w6.heap.size) := Nat.le_trans HS45.out hgr6.size
  have HR6 : Hid (w.heap.size < w6.heap.size) := hg6.lt
  have HO6 := Lib.hid hO6
  have HL6 : Hid (LstG w6 A' c' L xs) := ⟨hRd, HL.out, ⟨hLc, hc63⟩, by omega⟩
  have Hg6 := Lib.hid hg6
  clear hgr6 hg6 hg5 hO6 hO5 hRd he2
  by_cases ht : t = 0
  · subst ht
    by_cases hL0 : 0 < L
    · obtain ⟨g, rfl, hgR⟩ : ∃ g, A' = some ⟨g, 0, none⟩ ∧ w.heap.size < g := by
        obtain ⟨A2, c2, e2, -, -, h2⟩ := own_sliceN HO6.out
        injection e2 with e2
        obtain ⟨g, hg, hg2, -⟩ := h2 hL0
        exact ⟨g, by rw [e2]; exact hg, by omega⟩
      obtain ⟨L, rfl⟩ : ∃ L', L = L' + 1 := ⟨L - 1, by omega⟩
      obtain ⟨A2, c2, hA2, hc2, hc3, hsl⟩ := tail_run9 g 0 L c' hLc
      have HL2 : Hid (LstG w6 A2 c2 L xs.tail) := by
        refine ⟨?_, by rw [List.length_tail, HL.out]; omega, ⟨hc2, by omega⟩, by omega⟩
        rcases hA2 with rfl | rfl
        · exact HL6.out.rd.tail9
        · exact fun hp => by rw [List.length_tail, HL.out] at hp; omega
      have HF2 : Hid (0 < L → ∃ g off, A2 = some ⟨g, off, none⟩ ∧ w.heap.size < g) := fun h0 => by
        rcases hA2 with rfl | rfl
        · exact ⟨g, _, rfl, hgR⟩
        · omega
      clear HO6 HL6 hA2
      go_wp2_with fail
      refine (oneLit w.heap.size w.heap.size (0 + 1 + 1 + 1 + 1 + 1) [1, 1, 1, 2, 0, 1, 1, -1] 8 (-1) 2 w6 _ (Hg6.out.more (by omega)) (by omega) rfl (by omega) (by omega) rfl (by decide)).mono ?_
      rintro e w9 ⟨far, rfl, hf0, hf1, -, hgr9⟩
      have HB9 : Hid (Below w.heap.size w w9) := HB6.out.trans (gb_below hgr9 (Nat.le_refl _) HB6.out.size)
      have HL9 : Hid (LstG w9 A2 c2 L xs.tail) := lstG_kept9 HL2.out hgr9 HF2.out
      clear hgr9
      go_wp2
      refine bodyPost_ret (results_tmp4G rfl _ _ _) rfl ?_
      exact ⟨a, b, _, _, _, _, far, rfl, by omega, by omega, by omega, HL9, by omega, HB9⟩
    · have hL1 : ¬ (0 : Int) < (L : Int) := by omega
      clear HO6 hL0
      go_wp2_with fail
      refine (oneLit w.heap.size w.heap.size (0 + 1 + 1 + 1 + 1 + 1) [1, 1, 1, 2, 0, 1, 1, -1] 8 (-1) 2 w6 _ (Hg6.out.more (by omega)) (by omega) rfl (by omega) (by omega) rfl (by decide)).mono ?_
      rintro e w9 ⟨far, rfl, hf0, hf1, -, hgr9⟩
      have HB9 : Hid (Below w.heap.size w w9) := HB6.out.trans (gb_below hgr9 (Nat.le_refl _) HB6.out.size)
      have HL9 : Hid (LstG w9 A' c' L xs) := lstG_kept9 HL6.out hgr9 HF6.out
      clear hgr9
      go_wp2
      refine bodyPost_ret (results_tmp4G rfl _ _ _) rfl ?_
      exact ⟨a, b, _, _, _, _, far, rfl, by omega, by omega, by omega, HL9, by omega, HB9⟩
  · have htb : (t == 0) = false := by rw [beq_eq_false_iff_ne]; exact ht
    by_cases ht1 : t = 1
    · subst ht1
      clear HO6 HL6
      go_wp2_with fail
      refine (pick_any w.heap.size w.heap.size (0 + 1 + 1 + 1 + 1) (m : Int) w6 Hg6.out (by omega) (by omega) (by omega)).mono ?_
      rintro e w7 ⟨x, rfl, hx0, -, -, hg7, hgr7⟩
      have HB7 : Hid (Below w.heap.size w (w7.alloc (.cells #[.int .i64 x] 3))) := (HB6.out.trans (gb_below hgr7 (Nat.le_refl _) HB6.out.size)).alloc ((HB6.out.trans (gb_below hgr7 (Nat.le_refl _) HB6.out.size)).size) _
      have Hg7 := Lib.hid (gr_below9 hg7 ((Below.refl _ _).alloc (Nat.le_refl _) (.cells #[.int .i64 x] 3)))
      have HL7 : Hid (LstG (w7.alloc (.cells #[.int .i64 x] 3)) (some ⟨w7.heap.size, 0, none⟩) 1 1 [x]) := by
        have ho : (w7.alloc (.cells #[.int .i64 x] 3)).ownsRow w7.heap.size 3 1 (.slice (some ⟨w7.heap.size, 0, none⟩) 1 1) 1 ([x].map (Value.int .i64)) := World.ownsRow_lit w7 #[.int .i64 x] 1 (Nat.le_refl _) (by decide) rfl
        obtain ⟨A3, c3, e3, -, -, hr3⟩ := own_slice ho rfl
        injection e3 with e3 _ _
        subst e3
        exact ⟨hr3, rfl, ⟨Nat.le_refl _, by omega⟩, by omega⟩
      have HR7 : Hid (w.heap.size < w7.heap.size) := Nat.lt_of_lt_of_le HR6.out hgr7.size
      clear hgr7 hg7
      go_wp2_with fail
      refine (oneLitAt (w7.heap.size + 1) w.heap.size w.heap.size (0 + 1 + 1 + 1 + 1 + 1) [1, 1, 1, 2, 0, 1, 1, -1] 8 (-1) 2 (w7.alloc (.cells #[.int .i64 x] 3)) _ (Hg7.out.more (by omega)) (by omega) rfl (by omega) (by omega) rfl (by decide) (size_alloc1 _ _)).mono ?_
      rintro e w9 ⟨far, rfl, hf0, hf1, -, hgr9⟩
      have HB9 : Hid (Below w.heap.size w w9) := HB7.out.trans (gb_below hgr9 (Nat.le_refl _) HB7.out.size)
      have HL9 : Hid (LstG w9 (some ⟨w7.heap.size, 0, none⟩) 1 1 [x]) := lstG_kept9 HL7.out hgr9 (fun _ => ⟨_, 0, rfl, HR7.out⟩)
      clear hgr9
      go_wp2
      refine bodyPost_ret (results_tmp4G rfl _ _ _) rfl ?_
      exact ⟨a, b, _, _, _, _, far, rfl, by omega, by omega, by omega, HL9, by omega, HB9⟩
    · have htb1 : (t == 1) = false := by rw [beq_eq_false_iff_ne]; exact ht1
      by_cases ht2 : t = 2
      · subst ht2
        have hs0 : w4.heap.size ≤ (w6.alloc (.cells #[.int .i64 m] 3)).heap.size := by rw [size_alloc1]; have := HS46.out; omega
        have hsz : L + 1 ≤ maxLen := by unfold maxLen; omega
        have hsz2 : (L + 1) * 8 ≤ 140737488355328 := by omega
        clear HL6
        go_wp2_with (at_builtin; refine wpList_append_own _ rfl _ _ 25 rfl w4.heap.size 3 i0 (.int .i64 0) 1 8 Try.underlying25 hi0 hz0 hz1 hz2 rfl (by decide) _ _ _ rfl (World.ownsRow.alloc HO6.out _) ⟨w6.heap.size, 0, none⟩ 1 1 [.int .i64 m] rfl rfl (cell_one_new _ _ _) (by intro u hu; simp at hu; subst hu; rfl) hsz hsz2 hs0 ?_; intro v8 w8 hown8 hgrow8 _)
        have HB8 : Hid (Below w.heap.size w w8) := (HB6.out.alloc HB6.out.size _).grown hgrow8 (by rw [size_alloc1]; have := HB6.out.size; omega) (fun k hk => by have := (World.ownsRow.lt HO6.out k hk).1; omega)
        have Hg8 : Hid (GR w8 w.heap.size w.heap.size (0 + 1 + 1 + 1 + 1)) := (gr_below9 Hg6.out ((Below.refl _ _).alloc (Nat.le_refl _) (.cells #[.int .i64 m] 3))).kept hgrow8 (fun k hk => by have := (World.ownsRow.lt HO6.out k hk).1; omega)
        have hx8 : xs.map (Value.int .i64) ++ [Value.int .i64 (m : Int)] = (xs ++ [(m : Int)]).map (Value.int .i64) := by simp
        rw [hx8] at hown8
        obtain ⟨A8, c8, rfl, hLc8, hc638, hRd8⟩ := own_slice hown8 (by rw [List.length_append, HL.out]; rfl)
        have HF8 : Hid (0 < L + 1 → ∃ g off, A8 = some ⟨g, off, none⟩ ∧ w.heap.size < g) := fun h0 => by
          obtain ⟨A2, c2, e2, -, -, h2⟩ := own_sliceN hown8
          injection e2 with e2
          obtain ⟨g, hg, hg2, -⟩ := h2 h0
          exact ⟨g, 0, by rw [e2]; exact hg, by omega⟩
        have HL8 : Hid (LstG w8 A8 c8 (L + 1) (xs ++ [(m : Int)])) := ⟨hRd8, by rw [List.length_append, HL.out]; rfl, ⟨hLc8, hc638⟩, by omega⟩
        clear hown8 hgrow8 HO6 hRd8 hs0 hx8
        go_wp2_with fail
        refine (oneLit w.heap.size w.heap.size (0 + 1 + 1 + 1 + 1 + 1) [1, 1, 1, 2, 0, 1, 1, -1] 8 (-1) 2 w8 _ (Hg8.out.more (by omega)) (by omega) rfl (by omega) (by omega) rfl (by decide)).mono ?_
        rintro e w9 ⟨far, rfl, hf0, hf1, -, hgr9⟩
        have HB9 : Hid (Below w.heap.size w w9) := HB8.out.trans (gb_below hgr9 (Nat.le_refl _) HB8.out.size)
        have HL9 : Hid (LstG w9 A8 c8 (L + 1) (xs ++ [(m : Int)])) := lstG_kept9 HL8.out hgr9 HF8.out
        clear hgr9
        go_wp2
        refine bodyPost_ret (results_tmp4G rfl _ _ _) rfl ?_
        exact ⟨a, b, _, _, _, _, far, rfl, by omega, by omega, by omega, HL9, by omega, HB9⟩
      · have htb2 : (t == 2) = false := by rw [beq_eq_false_iff_ne]; exact ht2
        by_cases ht3 : t = 3
        · subst ht3
          clear HO6 HL6
          have HB7 : Hid (Below w.heap.size w (w6.alloc (.cells #[] 3))) := HB6.out.alloc HB6.out.size _
          have Hg7 := Lib.hid (gr_below9 Hg6.out ((Below.refl _ _).alloc (Nat.le_refl _) (.cells #[] 3)))
          have HL7 : Hid (LstG (w6.alloc (.cells #[] 3)) (some ⟨w6.heap.size, 0, none⟩) 0 0 []) := ⟨RdI.nil _ _ _, rfl, ⟨Nat.le_refl _, by omega⟩, by omega⟩
          go_wp2_with fail
          refine (oneLitAt (w6.heap.size + 1) w.heap.size w.heap.size (0 + 1 + 1 + 1 + 1 + 1) [1, 1, 1, 2, 0, 1, 1, -1] 8 (-1) 2 (w6.alloc (.cells #[] 3)) _ (Hg7.out.more (by omega)) (by omega) rfl (by omega) (by omega) rfl (by decide) (size_alloc1 _ _)).mono ?_
          rintro e w9 ⟨far, rfl, hf0, hf1, -, hgr9⟩
          have HB9 : Hid (Below w.heap.size w w9) := HB7.out.trans (gb_below hgr9 (Nat.le_refl _) HB7.out.size)
          have HL9 : Hid (LstG w9 (some ⟨w6.heap.size, 0, none⟩) 0 0 []) := lstG_kept9 HL7.out hgr9 (fun h0 => absurd h0 (by omega))
          clear hgr9
          go_wp2
          refine bodyPost_ret (results_tmp4G rfl _ _ _) rfl ?_
          exact ⟨a, b, _, _, _, _, far, rfl, by omega, by omega, by omega, HL9, by omega, HB9⟩
        · have htb3 : (t == 3) = false := by rw [beq_eq_false_iff_ne]; exact ht3
          clear HO6
          go_wp2_with fail
          refine (oneLit w.heap.size w.heap.size (0 + 1 + 1 + 1 + 1 + 1) [1, 1, 1, 2, 0, 1, 1, -1] 8 (-1) 2 w6 _ (Hg6.out.more (by omega)) (by omega) rfl (by omega) (by omega) rfl (by decide)).mono ?_
          rintro e w9 ⟨far, rfl, hf0, hf1, -, hgr9⟩
          have HB9 : Hid (Below w.heap.size w w9) := HB6.out.trans (gb_below hgr9 (Nat.le_refl _) HB6.out.size)
          have HL9 : Hid (LstG w9 A' c' L xs) := lstG_kept9 HL6.out hgr9 HF6.out
          clear hgr9
          go_wp2
          refine bodyPost_ret (results_tmp4G rfl _ _ _) rfl ?_
          exact ⟨a, b, _, _, _, _, far, rfl, by omega, by omega, by omega, HL9, by omega, HB9⟩
end Go.Proofs.Ytkgomgfhhhdnjaa
