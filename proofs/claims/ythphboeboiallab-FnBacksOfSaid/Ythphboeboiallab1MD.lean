/-
  withSpot of the model, walked: one more spot put in, behind those that are no greater.
  Conditions: at most a hundred spots.
-/
import Derived.Test.Ythphboeboiallab0AP
import Derived.Test.Ythphboeboiallab0XI
import Derived.Test.Ythphboeboiallab1D
import Derived.Deep.RegionLaw
namespace Go.Proofs.Ythphboeboiallab
open Go.ChangeShapes Go.WideShapes Go.ChangeAt Go.RowKit
set_option linter.unusedVariables false
set_option maxRecDepth 4000

theorem partQ_oneI (w : World) (p : Int) : PartQ (w.alloc (.cells #[.int .i64 p] 3)) (some ⟨w.heap.size, 0, none⟩) 1 1 [p] :=
  ⟨fun _ => ⟨w.heap.size, 0, rfl, by rw [size_alloc1]; omega, fun i hi => by
    obtain rfl : i = 0 := by simp at hi; exact hi
    rw [cell_of_row _ _ _ _ _ _ (heap_alloc_new w _)]; rfl⟩, rfl, (fun h => by cases h), fun a ha => ⟨w.heap.size, 0, by injection ha with ha; exact ha.symm⟩⟩
theorem lit_grownI {w w5 : World} {p : Int} (hg : (((w.alloc (.cells #[] 3)).alloc (.cells #[.int .i64 p] 3)).drew).grownBy w5 (Value.slice (some ⟨w.heap.size, 0, none⟩) 0 0).ownBlock) : PartQ w5 (some ⟨w.heap.size + 1, 0, none⟩) 1 1 [p] := by
  have h := partQ_oneI (w.alloc (.cells #[] 3)) p
  rw [size_alloc1] at h
  have h2 := h.later (Below.refl _ _).drew
  exact PartQ.grown (R := w.heap.size) h2 (Nat.succ_ne_self _) hg
theorem lit_grown2I {w w5 : World} {p : Int} (hg : (((w.alloc (.cells #[.int .i64 p] 3)).alloc (.cells #[] 3)).drew).grownBy w5 (Value.slice (some ⟨w.heap.size + 1, 0, none⟩) 0 0).ownBlock) : PartQ w5 (some ⟨w.heap.size, 0, none⟩) 1 1 [p] := by
  have h := partQ_oneI w p
  have h2 := h.later (((Below.refl _ _).alloc (Nat.le_refl _) (.cells #[] 3)).drew)
  exact PartQ.grown (R := w.heap.size + 1) h2 (Nat.succ_ne_self _).symm hg
theorem RdI.takeI {w : World} {B : Nat} {A : Option Addr} {zs : List Int} (h : RdI w B A zs) (i : Nat) : RdI w B A (zs.take i) := fun hp => by
  rw [List.length_take] at hp
  obtain ⟨b, off, e, hb, hc⟩ := h (by omega)
  refine ⟨b, off, e, hb, fun j hj => ?_⟩
  rw [List.length_take] at hj
  rw [hc j (by omega)]
  simp [List.getD, show j < i by omega]
/-- How many are no greater, from the first one on. -/
def ktI : List Int → Int → Nat
  | [], _ => 0
  | a :: r, t => if a ≤ t then ktI r t + 1 else 0
theorem ktI_le : ∀ (l : List Int) (t : Int), ktI l t ≤ l.length
  | [], _ => Nat.le_refl _
  | a :: r, t => by
    rw [ktI]
    have := ktI_le r t
    split <;> simp only [List.length_cons] <;> omega
theorem ktI_low : ∀ {l : List Int} {t : Int} {j : Nat}, j < ktI l t → l.getD j 0 ≤ t
  | [], _, _, h => by simp [ktI] at h
  | a :: r, t, j, h => by
    rw [ktI] at h
    split at h
    · rename_i ha
      match j, h with
      | 0, _ => exact ha
      | j + 1, h =>
        rw [List.getD_cons_succ]
        exact ktI_low (by omega)
    · omega
theorem ktI_at : ∀ {l : List Int} {t : Int}, ktI l t < l.length → t < l.getD (ktI l t) 0
  | [], _, h => by simp [ktI] at h
  | a :: r, t, h => by
    by_cases ha : a ≤ t
    · have e : ktI (a :: r) t = ktI r t + 1 := by rw [ktI, if_pos ha]
      rw [e, List.length_cons] at h
      rw [e, List.getD_cons_succ]
      exact ktI_at (by omega)
    · have e : ktI (a :: r) t = 0 := by rw [ktI, if_neg ha]
      rw [e, List.getD_cons_zero]
      omega
theorem wsI_cut : ∀ (l : List Int) (t : Int), wsI l t = l.take (ktI l t) ++ [t] ++ l.drop (ktI l t)
  | [], t => rfl
  | a :: r, t => by
    by_cases ha : a ≤ t
    · have e : ktI (a :: r) t = ktI r t + 1 := by rw [ktI, if_pos ha]
      rw [e, wsI, if_pos ha, wsI_cut r t]
      simp
    · have e : ktI (a :: r) t = 0 := by rw [ktI, if_neg ha]
      rw [e, wsI, if_neg ha]
      simp
set_option maxHeartbeats 3200000 in
theorem withSpot_any (b off c m : Nat) (p : Int) (ss : List Int) (w : World) (h : PIn w (some ⟨b, off, none⟩) c m ss) (hm : m ≤ 100) :
    Calls Try.prog 59 #[.slice (some ⟨b, off, none⟩) m c, .int .i64 p] w (RowQ (wsI ss p) w) := by
  obtain ⟨i0, hi0, hz0, hz1, hz2⟩ := info_parts intInfo
  have HP := Lib.hid h
  have Hm := Lib.hid h.len
  have hmc := h.cap
  have HL : Hid ((wsI ss p).length = m + 1) := by show _ = _; rw [wsI_len, h.len]
  have hk := ktI_le ss p
  rw [h.len] at hk
  have Hlo := Lib.hid (fun t (h : t < ktI ss p) => ktI_low h)
  have Hhi := Lib.hid (fun (h : ktI ss p < ss.length) => ktI_at h)
  have Hot : Hid ([] ++ ss.take (ktI ss p) ++ [p] ++ ss.drop (ktI ss p) = wsI ss p) := by
    show _ = _
    rw [List.nil_append, wsI_cut]
  obtain ⟨K, HK⟩ : ∃ K, Hid (ktI ss p = K) := ⟨_, rfl⟩
  rw [HK.out] at hk Hlo Hhi Hot
  have HPA : Hid (∀ V, Below w.heap.size w V → PartQ V (some ⟨b, off, none⟩) K c (ss.take K)) := fun V hV =>
    ⟨(HP.out.later hV).rd.takeI K, by rw [List.length_take, Hm.out]; omega, (fun h => by cases h), fun a ha => ⟨b, off, by injection ha with ha; exact ha.symm⟩⟩
  obtain ⟨A', c', ⟨b', o', hA1⟩, hA2, hA3, htl⟩ := tail_runQ b off m c K hk hmc.1
  subst hA1
  have hhd := head_runQ b off m c K hk hmc.1
  have HPB : Hid (∀ V, Below w.heap.size w V → PartQ V (some ⟨b', o', none⟩) (m - K) c' (ss.drop K)) := fun V hV => by
    refine ⟨?_, by rw [List.length_drop, Hm.out], (fun h => by cases h), fun a ha => ⟨b', o', by injection ha with ha; exact ha.symm⟩⟩
    rcases hA2 with h0 | h0
    · rw [h0]; exact (HP.out.later hV).rd.dropI K
    · intro hl; rw [List.length_drop, Hm.out] at hl; omega
  have HO0 : Hid ((w.alloc (.cells #[] 3)).ownsRow w.heap.size 3 1 (.slice (some ⟨w.heap.size, 0, none⟩) 0 0) 0 (([] : List Int).map (Value.int .i64))) := World.ownsRow_lit w #[] 0 (Nat.le_refl _) (by decide) rfl
  have HB0 : Hid (Below w.heap.size w (w.alloc (.cells #[] 3))) := (Below.refl _ _).alloc (Nat.le_refl _) _
  have Hne0 : Hid ((Value.slice (some ⟨w.heap.size, 0, none⟩) 0 0) ≠ .slice none 0 0) := (by intro h; cases h)
  have HO1 : Hid ((((w.alloc (.cells #[] 3)).alloc (.cells #[.int .i64 p] 3)).drew).ownsRow w.heap.size 3 1 (.slice (some ⟨w.heap.size, 0, none⟩) 0 0) 0 (([] : List Int).map (Value.int .i64))) := World.ownsRow.alloc HO0.out _
  have HB1 : Hid (Below w.heap.size w ((w.alloc (.cells #[] 3)).alloc (.cells #[.int .i64 p] 3)).drew) := (HB0.out.alloc HB0.out.size _).drew
  have HO2 : Hid ((((w.alloc (.cells #[.int .i64 p] 3)).alloc (.cells #[] 3)).drew).ownsRow w.heap.size 3 1 (.slice (some ⟨w.heap.size + 1, 0, none⟩) 0 0) 0 (([] : List Int).map (Value.int .i64))) := by
    have h := World.ownsRow_lit (base := w.heap.size) (e := 3) (size := 1) (w.alloc (.cells #[.int .i64 p] 3)) #[] 0 (by rw [size_alloc1]; omega) (by decide) rfl
    rw [size_alloc1] at h
    exact h
  have HB2 : Hid (Below w.heap.size w ((w.alloc (.cells #[.int .i64 p] 3)).alloc (.cells #[] 3)).drew) := (((Below.refl _ _).alloc (Nat.le_refl _) _).alloc (by rw [size_alloc1]; omega) _).drew
  have Hne2 : Hid ((Value.slice (some ⟨w.heap.size + 1, 0, none⟩) 0 0) ≠ .slice none 0 0) := (by intro h; cases h)
  have hk1 : (0 : Int) ≤ (K : Int) := by omega
  have hk2 : (K : Int) ≤ (m : Int) := by omega
  clear h hA2 hA3
  go_enter Try.func59, Try.ntmps59
  go_wp2
  go_loop [5] (fun i => ∃ t : Nat, t ≤ K ∧ i = .int .i64 (t : Int)) (fun i => K - (intOf i).toNat)
  case atStart => exact ⟨0, Nat.zero_le _, rfl⟩
  case round =>
    obtain ⟨t, ht, rfl⟩ := hrel
    by_cases hlt : t < K
    · obtain ⟨b5, o5, s, e5, -, Hs, hcs⟩ := HP.out.rd.x (k := t) (by rw [Hm.out]; omega)
      injection e5 with e5
      injection e5 with e51 e52
      subst e51 e52
      have hsp : s ≤ p := by rw [← Hs.out]; exact Hlo.out t hlt
      have htm : (t : Int) < (m : Int) := by omega
      go_wp2
      go_round
      case rel => exact ⟨t + 1, by omega, by go_num⟩
      case measure => simp [intOf]; omega
    · obtain rfl : t = K := by omega
      rcases Nat.lt_or_ge t m with hKm | hKm
      · obtain ⟨b5, o5, s, e5, -, Hs, hcs⟩ := HP.out.rd.x (k := t) (by rw [Hm.out]; omega)
        injection e5 with e5
        injection e5 with e51 e52
        subst e51 e52
        have hsp : ¬ s ≤ p := by have := Hhi.out (by rw [Hm.out]; exact hKm); rw [Hs.out] at this; omega
        have htm : (t : Int) < (m : Int) := by omega
        go_wp2
        clear hcs hsp Hs hKm htm
        go_region_law (first
          | (refine step_append_partQ hi0 hz0 hz1 hz2 rfl (.tmp 27) (.tmp 30) rfl w.heap.size v2 (0 + t + 1) ([] ++ ss.take t ++ [p]) rfl hown2 hne2 b' o' (m - t) c' (ss.drop t) rfl (HPB.out _ hb26) (by omega) (by omega) hb26.size ?_
             intro v3 w7 hown3 hne3 hb7)
          | (refine step_append_partQ hi0 hz0 hz1 hz2 rfl (.tmp 24) (.tmp 26) rfl w.heap.size v1 (0 + t) ([] ++ ss.take t) rfl hown1 hne1 (w.heap.size + 1) 0 1 1 [p] rfl hp5 (by omega) (by omega) hb15.size ?_
             intro v2 w6 hown2 hne2 hb6
             have hb26 := hb15.trans hb6)
          | (refine step_append_partQ hi0 hz0 hz1 hz2 rfl (.tmp 24) (.tmp 26) rfl w.heap.size v1 (0 + t) ([] ++ ss.take t) rfl hown1 hne1 w.heap.size 0 1 1 [p] rfl hp5 (by omega) (by omega) hb15.size ?_
             intro v2 w6 hown2 hne2 hb6
             have hb26 := hb15.trans hb6)
          | (refine step_append_partQ hi0 hz0 hz1 hz2 rfl (.tmp 24) (.tmp 26) rfl w.heap.size v1 (0 + t) ([] ++ ss.take t) rfl hown1 hne1 w5.heap.size 0 1 1 [p] rfl (partQ_oneI w5 p) (by omega) (by omega) hb15.size ?_
             intro v2 w6 hown2 hne2 hb6
             have hb26 := hb15.trans hb6)
          | (refine step_append_partG hi0 hz0 hz1 hz2 rfl (.tmp 20) (.tmp 23) rfl w.heap.size (.slice (some ⟨w.heap.size, 0, none⟩) 0 0) 0 [] rfl HO1.out Hne0.out b off t c (ss.take t) rfl (HPA.out _ HB1.out) (by omega) (by omega) HB1.out.size ?_
             intro v1 w5 hown1 hne1 hb5 hg5
             have hb15 := HB1.out.trans hb5
             have hp5 := lit_grownI (p := p) hg5)
          | (refine step_append_partG hi0 hz0 hz1 hz2 rfl (.tmp 20) (.tmp 23) rfl w.heap.size (.slice (some ⟨w.heap.size + 1, 0, none⟩) 0 0) 0 [] rfl HO2.out Hne2.out b off t c (ss.take t) rfl (HPA.out _ HB2.out) (by omega) (by omega) HB2.out.size ?_
             intro v1 w5 hown1 hne1 hb5 hg5
             have hb15 := HB2.out.trans hb5
             have hp5 := lit_grown2I (p := p) hg5)
          | (refine step_append_partG hi0 hz0 hz1 hz2 rfl (.tmp 20) (.tmp 23) rfl w.heap.size (.slice (some ⟨w.heap.size, 0, none⟩) 0 0) 0 [] rfl HO0.out Hne0.out b off t c (ss.take t) rfl (HPA.out _ HB0.out.drew) (by omega) (by omega) HB0.out.drew.size ?_
             intro v1 w5 hown1' hne1 hb5 hg5
             have hb15 := (HB0.out.drew.trans hb5).alloc (HB0.out.drew.trans hb5).size (.cells #[.int .i64 p] 3)
             have hown1 := World.ownsRow.alloc hown1' (.cells #[.int .i64 p] 3)))
        all_goals
          rw [Hot.out] at hown3
          rw [show 0 + t + 1 + (m - t) = m + 1 by omega] at hown3
          have HE : Hid (RowQ (wsI ss p) w (.returned v3) w7) := by
            obtain ⟨A6, c6, rfl, -, -, -⟩ := own_slice hown3 HL.out
            exact ⟨A6, c6, by rw [HL.out], by rw [HL.out]; exact hown3, hb26.trans hb7⟩
          clear hown3 hne3 hb7
          go_wp2
          go_ret
          exact HE.out
      · have htm : ¬ (t : Int) < (m : Int) := by omega
        go_wp2
        clear hKm htm
        go_region_law (first
          | (refine step_append_partQ hi0 hz0 hz1 hz2 rfl (.tmp 27) (.tmp 30) rfl w.heap.size v2 (0 + t + 1) ([] ++ ss.take t ++ [p]) rfl hown2 hne2 b' o' (m - t) c' (ss.drop t) rfl (HPB.out _ hb26) (by omega) (by omega) hb26.size ?_
             intro v3 w7 hown3 hne3 hb7)
          | (refine step_append_partQ hi0 hz0 hz1 hz2 rfl (.tmp 24) (.tmp 26) rfl w.heap.size v1 (0 + t) ([] ++ ss.take t) rfl hown1 hne1 (w.heap.size + 1) 0 1 1 [p] rfl hp5 (by omega) (by omega) hb15.size ?_
             intro v2 w6 hown2 hne2 hb6
             have hb26 := hb15.trans hb6)
          | (refine step_append_partQ hi0 hz0 hz1 hz2 rfl (.tmp 24) (.tmp 26) rfl w.heap.size v1 (0 + t) ([] ++ ss.take t) rfl hown1 hne1 w.heap.size 0 1 1 [p] rfl hp5 (by omega) (by omega) hb15.size ?_
             intro v2 w6 hown2 hne2 hb6
             have hb26 := hb15.trans hb6)
          | (refine step_append_partQ hi0 hz0 hz1 hz2 rfl (.tmp 24) (.tmp 26) rfl w.heap.size v1 (0 + t) ([] ++ ss.take t) rfl hown1 hne1 w5.heap.size 0 1 1 [p] rfl (partQ_oneI w5 p) (by omega) (by omega) hb15.size ?_
             intro v2 w6 hown2 hne2 hb6
             have hb26 := hb15.trans hb6)
          | (refine step_append_partG hi0 hz0 hz1 hz2 rfl (.tmp 20) (.tmp 23) rfl w.heap.size (.slice (some ⟨w.heap.size, 0, none⟩) 0 0) 0 [] rfl HO1.out Hne0.out b off t c (ss.take t) rfl (HPA.out _ HB1.out) (by omega) (by omega) HB1.out.size ?_
             intro v1 w5 hown1 hne1 hb5 hg5
             have hb15 := HB1.out.trans hb5
             have hp5 := lit_grownI (p := p) hg5)
          | (refine step_append_partG hi0 hz0 hz1 hz2 rfl (.tmp 20) (.tmp 23) rfl w.heap.size (.slice (some ⟨w.heap.size + 1, 0, none⟩) 0 0) 0 [] rfl HO2.out Hne2.out b off t c (ss.take t) rfl (HPA.out _ HB2.out) (by omega) (by omega) HB2.out.size ?_
             intro v1 w5 hown1 hne1 hb5 hg5
             have hb15 := HB2.out.trans hb5
             have hp5 := lit_grown2I (p := p) hg5)
          | (refine step_append_partG hi0 hz0 hz1 hz2 rfl (.tmp 20) (.tmp 23) rfl w.heap.size (.slice (some ⟨w.heap.size, 0, none⟩) 0 0) 0 [] rfl HO0.out Hne0.out b off t c (ss.take t) rfl (HPA.out _ HB0.out.drew) (by omega) (by omega) HB0.out.drew.size ?_
             intro v1 w5 hown1' hne1 hb5 hg5
             have hb15 := (HB0.out.drew.trans hb5).alloc (HB0.out.drew.trans hb5).size (.cells #[.int .i64 p] 3)
             have hown1 := World.ownsRow.alloc hown1' (.cells #[.int .i64 p] 3)))
        all_goals
          rw [Hot.out] at hown3
          rw [show 0 + t + 1 + (m - t) = m + 1 by omega] at hown3
          have HE : Hid (RowQ (wsI ss p) w (.returned v3) w7) := by
            obtain ⟨A6, c6, rfl, -, -, -⟩ := own_slice hown3 HL.out
            exact ⟨A6, c6, by rw [HL.out], by rw [HL.out]; exact hown3, hb26.trans hb7⟩
          clear hown3 hne3 hb7
          go_wp2
          go_ret
          exact HE.out
end Go.Proofs.Ythphboeboiallab
