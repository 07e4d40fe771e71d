/-
  shareAt of the laws; FnBestPlace, walked.
  Conditions: as each theorem states.
-/
import Derived.Test.YtoohfipicmdohaaZ8
import Derived.Test.YtoohfipicmdohaaZ5
import Derived.Test.YtoohfipicmdohaaZ4
import Derived.Test.YtoohfipicmdohaaZ3
namespace Go.Proofs.Ytoohfipicmdohaa
open Go.ChangeShapes Go.WideShapes Go.ChangeAt Go.RowKit
set_option linter.unusedVariables false
set_option maxRecDepth 4000

theorem step_append_partG {w : World} {ops : Array Oper} {o : Oper} {a : Act} {K : Act → World → Prop} {Q : Exit → Act → World → Prop} {E : Prop} {i0 : TypeInfo} (hi0 : Try.prog.info? 3 = some i0) (hz0 : i0.zero = some (.int .i64 0)) (hz1 : i0.size = 1) (hz2 : i0.bytes = 8)
    (hgd : o.guard = none) (s x : Operand) (ho : o.op = .call { callee := .builtin .append, args := #[s, x], argTypes := #[23, 23] }) (base : Nat) (v : Value) (L : Nat) (zs : List Int) (hs : a.eval s = v)
    (hown : w.ownsRow base 3 1 v L (zs.map (Value.int .i64))) (hv : v ≠ .slice none 0 0) (b off n c : Nat) (xs : List Int) (hx : a.eval x = .slice (some ⟨b, off, none⟩) n c) (hp : PartQ w (some ⟨b, off, none⟩) n c xs) (hl : L ≤ 1000) (hn : n ≤ 1000) (hbase : base ≤ w.heap.size)
    (h : ∀ v' w', w'.ownsRow base 3 1 v' (L + n) ((zs ++ xs).map (Value.int .i64)) → v' ≠ .slice none 0 0 → Below base w w' → w.grownBy w' v.ownBlock → K (a.put o.dst v') w') :
    if Region.wanted o (yielded ops a.tmps) = true then Oper.wp Try.prog o a w K Q else E := by
  have hw : Region.wanted o (yielded ops a.tmps) = true := by simp [Region.wanted, hgd]
  rw [if_pos hw]
  refine wp_append_own w s x 23 ho base 3 i0 (.int .i64 0) 1 8 Try.underlying23 hi0 hz0 hz1 hz2 rfl (by decide) v L _ hs hown ⟨b, off, none⟩ n c (xs.map (Value.int .i64)) hx (by rw [List.length_map, hp.len, Nat.mul_one]) ?_ ?_ (by unfold maxLen; omega) (by omega) hbase ?_
  · intro j u hj
    rw [List.getElem?_map] at hj
    obtain ⟨y, hy, rfl⟩ := Option.map_eq_some_iff.1 hj
    have hjl : j < xs.length := (List.getElem?_eq_some_iff.1 hy).1
    obtain ⟨b', o', e', -, hc⟩ := hp.rd.at_ hjl
    injection e' with e'
    injection e' with e1 e2
    subst e1 e2
    rw [show (⟨b, off, none⟩ : Addr).add j = ⟨b, off + j, none⟩ by unfold Addr.add; split <;> simp_all, hc]
    simp [List.getD, hy]
  · intro u hu
    obtain ⟨y, _, rfl⟩ := List.mem_map.1 hu
    rfl
  · intro v' w' hown' hg hnil
    refine h v' w' (by rw [List.map_append]; exact hown') (fun e => hv ((hnil.1 e).1)) ((Below.refl _ _).grown hg hbase fun k hk => ?_) hg
    obtain ⟨-, h2⟩ := hown
    rcases h2 with ⟨h2, -⟩ | ⟨g, cap, cur, h2, h3, -⟩
    · exact absurd h2 hv
    · rw [h2] at hk
      injection hk with hk
      rw [← hk]; exact h3
theorem PartQ.grown {w w' : World} {b n c R : Nat} {xs : List Int} (h : PartQ w (some ⟨b, 0, none⟩) n c xs) (hA : b ≠ R) (hg : w.grownBy w' (some R)) : PartQ w' (some ⟨b, 0, none⟩) n c xs := by
  refine ⟨fun hp => ?_, h.len, h.nz, h.at_⟩
  obtain ⟨b', off, e, hb, hc⟩ := h.rd hp
  injection e with e
  injection e with e1 e2
  subst e1 e2
  exact ⟨b, 0, rfl, Nat.lt_of_lt_of_le hb hg.size, fun i hi => (World.cell?_of_block (hg.block b hb (fun e' => hA (by injection e')))).trans (hc i hi)⟩

theorem lit_grown {w w5 : World} {p : Nat} (hg : (((w.alloc (.cells #[] 3)).alloc (.cells #[.int .i64 ((p : Nat) : Int)] 3)).drew).grownBy w5 (Value.slice (some ⟨w.heap.size, 0, none⟩) 0 0).ownBlock) : PartQ w5 (some ⟨w.heap.size + 1, 0, none⟩) 1 1 (cI [p]) := by
  have h := partQ_one (w.alloc (.cells #[] 3)) p
  rw [size_alloc1] at h
  have h2 := h.later (Below.refl _ _).drew
  exact PartQ.grown (R := w.heap.size) h2 (Nat.succ_ne_self _) hg

theorem lit_grown2 {w w5 : World} {p : Nat} (hg : (((w.alloc (.cells #[.int .i64 ((p : Nat) : Int)] 3)).alloc (.cells #[] 3)).drew).grownBy w5 (Value.slice (some ⟨w.heap.size + 1, 0, none⟩) 0 0).ownBlock) : PartQ w5 (some ⟨w.heap.size, 0, none⟩) 1 1 (cI [p]) := by
  have h := partQ_one w p
  have h2 := h.later (((Below.refl _ _).alloc (Nat.le_refl _) (.cells #[] 3)).drew)
  exact PartQ.grown (R := w.heap.size + 1) h2 (Nat.succ_ne_self _).symm hg

set_option maxHeartbeats 3200000 in
theorem lShareAt_any (n p c m : Nat) (ss : List Nat) (A : Option Addr) (w : World) (h : PIn w A c m (cI ss)) (hS : Sh n ss) (h4 : ss.length ≠ 4) (hp : p < n) :
    Calls Try.prog 28 #[.int .i64 (n : Int), .slice A m c, .int .i64 (p : Int)] w fun e w' => e = .returned (.int .i64 ((adS n ss p : Nat) : Int)) ∧ Below w.heap.size w w' := by
  obtain ⟨i0, hi0, hz0, hz1, hz2⟩ := info_parts intInfo
  have hm : ss.length = m := by rw [← cI_length]; exact h.len
  have hl4 := hS.l4
  have hl1 := hS.l1
  have hn9 := hS.n9
  obtain ⟨b, off, -, hA, hbl, -⟩ := h.rd.q (k := 0) (by omega)
  subst hA
  have HP := Lib.hid h
  have Hm := Lib.hid hm
  have hmc := h.cap
  obtain ⟨hI, -⟩ := hS.ins h4 hp
  have HSh : Hid (∀ (A : Option Addr) (c : Nat) (W : World), PIn W A c (m + 1) (cI (insS ss p)) → Calls Try.prog 20 #[.int .i64 (n : Int), .slice A (m + 1 : Nat) c] W (RowQ (cI (shL n (insS ss p))) W)) := fun A c W hW => by
    have := iSharesOf_ok (n : Int) A c (m + 1) (cI (insS ss p)) W hW
    rw [shQ_yes hI] at this
    exact this
  have HL : Hid ((cI (insS ss p)).length = m + 1) := by show _ = _; rw [cI_length, insS_length, hm]
  have HL2 : Hid ((cI (shL n (insS ss p))).length = m + 1) := by show _ = _; rw [cI_length, shL_length, insS_length, hm]
  have HA : Hid ((cI (shL n (insS ss p))).getD (kS ss p) 0 = ((adS n ss p : Nat) : Int)) := by show _ = _; rw [cI_getD, ad_at]
  have hk := kS_le ss p
  rw [hm] at hk
  have Hlo := Lib.hid (fun t (h : t < kS ss p) => kS_below h)
  have Hhi := Lib.hid (fun t (h : kS ss p ≤ t) (hl : t < ss.length) => kS_from hS.asc h hl)
  have Hot : Hid ([] ++ cI (ss.take (kS ss p)) ++ cI [p] ++ cI (ss.drop (kS ss p)) = cI (insS ss p)) := by
    show _ = _
    rw [List.nil_append, ← cI_append, ← cI_append]
    unfold insS
    rw [List.append_assoc]
    rfl
  obtain ⟨K, HK⟩ : ∃ K, Hid (kS ss p = K) := ⟨_, rfl⟩
  rw [HK.out] at HA hk Hlo Hhi Hot
  have hm4 : m ≤ 4 := by omega
  have HPA : Hid (∀ V, Below w.heap.size w V → PartQ V (some ⟨b, off, none⟩) K c (cI (ss.take K))) := fun V hV =>
    ⟨(HP.out.later hV).rd.takeQ K, by rw [cI_length, List.length_take, Hm.out]; omega, (fun h => by cases h), fun a ha => ⟨b, off, by injection ha with ha; exact ha.symm⟩⟩
  obtain ⟨A', c', ⟨b', o', hA1⟩, hA2, hA3, htl⟩ := tail_runQ b off m c K hk hmc.1
  subst hA1
  have hhd := head_runQ b off m c K hk hmc.1
  have HPB : Hid (∀ V, Below w.heap.size w V → PartQ V (some ⟨b', o', none⟩) (m - K) c' (cI (ss.drop K))) := fun V hV => by
    refine ⟨?_, by rw [cI_length, List.length_drop, Hm.out], (fun h => by cases h), fun a ha => ⟨b', o', by injection ha with ha; exact ha.symm⟩⟩
    rcases hA2 with h0 | h0
    · rw [h0]; exact (HP.out.later hV).rd.dropQ K
    · intro hl; rw [cI_length, List.length_drop, Hm.out] at hl; omega
  have HO0 : Hid ((w.alloc (.cells #[] 3)).ownsRow w.heap.size 3 1 (.slice (some ⟨w.heap.size, 0, none⟩) 0 0) 0 (([] : List Int).map (Value.int .i64))) := World.ownsRow_lit w #[] 0 (Nat.le_refl _) (by decide) rfl
  have HB0 : Hid (Below w.heap.size w (w.alloc (.cells #[] 3))) := (Below.refl _ _).alloc (Nat.le_refl _) _
  have Hne0 : Hid ((Value.slice (some ⟨w.heap.size, 0, none⟩) 0 0) ≠ .slice none 0 0) := (by intro h; cases h)
  have HO1 : Hid ((((w.alloc (.cells #[] 3)).alloc (.cells #[.int .i64 ((p : Nat) : Int)] 3)).drew).ownsRow w.heap.size 3 1 (.slice (some ⟨w.heap.size, 0, none⟩) 0 0) 0 (([] : List Int).map (Value.int .i64))) := World.ownsRow.alloc HO0.out _
  have HB1 : Hid (Below w.heap.size w ((w.alloc (.cells #[] 3)).alloc (.cells #[.int .i64 ((p : Nat) : Int)] 3)).drew) := (HB0.out.alloc HB0.out.size _).drew
  have HL1 : Hid (PartQ ((w.alloc (.cells #[] 3)).alloc (.cells #[.int .i64 ((p : Nat) : Int)] 3)).drew (some ⟨w.heap.size + 1, 0, none⟩) 1 1 (cI [p])) := by
    have h := partQ_one (w.alloc (.cells #[] 3)) p
    rw [size_alloc1] at h
    exact h.later (Below.refl _ _).drew
  have HO2 : Hid ((((w.alloc (.cells #[.int .i64 ((p : Nat) : Int)] 3)).alloc (.cells #[] 3)).drew).ownsRow w.heap.size 3 1 (.slice (some ⟨w.heap.size + 1, 0, none⟩) 0 0) 0 (([] : List Int).map (Value.int .i64))) := by
    have h := World.ownsRow_lit (base := w.heap.size) (e := 3) (size := 1) (w.alloc (.cells #[.int .i64 ((p : Nat) : Int)] 3)) #[] 0 (by rw [size_alloc1]; omega) (by decide) rfl
    rw [size_alloc1] at h
    exact h
  have HB2 : Hid (Below w.heap.size w ((w.alloc (.cells #[.int .i64 ((p : Nat) : Int)] 3)).alloc (.cells #[] 3)).drew) := (((Below.refl _ _).alloc (Nat.le_refl _) _).alloc (by rw [size_alloc1]; omega) _).drew
  have Hne2 : Hid ((Value.slice (some ⟨w.heap.size + 1, 0, none⟩) 0 0) ≠ .slice none 0 0) := (by intro h; cases h)
  have hk1 : (0 : Int) ≤ (K : Int) := by omega
  have hk2 : (K : Int) ≤ (m : Int) := by omega
  clear h hS h4 hl4 hl1 hbl hI hm hA2 hA3
  go_enter Try.func28, Try.ntmps28
  go_wp2
  go_loop [7] (fun i => ∃ t : Nat, t ≤ K ∧ i = .int .i64 (t : Int)) (fun i => K - (intOf i).toNat)
  case atStart => exact ⟨0, Nat.zero_le _, rfl⟩
  case round =>
    obtain ⟨t, ht, rfl⟩ := hrel
    by_cases hlt : t < K
    · obtain ⟨b5, o5, s, e5, -, Hs, hcs⟩ := HP.out.rd.q (k := t) (by rw [Hm.out]; omega)
      injection e5 with e5
      injection e5 with e51 e52
      subst e51 e52
      have hsp : s < p := by rw [← Hs.out]; exact Hlo.out t hlt
      go_wp2
      go_round
      case rel => exact ⟨t + 1, by omega, by go_num⟩
      case measure => simp [intOf]; omega
    · obtain rfl : t = K := by omega
      rcases Nat.lt_or_ge t m with hKm | hKm
      · obtain ⟨b5, o5, s, e5, -, Hs, hcs⟩ := HP.out.rd.q (k := t) (by rw [Hm.out]; omega)
        injection e5 with e5
        injection e5 with e51 e52
        subst e51 e52
        have hsp : p ≤ s := by rw [← Hs.out]; exact Hhi.out t (Nat.le_refl _) (by rw [Hm.out]; omega)
        go_wp2
        clear hcs hsp Hs hKm
        go_region_law (first
          | (refine step_append_partQ hi0 hz0 hz1 hz2 rfl (.tmp 31) (.tmp 34) rfl w.heap.size v2 (0 + t + 1) ([] ++ cI (ss.take t) ++ cI [p]) rfl hown2 hne2 b' o' (m - t) c' (cI (ss.drop t)) rfl (HPB.out _ hb26) (by omega) (by omega) hb26.size ?_
             intro v3 w7 hown3 hne3 hb7)
          | (refine step_append_partQ hi0 hz0 hz1 hz2 rfl (.tmp 28) (.tmp 30) rfl w.heap.size v1 (0 + t) ([] ++ cI (ss.take t)) rfl hown1 hne1 (w.heap.size + 1) 0 1 1 (cI [p]) rfl hp5 (by omega) (by omega) hb15.size ?_
             intro v2 w6 hown2 hne2 hb6
             have hb26 := hb15.trans hb6)
          | (refine step_append_partQ hi0 hz0 hz1 hz2 rfl (.tmp 28) (.tmp 30) rfl w.heap.size v1 (0 + t) ([] ++ cI (ss.take t)) rfl hown1 hne1 w.heap.size 0 1 1 (cI [p]) rfl hp5 (by omega) (by omega) hb15.size ?_
             intro v2 w6 hown2 hne2 hb6
             have hb26 := hb15.trans hb6)
          | (refine step_append_partQ hi0 hz0 hz1 hz2 rfl (.tmp 28) (.tmp 30) rfl w.heap.size v1 (0 + t) ([] ++ cI (ss.take t)) rfl hown1 hne1 w5.heap.size 0 1 1 (cI [p]) rfl (partQ_one w5 p) (by omega) (by omega) hb15.size ?_
             intro v2 w6 hown2 hne2 hb6
             have hb26 := hb15.trans hb6)
          | (refine step_append_partG hi0 hz0 hz1 hz2 rfl (.tmp 24) (.tmp 27) rfl w.heap.size (.slice (some ⟨w.heap.size, 0, none⟩) 0 0) 0 [] rfl HO1.out Hne0.out b off t c (cI (ss.take t)) rfl (HPA.out _ HB1.out) (by omega) (by omega) HB1.out.size ?_
             intro v1 w5 hown1 hne1 hb5 hg5
             have hb15 := HB1.out.trans hb5
             have hp5 := lit_grown (p := p) hg5)
          | (refine step_append_partG hi0 hz0 hz1 hz2 rfl (.tmp 24) (.tmp 27) rfl w.heap.size (.slice (some ⟨w.heap.size + 1, 0, none⟩) 0 0) 0 [] rfl HO2.out Hne2.out b off t c (cI (ss.take t)) rfl (HPA.out _ HB2.out) (by omega) (by omega) HB2.out.size ?_
             intro v1 w5 hown1 hne1 hb5 hg5
             have hb15 := HB2.out.trans hb5
             have hp5 := lit_grown2 (p := p) hg5)
          | (refine step_append_partG hi0 hz0 hz1 hz2 rfl (.tmp 24) (.tmp 27) rfl w.heap.size (.slice (some ⟨w.heap.size, 0, none⟩) 0 0) 0 [] rfl HO0.out Hne0.out b off t c (cI (ss.take t)) rfl (HPA.out _ HB0.out.drew) (by omega) (by omega) HB0.out.drew.size ?_
             intro v1 w5 hown1' hne1 hb5 hg5
             have hb15 := (HB0.out.drew.trans hb5).alloc (HB0.out.drew.trans hb5).size (.cells #[.int .i64 ((p : Nat) : Int)] 3)
             have hown1 := World.ownsRow.alloc hown1' (.cells #[.int .i64 ((p : Nat) : Int)] 3)))
        all_goals
          rw [Hot.out] at hown3
          have HB7 : Hid (Below w.heap.size w w7) := hb26.trans hb7
          rw [show 0 + t + 1 + (m - t) = m + 1 by omega] at hown3
          obtain ⟨A6, c6, rfl, hc6, hc66, hr6⟩ := own_slice hown3 HL.out
          have HP6 : Hid (PIn w7 A6 c6 (m + 1) (cI (insS ss p))) := ⟨hr6, HL.out, ⟨hc6, hc66⟩, by omega⟩
          try clear hown1'
          try clear hp5
          clear hown1 hne1 hb5 hg5 hown2 hne2 hb6 hown3 hne3 hb7 hr6 hb15 hb26 HO0 HB0 HO1 HB1 HO2 HB2 Hne2 HL1 Hne0 HPA HPB htl hhd
          go_wp2_with fail
          refine (HSh.out _ _ _ HP6.out).mono ?_
          rintro e w8 ⟨A4, c4, rfl, ho4, hb4⟩
          rw [HL2.out] at ho4 ⊢
          obtain ⟨A5, c5, he, -, -, hrd⟩ := own_slice ho4.out HL2.out
          injection he with he1 _ he3
          subst he1 he3
          obtain ⟨b4, o4, x, rfl, -, Hx, hcx⟩ := hrd.x (k := t) (by rw [HL2.out]; omega)
          have hxe : x = ((adS n ss p : Nat) : Int) := Hx.out.symm.trans HA.out
          have HB8 : Hid (Below w.heap.size w w8) := HB7.out.trans (hb4.out.mono HB7.out.size)
          have Hxe := Lib.hid hxe
          have hge : ¬ ((m + 1 : Nat) : Int) ≤ (t : Int) := by omega
          have hge2 : decide ((t : Int) ≥ ((m + 1 : Nat) : Int)) = false := by simp; omega
          clear ho4 hb4 hrd hxe
          go_wp2
          go_ret
          exact ⟨ret_int Hxe.out, HB8.out⟩
      · go_wp2
        clear hKm
        go_region_law (first
          | (refine step_append_partQ hi0 hz0 hz1 hz2 rfl (.tmp 31) (.tmp 34) rfl w.heap.size v2 (0 + t + 1) ([] ++ cI (ss.take t) ++ cI [p]) rfl hown2 hne2 b' o' (m - t) c' (cI (ss.drop t)) rfl (HPB.out _ hb26) (by omega) (by omega) hb26.size ?_
             intro v3 w7 hown3 hne3 hb7)
          | (refine step_append_partQ hi0 hz0 hz1 hz2 rfl (.tmp 28) (.tmp 30) rfl w.heap.size v1 (0 + t) ([] ++ cI (ss.take t)) rfl hown1 hne1 (w.heap.size + 1) 0 1 1 (cI [p]) rfl hp5 (by omega) (by omega) hb15.size ?_
             intro v2 w6 hown2 hne2 hb6
             have hb26 := hb15.trans hb6)
          | (refine step_append_partQ hi0 hz0 hz1 hz2 rfl (.tmp 28) (.tmp 30) rfl w.heap.size v1 (0 + t) ([] ++ cI (ss.take t)) rfl hown1 hne1 w.heap.size 0 1 1 (cI [p]) rfl hp5 (by omega) (by omega) hb15.size ?_
             intro v2 w6 hown2 hne2 hb6
             have hb26 := hb15.trans hb6)
          | (refine step_append_partQ hi0 hz0 hz1 hz2 rfl (.tmp 28) (.tmp 30) rfl w.heap.size v1 (0 + t) ([] ++ cI (ss.take t)) rfl hown1 hne1 w5.heap.size 0 1 1 (cI [p]) rfl (partQ_one w5 p) (by omega) (by omega) hb15.size ?_
             intro v2 w6 hown2 hne2 hb6
             have hb26 := hb15.trans hb6)
          | (refine step_append_partG hi0 hz0 hz1 hz2 rfl (.tmp 24) (.tmp 27) rfl w.heap.size (.slice (some ⟨w.heap.size, 0, none⟩) 0 0) 0 [] rfl HO1.out Hne0.out b off t c (cI (ss.take t)) rfl (HPA.out _ HB1.out) (by omega) (by omega) HB1.out.size ?_
             intro v1 w5 hown1 hne1 hb5 hg5
             have hb15 := HB1.out.trans hb5
             have hp5 := lit_grown (p := p) hg5)
          | (refine step_append_partG hi0 hz0 hz1 hz2 rfl (.tmp 24) (.tmp 27) rfl w.heap.size (.slice (some ⟨w.heap.size + 1, 0, none⟩) 0 0) 0 [] rfl HO2.out Hne2.out b off t c (cI (ss.take t)) rfl (HPA.out _ HB2.out) (by omega) (by omega) HB2.out.size ?_
             intro v1 w5 hown1 hne1 hb5 hg5
             have hb15 := HB2.out.trans hb5
             have hp5 := lit_grown2 (p := p) hg5)
          | (refine step_append_partG hi0 hz0 hz1 hz2 rfl (.tmp 24) (.tmp 27) rfl w.heap.size (.slice (some ⟨w.heap.size, 0, none⟩) 0 0) 0 [] rfl HO0.out Hne0.out b off t c (cI (ss.take t)) rfl (HPA.out _ HB0.out.drew) (by omega) (by omega) HB0.out.drew.size ?_
             intro v1 w5 hown1' hne1 hb5 hg5
             have hb15 := (HB0.out.drew.trans hb5).alloc (HB0.out.drew.trans hb5).size (.cells #[.int .i64 ((p : Nat) : Int)] 3)
             have hown1 := World.ownsRow.alloc hown1' (.cells #[.int .i64 ((p : Nat) : Int)] 3)))
        all_goals
          rw [Hot.out] at hown3
          have HB7 : Hid (Below w.heap.size w w7) := hb26.trans hb7
          rw [show 0 + t + 1 + (m - t) = m + 1 by omega] at hown3
          obtain ⟨A6, c6, rfl, hc6, hc66, hr6⟩ := own_slice hown3 HL.out
          have HP6 : Hid (PIn w7 A6 c6 (m + 1) (cI (insS ss p))) := ⟨hr6, HL.out, ⟨hc6, hc66⟩, by omega⟩
          try clear hown1'
          try clear hp5
          clear hown1 hne1 hb5 hg5 hown2 hne2 hb6 hown3 hne3 hb7 hr6 hb15 hb26 HO0 HB0 HO1 HB1 HO2 HB2 Hne2 HL1 Hne0 HPA HPB htl hhd
          go_wp2_with fail
          refine (HSh.out _ _ _ HP6.out).mono ?_
          rintro e w8 ⟨A4, c4, rfl, ho4, hb4⟩
          rw [HL2.out] at ho4 ⊢
          obtain ⟨A5, c5, he, -, -, hrd⟩ := own_slice ho4.out HL2.out
          injection he with he1 _ he3
          subst he1 he3
          obtain ⟨b4, o4, x, rfl, -, Hx, hcx⟩ := hrd.x (k := t) (by rw [HL2.out]; omega)
          have hxe : x = ((adS n ss p : Nat) : Int) := Hx.out.symm.trans HA.out
          have HB8 : Hid (Below w.heap.size w w8) := HB7.out.trans (hb4.out.mono HB7.out.size)
          have Hxe := Lib.hid hxe
          have hge : ¬ ((m + 1 : Nat) : Int) ≤ (t : Int) := by omega
          have hge2 : decide ((t : Int) ≥ ((m + 1 : Nat) : Int)) = false := by simp; omega
          clear ho4 hb4 hrd hxe
          go_wp2
          go_ret
          exact ⟨ret_int Hxe.out, HB8.out⟩

def LbRel (d : Nat) (w : World) (i : Value) (wr : World) : Prop := ∃ q : Nat, q ≤ d ∧ i = .int .i64 (q : Int) ∧ Hid (Below w.heap.size w wr)
set_option maxHeartbeats 1600000 in
theorem lawBestPlace_walk (A : Option Addr) (c : Nat) (bs : List Int) (w : World) (hr : RdB w w.heap.size A bs) (hcap : bs.length ≤ c) (hm : c ≤ maxLen) :
    Calls Try.prog 5 #[.slice A bs.length c] w fun e w' => e = .returned (.bool true) ∧ Below w.heap.size w w' := by
  unfold maxLen at hm
  obtain ⟨n, Hn⟩ : ∃ n, Hid (bs.length = n) := ⟨_, rfl⟩
  rw [Hn.out] at hcap ⊢
  have HD := Lib.hid (drawBestPlace_any A c n bs w hr Hn.out hcap (by omega))
  have HI := Lib.hid iBestPlace_ok
  have HS := Lib.hid sBestPlace_ok
  clear hr
  by_cases hb : 1048576 < n
  · go_enter Try.func5, Try.ntmps5
    go_wp2
    go_ret
    exact ⟨rfl, Below.refl _ _⟩
  · go_enter Try.func5, Try.ntmps5
    go_wp2_with fail
    refine HD.out.mono ?_
    rintro e w1 ⟨d, A1, c1, m, zs, rfl, hd, hm1, hm4, hin, hb1⟩
    have N1 := Lib.hid hin.out
    have B1 := Lib.hid hb1.out
    clear hin hb1 HD hb hcap hm
    have hbe : ∀ x : Int, (x == x) = true := fun x => by simp
    have hbn : ∀ x : Int, (x != x) = false := fun x => by simp
    obtain ⟨v, Hv⟩ : ∃ v, Hid (bpQ (d : Int) zs = v) := ⟨_, rfl⟩
    go_wp2_with fail
    refine (HI.out (d : Int) A1 c1 m zs w1 N1.out).mono ?_
    rintro e w2 ⟨rfl, hq⟩
    rw [Hv.out]
    have N2 := Lib.hid (N1.out.later hq)
    have B2 := Lib.hid (B1.out.trans (hq.mono B1.out.size))
    clear hq
    go_wp2_with fail
    refine (HS.out (d : Int) A1 c1 m zs w2 N2.out).mono ?_
    rintro e w3 ⟨rfl, hq⟩
    rw [Hv.out]
    have N3 := Lib.hid (N2.out.later hq)
    have B3 := Lib.hid (B2.out.trans (hq.mono B2.out.size))
    clear hq
    by_cases hneg : v < 0
    · skip
      go_wp2_with fail
      refine (HS.out (d : Int) A1 c1 m zs w3 N3.out).mono ?_
      rintro e w4 ⟨rfl, hq⟩
      rw [Hv.out]
      have B4 := Lib.hid (B3.out.trans (hq.mono B3.out.size))
      clear hq
      go_wp2
      go_ret
      exact ⟨rfl, B4.out⟩
    · have hv4 : vsh (d : Int) zs = true ∧ zs.length < 4 := Classical.byContradiction fun hc => hneg (by
        rw [← Hv.out, bpQ_no (by
          by_cases h1 : vsh (d : Int) zs = true
          · exact Or.inr (by have : ¬ zs.length < 4 := fun h2 => hc ⟨h1, h2⟩; omega)
          · exact Or.inl (by simpa using h1))]
        omega)
      obtain ⟨hvs, h4⟩ := hv4
      obtain ⟨n', ss, hdn, rfl, hS⟩ := vsh_get hvs
      obtain rfl : d = n' := by omega
      rw [cI_length] at h4
      have hv := Hv.out
      rw [bpQ_yes hS h4] at hv
      have hn1 := hS.n1
      have hn9 := hS.n9
      obtain ⟨P, HP⟩ : ∃ P, Hid (bpS d ss = P) := ⟨_, rfl⟩
      have hP : P < d := by rw [← HP.out]; exact bpS_lt ss hn1
      rw [HP.out] at hv
      subst hv
      obtain ⟨f, Hf⟩ : ∃ f, Hid (adS d ss = f) := ⟨_, rfl⟩
      obtain ⟨M, HM⟩ : ∃ M, Hid (f P = M) := ⟨_, rfl⟩
      have HMx : Hid (∀ q, q < d → f q ≤ M) := fun q hq => by
        rw [← HM.out, ← HP.out, ← Hf.out]; exact bpK_max _ hq
      have hM0 : 0 < M := by rw [← HM.out, ← Hf.out]; exact (hS.ins (by omega) hP).2
      have HSB : Hid (∀ q W, q < d → PIn W A1 c1 m (cI ss) → Calls Try.prog 28 #[.int .i64 (d : Int), .slice A1 m c1, .int .i64 (q : Int)] W fun e w' => e = .returned (.int .i64 ((f q : Nat) : Int)) ∧ Below W.heap.size W w') := fun q W hq hW => by
        rw [← Hf.out]
        exact lShareAt_any d q c1 m ss A1 W hW hS (by omega) hq
      have HM0 := Lib.hid hM0
      clear hvs h4 hdn hS hneg hM0
      have hp0 : decide (((P : Nat) : Int) < 0) = false := by simp
      go_wp2_with fail
      refine (HSB.out P w3 hP N3.out).mono ?_
      rintro e w4 ⟨rfl, hq⟩
      rw [HM.out]
      have N4 := Lib.hid (N3.out.later hq)
      have B4 := Lib.hid (B3.out.trans (hq.mono B3.out.size))
      clear hq
      go_wp2
      go_loopw [7] (fun i wr => LbRel d w4 i wr) (fun i _ => d - (intOf i).toNat)
      case atStart => exact ⟨0, Nat.zero_le _, rfl, Below.refl _ _⟩
      case round =>
        obtain ⟨q, hqd, rfl, HB⟩ := hrel
        by_cases hlt : q < d
        · have N5 := Lib.hid (N4.out.later HB.out)
          go_wp2_with fail
          refine (HSB.out q _ hlt N5.out).mono ?_
          rintro e w5 ⟨rfl, hq5⟩
          have hle := HMx.out q hlt
          obtain ⟨a, Ha⟩ : ∃ a, Hid (f q = a) := ⟨_, rfl⟩
          rw [Ha.out] at hle ⊢
          have g1 : decide (((a : Nat) : Int) > ((M : Nat) : Int)) = false := by simp; omega
          have g2 : decide (M < a) = false := by simp; omega
          have HB5 : Hid (Below w4.heap.size w4 w5) := HB.out.trans (hq5.mono HB.out.size)
          clear hq5
          go_wp2
          go_roundw
          case rel => exact ⟨q + 1, by omega, by go_num, HB5⟩
          case measure => first | (simp [intOf]; done) | (simp [intOf]; omega)
        · obtain rfl : q = d := by omega
          have hM0 := HM0.out
          have g1 : decide (((M : Nat) : Int) > 0) = true := by simp; omega
          have g2 : decide (0 < M) = true := by simp; omega
          have HB6 := Lib.hid (B4.out.trans (HB.out.mono B4.out.size))
          go_wp2
          go_ret
          exact ⟨rfl, HB6.out⟩
end Go.Proofs.Ytoohfipicmdohaa
