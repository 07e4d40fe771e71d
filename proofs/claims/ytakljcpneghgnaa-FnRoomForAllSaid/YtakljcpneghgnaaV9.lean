/-
  push of the model, walked: a call is given to a helper, others moved on if need be.
  Conditions: at most four helpers and seven calls.
-/
import Derived.Test.YtakljcpneghgnaaV8
import Derived.OneCell
import Derived.Maps.AppendAt
namespace Go.Proofs.Ytakljcpneghgnaa
open Go.ChangeShapes Go.WideShapes Go.ChangeAt Go.RowKit
set_option linter.unusedVariables false
set_option maxRecDepth 4000

set_option maxHeartbeats 4000000 in
theorem push_step (room : List Int) (wish : List (List Int)) (B H n f : Nat) (hv : vroom room wish = true) (hH : room.length = H) (hn : wish.length = n) (IH : ∀ f', f' < f → PushAt room wish B H n f') : PushAt room wish B H n f := by
  intro A A' cr cw gh ch gs c M sn w hr hw hBs hm hne hc hnc hun hS hG hpre
  obtain ⟨h4, h7, hR, hW⟩ := (vroom_iff _ _).1 hv
  rw [hH] at h4 hR hW
  rw [hn] at h7 hW
  obtain ⟨i0, hi0, hz0, hz1, hz2⟩ := info_parts intInfo
  have HIH := Lib.hid IH
  have HWl := Lib.hid hW
  have HRb : Hid (∀ h, h < H → 0 ≤ rR room h ∧ rR room h ≤ 7) := fun h hh => hR h hh
  have HH := Lib.hid hH
  have Hn := Lib.hid hn
  have HG := Lib.hid hG
  have HM := Lib.hid hm
  have HS := Lib.hid hS
  have Hpre := Lib.hid hpre
  have Hun := Lib.hid hun
  have Hr := Lib.hid hr
  have Hw := Lib.hid hw
  have Hne := Lib.hid hne
  obtain ⟨bw, ow, al, ca, ls, rfl, hbw, Hl, hcl, hca, hcm, hrl⟩ := hw.x (k := c) (by rw [hn]; exact hc)
  have HasL := HWl.out c hc
  rw [Hl.out] at HasL
  obtain ⟨t, Ht⟩ : ∃ t, Hid (ls.length = t) := ⟨_, rfl⟩
  rw [Ht.out] at hcl hca HasL
  have Has := Lib.hid HasL
  have Hcl := Lib.hid hcl
  have Hrl := Lib.hid hrl
  clear IH hR hW hH hn hG hm hS hpre hun hr hw hne HasL hcl hrl hv
  go_enter Try.func74, Try.ntmps74
  have Hgb : Hid (∀ wr, w.grownBy wr (some gs) → Below B w wr ∧ HasR wr gh n M) := fun wr hg => ⟨gb_below hg hBs (Nat.le_of_lt (HS.out.lt gs rfl).2), HM.out.kept hg Hne.out⟩
  go_wp2
  go_loopw [12] (fun kv wr => ∃ k : Nat, ∃ s, k ≤ t ∧ kv = .int .i64 k ∧ Hid (PuNo (rR room) (mayW wish) H n M sn s ∧ ∀ j, j < k → ∀ x : Nat, ls.getD j 0 = x → s x = true) ∧ Hid (wr.ownsRow B 4 1 (.slice (some ⟨gs, 0, none⟩) H H) H (bRow s H)) ∧ Hid (w.grownBy wr (some gs))) (fun kv _ => t - (intOf kv).toNat)
  case atStart => exact ⟨0, sn, Nat.zero_le _, rfl, ⟨PuNo.refl _ _ _ _ _ _, fun j hj => by omega⟩, HS, ⟨rfl, rfl, rfl, Nat.le_refl _, fun _ _ _ => rfl⟩⟩
  case round =>
    obtain ⟨k, s, hk, rfl, HP, HO, HB⟩ := hrel
    obtain ⟨hbel, hm2⟩ := Hgb.out wr HB.out
    have hcl : wr.cell? ⟨bw, ow + c, none⟩ = some (.slice al t ca) := (hbel.cell hbw).trans Hcl.out
    by_cases hlk : k < t
    · obtain ⟨b, off, x, rfl, hbb, Hx, hcx0⟩ := Hrl.out.x (k := k) (by rw [Ht.out]; exact hlk)
      have hxa := Has.out k hlk
      rw [Hx.out] at hxa
      obtain ⟨h, rfl⟩ := Int.eq_ofNat_of_zero_le hxa.1
      have hhH : h < H := by omega
      have hcx : wr.cell? ⟨b, off + k, none⟩ = some (.int .i64 (h : Nat)) := (hbel.cell hbb).trans hcx0
      have cs : wr.cell? ⟨gs, h, none⟩ = some (.bool (s h)) := (HO.out.cellAt h (by omega)).trans (bRow_get s hhH)
      have HmayH : Hid (mayW wish c h) := ⟨k, by rw [Hl.out, Ht.out]; exact hlk, by rw [Hl.out]; exact Hx.out⟩
      by_cases hsh : s h = true
      · rw [hsh] at cs
        have HP2 : Hid (PuNo (rR room) (mayW wish) H n M sn s ∧ ∀ j, j < k + 1 → ∀ x : Nat, ls.getD j 0 = x → s x = true) := ⟨HP.out.1, fun j hj x hx => by
          by_cases e : j = k
          · subst e
            have : x = h := by rw [Hx.out] at hx; omega
            rw [this]; exact hsh
          · exact HP.out.2 j (by omega) x hx⟩
        clear hbel hm2 hsh
        go_wp2
        go_roundw
        case rel => exact ⟨k + 1, s, by omega, by go_num, HP2, HO, HB⟩
        case measure => simp [intOf]; omega
      · have hsf : s h = false := by simpa using hsh
        rw [hsf] at cs
        have fs := HO.out.frozenAt h
        obtain ⟨hst1, hst2⟩ := HO.out.stored h (.bool true)
        rw [bRow_set s hhH] at hst1
        have HO1 := Lib.hid hst1
        have HB1 := Lib.hid (gb_trans HB.out hst2 (.inl rfl))
        obtain ⟨hbel1, hm1⟩ := Hgb.out _ HB1.out
        have Hsh := Lib.hid hsh
        have hcl1 : (wr.setCell ⟨gs, h, none⟩ (.bool true)).cell? ⟨bw, ow + c, none⟩ = some (.slice (some ⟨b, off, none⟩) t ca) := (hbel1.cell hbw).trans Hcl.out
        clear hst1 hst2 hsh hsf hbel hm2
        go_wp2
        generalize wr.setCell ⟨gs, h, none⟩ (.bool true) = W1 at HO1 HB1 hm1 hbel1 hcl1 ⊢
        go_loop [14, 15] (fun a i => ∃ j : Nat, j ≤ n ∧ i = .int .i64 j ∧ a = .int .i64 (cntM M h j : Nat)) (fun _ i => n - (intOf i).toNat)
        case atStart => exact ⟨0, Nat.zero_le _, rfl, rfl⟩
        case round =>
          obtain ⟨j, hj, rfl, rfl⟩ := hrel
          obtain ⟨C, HC⟩ : ∃ C, Hid (cntM M h j = C) := ⟨_, rfl⟩
          have hCn := cnt_bd M h j
          rw [HC.out] at hCn ⊢
          by_cases hlj : j < n
          · have cm := hm1.2 j hlj
            obtain ⟨y, Hy⟩ : ∃ y, Hid (M j = y) := ⟨_, rfl⟩
            rw [Hy.out] at cm
            by_cases hyh : y = (h : Int)
            · have hb1 : (y == (h : Int)) = true := by rw [beq_iff_eq]; exact hyh
              have Hn2 : Hid (cntM M h (j + 1) = C + 1) := by show _ = _; simp only [cntM]; rw [Hy.out, if_pos hyh, HC.out]
              clear hyh
              go_wp2
              go_round
              case rel => exact ⟨j + 1, by omega, by go_num, by rw [Hn2.out]; go_num⟩
              case measure => simp [intOf]; omega
            · have hb1 : (y == (h : Int)) = false := by rw [beq_eq_false_iff_ne]; exact hyh
              have Hn2 : Hid (cntM M h (j + 1) = C) := by show _ = _; simp only [cntM]; rw [Hy.out, if_neg hyh, HC.out]; rfl
              clear hyh
              go_wp2
              go_round
              case rel => exact ⟨j + 1, by omega, by go_num, by rw [Hn2.out]⟩
              case measure => simp [intOf]; omega
          · obtain rfl : j = n := by omega
            obtain ⟨br, ofr, y, rfl, hbr, Hy, hcy⟩ := (Hr.out.below hbel1).x (k := h) (by rw [HH.out]; exact hhH)
            have hyr : rR room h = y := Hy.out
            by_cases hCy : (C : Int) < y
            · have Hok : Hid (PuOk (rR room) (mayW wish) H j M (upM M c h) c sn) := puOk_base HG.out hc hhH HmayH.out (by rw [HC.out, hyr]; exact hCy)
              have HOWN0 : Hid ((W1.alloc (.cells #[] 3)).ownsRow W1.heap.size 3 1 (.slice (some ⟨W1.heap.size, 0, none⟩) 0 0) 0 []) := World.ownsRow_lit W1 #[] 0 (Nat.le_refl _) (by decide) rfl
              have HB0 := Lib.hid ((Below.refl W1.heap.size W1).alloc (Nat.le_refl _) (.cells #[] 3))
              have Hnews : Hid (∀ i x, (mRow M j)[i]? = some x → (W1.alloc (.cells #[] 3)).cell? ((⟨gh, 0, none⟩ : Addr).add i) = some x) := fun i x hx => by
                have hi : i < j := by
                  have := (List.getElem?_eq_some_iff.1 hx).1
                  rw [mRow_len] at this; exact this
                rw [addr_add0, World.cell?_alloc_lt W1 _ _ hm1.1, hm1.2 i hi]
                rw [mRow_get M hi] at hx; exact hx
              have hlen : (mRow M j).length = j * 1 := by rw [mRow_len]; omega
              have hsz0 : W1.heap.size ≤ (W1.alloc (.cells #[] 3)).heap.size := by rw [size_alloc1]; omega
              have Hrow0 : Hid (∀ g, (Value.slice (some ⟨W1.heap.size, 0, none⟩) 0 0).ownBlock = some g → W1.heap.size ≤ g) := fun g hg => by
                have h2 : W1.heap.size = g := by simpa [Value.ownBlock] using hg
                omega
              have Hm1 := Lib.hid hm1
              clear hm1 hbel1 hcl1 hcl cs fs hcx hcx0
              go_wp2_with (
                at_builtin
                refine wpList_append_own _ rfl _ _ 23 rfl W1.heap.size 3 i0 (.int .i64 0) 1 8 Try.underlying23 hi0 hz0 hz1 hz2 rfl (by decide) _ _ _ rfl HOWN0.out ⟨gh, 0, none⟩ j ch (mRow M j) rfl hlen Hnews.out (mRow_one M j) (by unfold maxLen; omega) (by omega) hsz0 ?_
                intro v2 w2 hown2 hg2 hloc
                clear hloc
                have hB2 : Below W1.heap.size W1 w2 := HB0.out.grown hg2 hsz0 Hrow0.out
                rw [Nat.zero_add, List.nil_append] at hown2
                obtain ⟨g2, cap2, rfl, -, -⟩ := hown2.form (by omega)
                have hlt2 := hown2.lt g2 rfl
                have cc : w2.cell? ⟨g2, c, none⟩ = some (.int .i64 (M c)) := (hown2.cellAt c (by omega)).trans (mRow_get M hc)
                have fc := hown2.frozenAt c
                obtain ⟨hst1, hst2⟩ := hown2.stored c (.int .i64 (h : Nat))
                rw [mRow_set M (h : Nat) hc] at hst1
                have hB3 := hB2.setCell (p := ⟨g2, c, none⟩) hlt2.1 (.int .i64 (h : Nat))
                have HO3 := Lib.hid (ownN_below HO1.out hB3)
                have HG3 := Lib.hid (gb_on HB1.out hB3)
                have HV3 := Lib.hid (ownG_base hst1 HB1.out.size)
                clear hown2 hg2 hB2 hst1 hst2 hB3 HO HB hlt2)
              go_ret2
              exact ⟨_, HO3.out, HG3.out, .inl ⟨_, _, rfl, HV3.out, Hok.out⟩⟩
            · have Hfull : Hid (¬ (cntM M h j : Int) < rR room h) := by show ¬ _; rw [HC.out, hyr]; exact hCy
              have Hhs : Hid (¬ sn h = true) := fun e => Hsh.out (HP.out.1.grow h e)
              have Hunl : Hid (∀ s1, PuNo (rR room) (mayW wish) H j M (upB s h) s1 → unS s1 H < f) := fun s1 hp => by
                have u1 := unS_mono hp.grow H
                have u2 := unS_mark Hsh.out hhH
                have u3 := unS_mono HP.out.1.grow H
                have := Hun.out
                omega
              have hCy2 : y ≤ (C : Int) := by omega
              clear hCy hm1 hbel1 hcl1 hcl cs fs hcx hcx0 HO HB
              go_wp2
              go_loopw [17] (fun iv wi => ∃ i : Nat, ∃ s1, i ≤ j ∧ iv = .int .i64 i ∧ Hid (PuNo (rR room) (mayW wish) H j M (upB s h) s1 ∧ ∀ j', j' < i → M j' = h → ∀ x, mayW wish j' x → s1 x = true) ∧ Hid (wi.ownsRow B 4 1 (.slice (some ⟨gs, 0, none⟩) H H) H (bRow s1 H)) ∧ Hid (w.grownBy wi (some gs))) (fun iv _ => j - (intOf iv).toNat)
              case atStart => exact ⟨0, upB s h, Nat.zero_le _, rfl, ⟨PuNo.refl _ _ _ _ _ _, fun j' hj' => by omega⟩, HO1, HB1⟩
              case round =>
                clear HO1 HB1
                obtain ⟨i, s1, hi, rfl, HP1, HO1, HB1⟩ := hrel
                by_cases hli : i < j
                · obtain ⟨hbel2, hm2⟩ := Hgb.out _ HB1.out
                  have cm := hm2.2 i hli
                  obtain ⟨z, Hz⟩ : ∃ z, Hid (M i = z) := ⟨_, rfl⟩
                  rw [Hz.out] at cm
                  by_cases hzh : z = (h : Int)
                  · have hb1 : (z != (h : Int)) = false := by rw [bne_eq_false_iff_eq]; exact hzh
                    have hMi : M i = (h : Int) := Hz.out.trans hzh
                    have hC1 := cnt_pos hMi hli
                    rw [HC.out] at hC1
                    have hb2 : ((C : Int) == 0) = false := by rw [beq_eq_false_iff_ne]; omega
                    have hs1h : s1 h = true := HP1.out.1.grow h (upB_at s h)
                    have Hrec := Lib.hid (HIH.out _ (Hunl.out s1 HP1.out.1) _ (some ⟨bw, ow, none⟩) cr cw gh ch gs i M s1 wr (Hr.out.below hbel2) (Hw.out.below hbel2) hBs hm2 Hne.out hli hnc (Nat.le_refl _) HO1.out HG.out (.inr ⟨h, hMi, hs1h⟩))
                    have HMi := Lib.hid hMi
                    have Hgr1 : Hid (∀ x, sn x = true → s1 x = true) := fun x hx => HP1.out.1.grow x (upB_grow s h x (HP.out.1.grow x hx))
                    have Hm2 := Lib.hid hm2
                    clear hzh hbel2 hMi hm2 hs1h
                    go_wp2_with fail
                    refine Hrec.out.mono ?_
                    rintro e w5 ⟨s', hO', hB', hcase⟩
                    rcases hcase with ⟨v, M2, rfl, hown, hok⟩ | ⟨rfl, hno, hall⟩
                    · obtain ⟨g2, cap2, rfl, -, -⟩ := hown.form (by omega)
                      have hlt2 := hown.lt g2 rfl
                      have cc : w5.cell? ⟨g2, c, none⟩ = some (.int .i64 (M2 c)) := (hown.cellAt c (by omega)).trans (mRow_get M2 hc)
                      have fc := hown.frozenAt c
                      obtain ⟨hst1, hst2⟩ := hown.stored c (.int .i64 (h : Nat))
                      rw [mRow_set M2 (h : Nat) hc] at hst1
                      obtain ⟨⟨csi, hcsi⟩, -, -⟩ := own_heap hown (g := g2) rfl
                      obtain ⟨⟨csb, hcsb⟩, -, -⟩ := own_heap hO' (g := gs) rfl
                      have hgne : gs ≠ g2 := types_apart hcsb hcsi (by decide)
                      have HO3 := Lib.hid (ownsRow_setCell_other hO' (a := ⟨g2, c, none⟩) (fun e => by injection e with e; exact hgne e) (.int .i64 (h : Nat)))
                      have HG3 := Lib.hid (gb_trans (gb_trans HB1.out hB' (.inl rfl)) hst2 (.inr fun g hg => by injection hg with hg; have := HB1.out.size; omega))
                      have HV3 := Lib.hid (ownG_base hst1 HB1.out.size)
                      have Hok2 := Lib.hid (puOk_move HG.out hc hli hhH HmayH.out Hhs.out Hgr1.out Hpre.out HMi.out hok)
                      clear hO' hB' hown hok hst1 hst2 hcsi hcsb hlt2
                      go_wp2
                      go_ret2
                      exact ⟨s', HO3.out, HG3.out, .inl ⟨_, _, rfl, HV3.out, Hok2.out⟩⟩
                    · have HP2 : Hid (PuNo (rR room) (mayW wish) H j M (upB s h) s' ∧ ∀ j', j' < i + 1 → M j' = h → ∀ x, mayW wish j' x → s' x = true) := ⟨HP1.out.1.trans hno, fun j' hj' hm' x hx => by
                        by_cases e : j' = i
                        · subst e; exact hall x hx
                        · exact hno.grow x (HP1.out.2 j' (by omega) hm' x hx)⟩
                      have HO3 := Lib.hid hO'
                      have HG3 := Lib.hid (gb_trans HB1.out hB' (.inl rfl))
                      clear hO' hB' hno hall
                      go_wp2
                      go_roundw
                      case rel => exact ⟨i + 1, s', by omega, by go_num, HP2, HO3, HG3⟩
                      case measure => simp [intOf]; omega
                  · have hb1 : (z != (h : Int)) = true := by rw [bne_iff_ne]; exact hzh
                    have HP2 : Hid (PuNo (rR room) (mayW wish) H j M (upB s h) s1 ∧ ∀ j', j' < i + 1 → M j' = h → ∀ x, mayW wish j' x → s1 x = true) := ⟨HP1.out.1, fun j' hj' hm' x hx => by
                      by_cases e : j' = i
                      · subst e; exact absurd (Hz.out.symm.trans hm') hzh
                      · exact HP1.out.2 j' (by omega) hm' x hx⟩
                    clear hzh hbel2 hm2
                    go_wp2
                    go_roundw
                    case rel => exact ⟨i + 1, s1, by omega, by go_num, HP2, HO1, HB1⟩
                    case measure => simp [intOf]; omega
                · obtain rfl : i = j := by omega
                  have hno : PuNo (rR room) (mayW wish) H i M s s1 := puNo_mark HG.out (by have := Hfull.out; omega) HP1.out.1 HP1.out.2
                  have HP2 : Hid (PuNo (rR room) (mayW wish) H i M sn s1 ∧ ∀ j', j' < k + 1 → ∀ x : Nat, ls.getD j' 0 = x → s1 x = true) := ⟨HP.out.1.trans hno, fun j' hj' x hx => by
                    by_cases e : j' = k
                    · subst e
                      have : x = h := by rw [Hx.out] at hx; omega
                      rw [this]; exact HP1.out.1.grow h (upB_at s h)
                    · exact hno.grow x (HP.out.2 j' (by omega) x hx)⟩
                  clear hno
                  go_wp2
                  go_roundw
                  case rel => exact ⟨k + 1, s1, by omega, by go_num, HP2, HO1, HB1⟩
                  case measure => simp [intOf]; omega
    · obtain rfl : k = t := by omega
      have HP2 : Hid (∀ x, mayW wish c x → s x = true) := fun x ⟨j, hj, hx⟩ => by
        rw [Hl.out] at hj hx
        rw [Ht.out] at hj
        exact HP.out.2 j hj x hx
      clear hbel hm2
      go_wp2
      go_ret2
      exact ⟨s, HO.out, HB.out, .inr ⟨rfl, HP.out.1, HP2.out⟩⟩
end Go.Proofs.Ytakljcpneghgnaa
