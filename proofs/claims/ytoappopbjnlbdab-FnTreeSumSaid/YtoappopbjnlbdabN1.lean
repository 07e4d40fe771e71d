/-
  The program's tree is laid: linkedNodes, walked.
  Conditions: the roads are a tree.
-/
import Derived.Test.YtoappopbjnlbdabN0
namespace Go.Proofs.Ytoappopbjnlbdab
open Go.ChangeShapes Go.WideShapes Go.ChangeAt Go.RowKit
set_option linter.unusedVariables false
set_option maxRecDepth 4000

theorem link_made (w : World) (t : List (Int × Int)) :
    LkN ((w.alloc (.cells #[.int .i64 0, .int .i64 0, .pointer none, .slice none 0 0] 67)).alloc (.cells #[ptr w.heap.size] 62)) w.heap.size 1 (fun _ => w.heap.size) (fun _ => .slice none 0 0) t ∧
    ((w.alloc (.cells #[.int .i64 0, .int .i64 0, .pointer none, .slice none 0 0] 67)).alloc (.cells #[ptr w.heap.size] 62)).ownsRow w.heap.size 62 1 (.slice (some ⟨w.heap.size + 1, 0, none⟩) 1 1) 1 (ptrs (fun _ => w.heap.size) 1) ∧
    Below w.heap.size w ((w.alloc (.cells #[.int .i64 0, .int .i64 0, .pointer none, .slice none 0 0] 67)).alloc (.cells #[ptr w.heap.size] 62)) := by
  have b1 := (Below.refl w.heap.size w).alloc (Nat.le_refl _) (.cells #[.int .i64 0, .int .i64 0, .pointer none, .slice none 0 0] 67)
  refine ⟨(link_start w _ t rfl).below ((Below.refl _ _).alloc (Nat.le_refl _) _), ?_, b1.alloc b1.size _⟩
  have := World.ownsRow_lit (base := w.heap.size) (e := 62) (size := 1) (w.alloc (.cells #[.int .i64 0, .int .i64 0, .pointer none, .slice none 0 0] 67)) #[ptr w.heap.size] 1 b1.size (by decide) rfl
  rw [size_alloc1] at this
  exact this

set_option maxHeartbeats 1600000 in
theorem linked_any (A : Option Addr) (c n : Nat) (t : List (Int × Int)) (w : World) (hr : RdR w w.heap.size A t) (hn : t.length = n) (hc : n ≤ c) (hv : vt t = true) :
    Calls Try.prog 49 #[.slice A n c] w (Linked w t) := by
  obtain ⟨ib, hib, hzb0, hzb1, hzb2⟩ := info_parts brInfo
  obtain ⟨ip, hip, hzp0, hzp1, hzp2⟩ := info_parts nptrInfo
  obtain ⟨h1, h7, -⟩ := (vt_iff t).1 hv
  obtain ⟨b, off, x, y, rfl, hbw, -, -, -⟩ := hr.x (k := 0) (by omega)
  have Hn := Lib.hid hn
  have Hv := Lib.hid hv
  have ha := Lib.hid (vt_ahead hv)
  rw [hn] at h1 h7
  clear hn hv
  have HS := Lib.hid (link_made w t)
  by_cases hc1 : c = 1
  · subst hc1
    have hn1 : n = 1 := by omega
    subst hn1
    go_enter Try.func49, Try.ntmps49
    go_wp2
    go_loopw [3, 14] (fun v i wr => v = .slice (some ⟨w.heap.size + 1, 0, none⟩) 1 1 ∧ i = .int .i64 0 ∧ wr = (w.alloc (.cells #[.int .i64 0, .int .i64 0, .pointer none, .slice none 0 0] 67)).alloc (.cells #[ptr w.heap.size] 62)) (fun _ _ _ => 0)
    case atStart => exact ⟨rfl, rfl, rfl⟩
    case round =>
      obtain ⟨rfl, rfl, rfl⟩ := hrel
      go_wp2
      go_ret
      exact ⟨_, _, _, rfl, by rw [Hn.out]; exact HS.out.1, by rw [Hn.out]; exact HS.out.2.1, HS.out.2.2⟩
  go_enter Try.func49, Try.ntmps49
  go_wp2
  go_loopw [3, 14] (fun v i wr => LinkRel w t v i wr) (fun _ i _ => n - (intOf i).toNat)
  case atStart => exact ⟨0, _, _, by rw [Hn.out]; omega, rfl, HS.out.1, HS.out.2.1, HS.out.2.2⟩
  case round =>
    obtain ⟨k, P, RV, hk, rfl, hlk, hown, hnx⟩ := hrel
    by_cases hlt : k + 1 < n
    · have hlt' : k < n - 1 := by omega
      obtain ⟨b', off', x, y, e, -, Hx, hcx, hcy⟩ := (hr.below hnx).x (k := k + 1) (by rw [Hn.out]; omega)
      cases e
      rw [show off + (k + 1) * 2 = off + 2 + k * 2 by omega] at hcx hcy
      have hx := vt_to Hv.out (i := k + 1) (by omega) (by rw [Hn.out]; omega)
      obtain ⟨hp, hy1, hy9⟩ := ha.out (k + 1) (by omega) (by rw [Hn.out]; omega)
      have hy : tlg t (k + 1) = y := by unfold tlg; rw [Hx.out]
      rw [Hx.out] at hx
      simp only at hx
      subst hx
      rw [hy] at hy1 hy9
      obtain ⟨p, Hp⟩ : ∃ p, Hid (tto t (k + 1) = p) := ⟨_, rfl⟩
      rw [Hp.out] at hp hcx
      obtain ⟨d, Hd⟩ : ∃ d, Hid (dn t (k + 1) p 0 = d) := ⟨_, rfl⟩
      have hdb := dn_bd ha.out (k + 1) p 0 (by rw [Hn.out]; omega) hp (by omega)
      rw [Hd.out] at hdb
      obtain ⟨c0, c1, c2, c3, f3⟩ := hlk.cells hp
      rw [Hd.out] at c1
      obtain ⟨A', cA, rfl, hA1, hA2, hA3⟩ := own_sliceN hown
      obtain ⟨gn, rfl, hgn1, hgn2⟩ := hA3 (by omega)
      have cn : wr.cell? ⟨gn, p, none⟩ = some (.pointer (some ⟨P p, 0, none⟩)) := by
        rw [hown.cellAt p (by omega)]
        simp [ptrs, ptr, hp]
      have w1 : IntKind.i64.wrap ((k : Int) + 1) = (k : Int) + 1 := IntWalk.i64_in _ (by omega)
      have w2 : IntKind.i64.wrap (d + y) = d + y := IntWalk.i64_in _ (by omega)
      have Hown := Lib.hid hown
      have Hlk := Lib.hid hlk
      have Hnx := Lib.hid hnx
      clear hown hlk hnx hA1 hA2 hA3
      go_wp2
      clear cn c0 c2 c3 f3 hcx hcy
      obtain ⟨L, HL⟩ : ∃ L, Hid (wr.heap.size = L) := ⟨_, rfl⟩
      rw [HL.out]
      obtain ⟨wA, hA⟩ : ∃ wA, wr.alloc (.cells #[.int .i64 (p : Int), .int .i64 y] 34) = wA := ⟨_, rfl⟩
      rw [hA]
      have bA : Hid (Below wr.heap.size wr wA) := by rw [← hA]; exact (Below.refl _ _).alloc (Nat.le_refl _) _
      have vA : wA.cell? ⟨L, 1, none⟩ = some (.int .i64 y) := by rw [← hA, ← HL.out]; rw [cell_of_row _ _ _ _ _ _ (heap_alloc_new wr _)]; rfl
      have dA : wA.cell? ⟨P p, 1, none⟩ = some (.int .i64 d) := by rw [bA.out.cell (Hlk.out.lt hp)]; exact c1
      have sA : Hid (wA.heap.size = L + 1) := by show wA.heap.size = L + 1; rw [← hA, size_alloc1, HL.out]
      clear c1 hA
      go_region
      go_wp2
      clear w1 w2 dA
      obtain ⟨Q, HQ⟩ : ∃ Q, Hid (wA.heap.size = Q) := ⟨_, rfl⟩
      rw [HQ.out]
      obtain ⟨wB, hB⟩ : ∃ wB, (wA.alloc (.cells #[.int .i64 ((k : Int) + 1), .int .i64 (d + y), .pointer (some ⟨P p, 0, none⟩), .slice none 0 0] 67)).drew = wB := ⟨_, rfl⟩
      rw [hB]
      have bB : Hid (Below wA.heap.size wA wB) := by rw [← hB]; exact ((Below.refl _ _).alloc (Nat.le_refl _) _).drew
      have nB : Hid (wB.heap[Q]? = some (.cells #[.int .i64 ((k : Int) + 1), .int .i64 (d + y), .pointer (some ⟨P p, 0, none⟩), .slice none 0 0] 67 (0, 0))) := by rw [← hB, ← HQ.out]; exact heap_alloc_new wA _
      have hQL : Hid (L < Q) := by rw [← HQ.out, sA.out]; exact Nat.lt_succ_self L
      have hQL' : wr.heap.size ≤ Q := by rw [HL.out]; exact Nat.le_of_lt hQL.out
      have vB : wB.cell? ⟨L, 1, none⟩ = some (.int .i64 y) := (bB.out.cell (p := ⟨L, 1, none⟩) (by show L < wA.heap.size; rw [HQ.out]; exact hQL.out)).trans vA
      clear vA
      have Hsz1 : Hid (∀ o, w.heap.size ≤ (wB.alloc o).drew.heap.size) := fun o => by
        have : (wB.alloc o).drew.heap.size = wB.heap.size + 1 := size_alloc1 wB o
        have := Hnx.out.size; have := bA.out.size; have := bB.out.size; omega
      have q3 : wB.cell? ⟨Q, 3, none⟩ = some (.slice none 0 0) := by rw [cell_of_row _ _ _ _ _ _ nB.out]; rfl
      have q3' : ∀ o, (wB.alloc o).cell? ⟨Q, 3, none⟩ = some (.slice none 0 0) := fun o => by rw [cell_of_row _ _ _ _ _ _ ((heap_alloc_old wB o (Array.getElem?_eq_some_iff.1 nB.out).1).trans nB.out)]; rfl
      clear hB
      have hQs : Hid (Q < wB.heap.size) := (Array.getElem?_eq_some_iff.1 nB.out).1
      go_region_law (
        refine step_append_lies _ rfl (.tmp 40) (.tmp 45) 65 rfl w.heap.size 92 ib _ 2 16 Try.underlying65 hib hzb0 hzb1 hzb2 rfl (by decide) (.slice none 0 0) 0 [] ?_ (World.ownsRow_nil _ _ _ _) ⟨wB.heap.size, 0, none⟩ 1 1 [.pointer (some ⟨P p, 0, none⟩), .int .i64 y] ?_ rfl ?_ ?_ (by decide) (by decide) (by decide) ?_ _ rfl ?_
        · simp [Act.eval]
        · simp [Act.eval]
        · exact lit_two wB _ _ _
        · intro u hu; simp at hu; rcases hu with rfl | rfl <;> rfl
        · exact Hsz1.out _
        intro g cap w1 hown1 hgrow1 hat1 hlt1
        have n1 := Lib.hid (app_node hgrow1 nB.out (nilOwn Q))
        have q31 := node_c3 n1.out
        have f31 : w1.frozen? ⟨Q, 3, none⟩ = false := frozen_of_row _ _ _ _ _ n1.out
        have Hown1 := Lib.hid hown1
        have Hgrow1 := Lib.hid hgrow1
        have Hat1 := Lib.hid hat1
        have Hlt1 := Lib.hid hlt1
        clear hown1 hgrow1 hat1 hlt1)
      all_goals
        obtain ⟨bC, nC, oC, hgB, rC⟩ := link_mid ((bA.out).trans (bB.out.mono bA.out.size)) hQL' hQs.out n1.out Hown1.out Hgrow1.out Hat1.out
        have vC : (w1.setCell ⟨Q, 3, none⟩ (.slice (some ⟨g, 0, none⟩) 1 cap)).cell? ⟨L, 1, none⟩ = some (.int .i64 y) := (World.cell?_of_block (rC L (by have := hQL.out; have := hQs.out; omega) (by have := hQL.out; omega))).trans vB
        clear n1 q31 f31 rC q3 q3' Hown1 Hgrow1 Hat1 Hlt1 vB
        generalize w1.setCell ⟨Q, 3, none⟩ (.slice (some ⟨g, 0, none⟩) 1 cap) = wC at bC nC oC vC ⊢
        have BC := Lib.hid bC
        have NC := Lib.hid nC
        have OC := Lib.hid oC
        have GB := Lib.hid hgB
        clear bC nC oC hgB
        have lkC := Hlk.out.below BC.out
        obtain ⟨-, -, -, r3, rf3⟩ := lkC.cells hp
        have r3' : ∀ o, (wC.alloc o).cell? ⟨P p, 3, none⟩ = some (RV p) := fun o => by
          rw [cell_of_row _ _ _ _ _ _ ((heap_alloc_old wC o (lkC.lt hp)).trans (lkC.node p hp).2)]; rfl
        have LC := Lib.hid lkC
        clear lkC rf3
        obtain ⟨m, Hm⟩ : ∃ m, Hid ((nb t (k + 1) p).length = m) := ⟨_, rfl⟩
        have hm7 : m ≤ 7 := by have := nb_len t (k + 1) p; rw [Hm.out] at this; omega
        have hm1 : m + 1 ≤ maxLen := by unfold maxLen; omega
        have hm2 : (m + 1) * 16 ≤ 140737488355328 := by omega
        have oP := LC.out.own p hp
        rw [Hm.out] at oP
        have OP := Lib.hid oP
        have Hsz : Hid (∀ o, w.heap.size ≤ (wC.alloc o).drew.heap.size) := fun o => by
          have : (wC.alloc o).drew.heap.size = wC.heap.size + 1 := size_alloc1 wC o
          have := Hnx.out.size; have := BC.out.size; omega
        clear oP
        go_wp2
        go_region_law (
          refine step_append_lies _ rfl (.tmp 53) (.tmp 58) 65 rfl w.heap.size 92 ib _ 2 16 Try.underlying65 hib hzb0 hzb1 hzb2 rfl (by decide) (RV p) m (brv P (nb t (k + 1) p)) ?_ (OP.out.alloc _) ⟨wC.heap.size, 0, none⟩ 1 1 [.pointer (some ⟨Q, 0, none⟩), .int .i64 y] ?_ rfl ?_ ?_ (by decide) hm1 hm2 (Hsz.out _) _ rfl ?_
          · simp [Act.eval]
          · simp [Act.eval]
          · exact lit_two wC _ _ _
          · intro u hu; simp at hu; rcases hu with rfl | rfl <;> rfl
          intro g2 cap2 w2 hown2 hgrow2 hat2 hlt2
          have n2 := Lib.hid (app_node hgrow2 (LC.out.node p hp).2 (LC.out.own_node hp hp))
          have q32 := node_c3 n2.out
          have f32 : w2.frozen? ⟨P p, 3, none⟩ = false := frozen_of_row _ _ _ _ _ n2.out
          have Hown2 := Lib.hid hown2
          have Hgrow2 := Lib.hid hgrow2
          have Hat2 := Lib.hid hat2
          have Hlt2 := Lib.hid hlt2
          clear hown2 hgrow2 hat2 hlt2)
        all_goals
          have hold : ∀ i, i < k + 1 → P i < wr.heap.size := fun i hi => Hlk.out.lt hi
          have e1 : ((k + 1 : Nat) : Int) = (k : Int) + 1 := by omega
          have e2 : dn t (k + 2) (k + 1) 0 = d + y := by rw [dn_new (by omega), Hp.out, hy, Hd.out]
          have hWd := fun o => ((Below.refl wC.heap.size wC).alloc (Nat.le_refl _) o).drew
          have lkD := link_step (Q := Q) (g1 := g) ha.out (by rw [Hn.out]; exact hlt) LC.out (by rw [e1, e2]; exact NC.out) OC.out rfl (by have := Hnx.out.size; omega) (fun i hi e => by have := hold i hi; omega)
            (fun i hi e => by have := Hlk.out.own_lt hi e; have := GB.out; have := bA.out.size; have := bB.out.size; omega) (hWd _) Hp.out hy Hgrow2.out Hown2.out (by rw [Hm.out]) Hat2.out
          have onD := link_nodes (g2 := g2) (l2 := m + 1) (cap2 := cap2) LC.out hp (ownN_below Hown.out BC.out) (hWd _) Hgrow2.out
          have bD := link_below (w := w) (v := .slice (some ⟨g2, 0, none⟩) (m + 1) cap2) LC.out hp (Hnx.out.trans (BC.out.mono Hnx.out.size)) (hWd _) Hgrow2.out
          clear n2 q32 f32 r3 r3' Hown2 Hgrow2 Hat2 Hlt2 vC e1 e2 hWd hold OP Hsz
          generalize w2.setCell ⟨P p, 3, none⟩ (.slice (some ⟨g2, 0, none⟩) (m + 1) cap2) = wD at lkD onD bD ⊢
          have LD := Lib.hid lkD
          have OD := Lib.hid onD
          have BD := Lib.hid bD
          clear lkD onD bD
          have hk1 : k + 1 + 1 ≤ maxLen := by unfold maxLen; omega
          have hk2 : (k + 1 + 1) * 8 ≤ 140737488355328 := by omega
          have hsz : w.heap.size ≤ (wD.alloc (.cells #[ptr Q] 62)).heap.size := by rw [size_alloc1]; have := BD.out.size; omega
          go_wp2_with (at_builtin; refine wpList_append_lies _ rfl _ _ 63 rfl w.heap.size 62 ip _ 1 8 Try.underlying63 hip hzp0 hzp1 hzp2 rfl (by decide) _ _ _ rfl (OD.out.alloc _) ⟨wD.heap.size, 0, none⟩ 1 1 [ptr Q] rfl rfl (cell_one_new _ _ _) (by intro u hu; simp at hu; subst hu; rfl) (by decide) hk1 hk2 hsz _ rfl ?_; intro g3 cap3 w3 hown3 hgrow3 hat3 hlt3)
          have lk3 := link_list LD.out OD.out hgrow3
          have b3 := (BD.out.alloc BD.out.size _).grown hgrow3 hsz (fun g h => by have := (own_heap OD.out h).2.1; exact this)
          have hown4 : w3.ownsRow w.heap.size 62 1 (.slice (some ⟨g3, 0, none⟩) (k + 1 + 1) cap3) (k + 1 + 1) (ptrs (fun i => if i = k + 1 then Q else P i) (k + 1 + 1)) := by
            rw [ptrs_step, ptrs_congr (P := fun i => if i = k + 1 then Q else P i) (P' := P) (fun i hi => if_neg (by omega))]
            simpa using hown3
          have H4 := Lib.hid hown4
          have L4 := Lib.hid lk3
          have B4 := Lib.hid b3
          clear hown4 lk3 b3 hown3 hgrow3 hat3 hlt3
          go_wp2
          go_roundw
          case rel => exact ⟨k + 1, _, _, by rw [Hn.out]; exact hlt, by go_num, L4.out, H4.out, B4.out⟩
          case measure => simp [intOf]; omega
    · obtain ⟨A', cA, rfl, hA1, hA2, hA3⟩ := own_sliceN hown
      have hkn : k + 1 = n := by have := Hn.out; omega
      have Hown := Lib.hid hown
      have Hlk := Lib.hid hlk
      have hlt' : ¬ k < n - 1 := by omega
      clear hown hlk
      go_wp2
      go_ret
      have hn := Hn.out
      rw [← hkn] at hn
      exact ⟨_, P, RV, rfl, by rw [hn]; exact Hlk.out, by rw [hn]; exact Hown.out, hnx⟩
end Go.Proofs.Ytoappopbjnlbdab
