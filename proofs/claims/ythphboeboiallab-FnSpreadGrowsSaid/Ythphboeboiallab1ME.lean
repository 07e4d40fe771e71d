/-
  spreads of the model, walked: all ascending lists of homes from one on.
  Conditions: at most seven homes, at least one, and at most four a list.
-/
import Derived.Test.Ythphboeboiallab1MD
import Derived.Test.Ythphboeboiallab1MC
import Derived.Deep.RegionLaw
import Derived.Deep.AppendLies
namespace Go.Proofs.Ythphboeboiallab
open Go.ChangeShapes Go.WideShapes Go.ChangeAt Go.RowKit
set_option linter.unusedVariables false
set_option maxRecDepth 4000

/-- A list put behind a row of the call's own, at a step of a region that draws its order; nil too. -/
theorem step_append_partO {w : World} {ops : Array Oper} {o : Oper} {a : Act} {K : Act → World → Prop} {Q : Exit → Act → World → Prop} {E : Prop} {i0 : TypeInfo} (hi0 : Try.prog.info? 3 = some i0) (hz0 : i0.zero = some (.int .i64 0)) (hz1 : i0.size = 1) (hz2 : i0.bytes = 8)
    (hgd : o.guard = none) (s x : Operand) (ho : o.op = .call { callee := .builtin .append, args := #[s, x], argTypes := #[23, 23] }) (base : Nat) (v : Value) (L : Nat) (zs : List Int) (hs : a.eval s = v)
    (hown : w.ownsRow base 3 1 v L (zs.map (Value.int .i64))) (hv : v ≠ .slice none 0 0) (A : Option Addr) (n c : Nat) (xs : List Int) (hx : a.eval x = .slice A n c) (hp : PartQ w A n c xs) (hl : L ≤ 1000) (hn : n ≤ 1000) (hbase : base ≤ w.heap.size)
    (h : ∀ v' w', w'.ownsRow base 3 1 v' (L + n) ((zs ++ xs).map (Value.int .i64)) → v' ≠ .slice none 0 0 → Below base w w' → K (a.put o.dst v') w') :
    if Region.wanted o (yielded ops a.tmps) = true then Oper.wp Try.prog o a w K Q else E := by
  cases A with
  | none =>
    obtain ⟨rfl, rfl⟩ := hp.nz rfl
    have hxs : xs = [] := List.length_eq_zero_iff.1 hp.len
    subst hxs
    have hw : Region.wanted o (yielded ops a.tmps) = true := by simp [Region.wanted, hgd]
    rw [if_pos hw]
    have hrun := run_append_owned_none (P := Try.prog) (w := w) base 23 o.type 3 i0 1 Try.underlying23 hi0 v L _ hown
    unfold Oper.wp
    simp [execOp, ho, resolve, invoke, builtin, hs, hx, hrun, Result.andThen]
    exact h v w (by simpa using hown) hv (Below.refl _ _)
  | some ad =>
    obtain ⟨b, off, rfl⟩ := hp.at_ ad rfl
    exact step_append_partQ hi0 hz0 hz1 hz2 hgd s x ho base v L zs hs hown hv b off n c xs hx hp hl hn hbase h
/-- The lists that begin ahead of p. -/
def spP (zs : List Int) (k i p : Nat) : List (List Int) := (List.range' i (p - i)).flatMap fun j => if skB zs i j = true then [] else (spL zs k j).map (zs.getD j 0 :: ·)
theorem spP_start (zs : List Int) (k i : Nat) : spP zs k i i = [] := by simp [spP]
theorem spP_step {zs : List Int} {k i p : Nat} (h : i ≤ p) : spP zs k i (p + 1) = spP zs k i p ++ if skB zs i p = true then [] else (spL zs k p).map (zs.getD p 0 :: ·) := by
  unfold spP
  rw [show p + 1 - i = p - i + 1 by omega, List.range'_concat, List.flatMap_append]
  simp [show i + (p - i) = p by omega]
theorem spP_end (zs : List Int) (k i : Nat) : spP zs k i zs.length = spL zs (k + 1) i := rfl
theorem spP_mono (zs : List Int) (k i : Nat) {p : Nat} (h : i ≤ p) : ∀ d, (spP zs k i p).length ≤ (spP zs k i (p + d)).length
  | 0 => Nat.le_refl _
  | d + 1 => by
    have := spP_mono zs k i h d
    rw [← Nat.add_assoc, spP_step (by omega), List.length_append]
    omega
theorem spL_le {zs : List Int} {k i : Nat} (hk : k ≤ 4) (hz : zs.length ≤ 9) (hi : i ≤ zs.length) : (spL zs k i).length ≤ 1000 := by
  rw [spL_lo zs k i hi]
  refine loL_le hk (Nat.le_trans (cmF_len _ _) ?_)
  rw [List.length_drop]; omega
theorem spP_le {zs : List Int} {k i p : Nat} (hk : k + 1 ≤ 4) (hz : zs.length ≤ 9) (h1 : i ≤ p) (h2 : p ≤ zs.length) : (spP zs k i p).length ≤ 1000 := by
  have h := spP_mono zs k i h1 (zs.length - p)
  rw [show p + (zs.length - p) = zs.length by omega, spP_end] at h
  exact Nat.le_trans h (spL_le hk hz (by omega))
theorem spL_row {zs : List Int} {k i j : Nat} (hj : j < (spL zs k i).length) : ((spL zs k i).getD j []).length = k :=
  (spL_len (by simp [List.getD, hj] : (spL zs k i).getD j [] ∈ spL zs k i)).1
def SpO (k i n : Nat) (zs : List Int) (W : World) (o a : Value) (wr : World) : Prop :=
  ∃ p g c L VR, i ≤ p ∧ p ≤ n ∧ o = .slice (some ⟨g, 0, none⟩) L c ∧ a = .int .i64 ((p : Nat) : Int) ∧ Hid (RowsI wr W.heap.size g c L (spP zs k i p) VR) ∧ Hid (Below W.heap.size W wr)
def SpI (k i p gR cR N : Nat) (x : Int) (zs : List Int) (VRR : Nat → Value) (B : Nat) (W : World) (o a : Value) (wr : World) : Prop :=
  ∃ j g c L VR, j ≤ N ∧ o = .slice (some ⟨g, 0, none⟩) L c ∧ a = .int .i64 ((j : Nat) : Int) ∧ g ≠ gR ∧ Hid (RowsI wr W.heap.size g c L (spP zs k i p ++ ((spL zs k p).take j).map (x :: ·)) VR) ∧ Hid (RowsI wr B gR cR N (spL zs k p) VRR) ∧ Hid (Below W.heap.size W wr)
def SpAt (k : Nat) : Prop := ∀ (i n c : Nat) (A : Option Addr) (zs : List Int) (w : World), PIn w A c n zs → 1 ≤ n → n ≤ 7 → i ≤ n →
  Calls Try.prog 57 #[.slice A n c, .int .i64 ((i : Nat) : Int), .int .i64 ((k : Nat) : Int)] w (LsPost (spL zs k i) w)
theorem sp_zero : SpAt 0 := by
  intro i n c A zs w hp h1 h7 hi
  have HE : Hid (LsPost (spL zs 0 i) w (.returned (.slice (some ⟨w.heap.size + 1, 0, none⟩) 1 1)) ((w.alloc (.cells #[] 3)).alloc (.cells #[.slice (some ⟨w.heap.size, 0, none⟩) 0 0] 23))) := lsPost_zero zs w
  clear hp
  go_enter Try.func57, Try.ntmps57
  go_wp2
  go_ret
  exact HE.out
set_option maxHeartbeats 3200000 in
theorem sp_step (k : Nat) (hk4 : k + 1 ≤ 4) (IH : SpAt k) : SpAt (k + 1) := by
  intro i n c A zs w hp h1 h7 hi
  obtain ⟨i0, hi0, hz0, hz1, hz2⟩ := info_parts intInfo
  obtain ⟨is, his, hzs0, hzs1, hzs2⟩ := info_parts slInfo2
  obtain ⟨b, off, hA, hbl, -⟩ := hp.rd (by rw [hp.len]; exact h1)
  subst hA
  have HIH := Lib.hid IH
  have HP := Lib.hid hp
  have Hn := Lib.hid hp.len
  have HO0 : Hid (RowsI (w.alloc (.cells #[] 23)) w.heap.size w.heap.size 0 0 (spP zs k i i) (fun _ => .slice none 0 0)) := by
    have h := World.ownsRow_lit (base := w.heap.size) (e := 23) (size := 1) w #[] 0 (Nat.le_refl _) (by decide) rfl
    exact ⟨by rw [spP_start]; rfl, h, ⟨fun j hj => by omega, fun i j g hi _ _ _ => by omega⟩⟩
  have HB0 : Hid (Below w.heap.size w (w.alloc (.cells #[] 23))) := (Below.refl _ _).alloc (Nat.le_refl _) _
  have hk0 : (((k + 1 : Nat) : Int) == 0) = false := by rw [beq_eq_false_iff_ne]; omega
  have hk1 : IntKind.i64.wrap (((k + 1 : Nat) : Int) - 1) = (k : Int) := by rw [IntKind.wrap_i64]; omega
  have Hlen := Lib.hid (fun p (h1 : i ≤ p) (h2 : p ≤ n) => spP_le (k := k) (zs := zs) (i := i) (p := p) hk4 (by rw [hp.len]; omega) h1 (by rw [hp.len]; exact h2))
  generalize hkk : ((k + 1 : Nat) : Int) = kk at hk0 hk1 ⊢
  clear IH hkk hp hbl
  go_enter Try.func57, Try.ntmps57
  go_wp2
  go_loopw [7, 8] (fun o a wr => SpO k i n zs w o a wr) (fun _ a _ => n - (intOf a).toNat)
  case atStart => exact ⟨i, _, _, _, _, Nat.le_refl _, hi, rfl, rfl, HO0, HB0⟩
  case round =>
    clear HO0 HB0
    obtain ⟨p, g, c2, L, VR, hip, hpn, rfl, rfl, HT, HB⟩ := hrel
    by_cases hlt : p < n
    · have HRw := Lib.hid (HP.out.later HB.out)
      obtain ⟨b', off', x, e', hbl, Hx, hcell⟩ := HRw.out.rd.x (k := p) (by rw [Hn.out]; exact hlt)
      injection e' with e'
      injection e' with e1 e2
      subst e1 e2
      have hcase : (∃ m y, i < p ∧ Hid (p = m + 1) ∧ IntKind.i64.wrap ((p : Int) - 1) = (m : Int) ∧ m < n ∧ Hid (zs.getD m 0 = y) ∧ wr.cell? ⟨b, off + m, none⟩ = some (.int .i64 y)) ∨ i = p := by
        rcases Nat.lt_or_ge i p with h | h
        · obtain ⟨m, rfl⟩ : ∃ m, p = m + 1 := ⟨p - 1, by omega⟩
          obtain ⟨b2, off2, y, e2, -, Hy, hc2⟩ := HRw.out.rd.x (k := m) (by rw [Hn.out]; omega)
          injection e2 with e2
          injection e2 with e3 e4
          subst e3 e4
          exact .inl ⟨m, y, h, rfl, by rw [IntKind.wrap_i64]; omega, by omega, Hy, hc2⟩
        · exact .inr (by omega)
      by_cases hsk : skB zs i p = true
      · have HT2 : Hid (RowsI wr w.heap.size g c2 L (spP zs k i (p + 1)) VR) := by
          show RowsI _ _ _ _ _ _ _
          rw [spP_step hip, if_pos hsk, List.append_nil]
          exact HT.out
        rcases hcase with ⟨m, y, hip2, Hpm, hwm, hmn, Hy, hcy⟩ | rfl
        · have hxy : x = y := by
            unfold skB at hsk
            rw [Bool.and_eq_true, decide_eq_true_eq, decide_eq_true_eq] at hsk
            rw [← Hx.out, ← Hy.out, hsk.2, Hpm.out, Nat.add_sub_cancel]
          subst hxy
          have g1 : decide ((p : Int) > (i : Int)) = true := by simp; omega
          have g2 : decide (i < p) = true := by simp; omega
          have m0 : (0 : Int) ≤ (m : Int) := by omega
          have m1 : (m : Int) < (n : Int) := by omega
          clear hsk hbl HT
          go_wp2
          go_quiet (fail)
          have HT3 := Lib.hid (HT2.out.below (below_drew0 (Below.refl _ _) nq))
          have HB3 := Lib.hid (below_drewN HB.out nq)
          clear HT2 HB hcell hcy
          go_wp2
          go_roundw
          case rel => exact ⟨p + 1, g, c2, L, VR, by omega, by omega, rfl, by go_num, HT3, HB3⟩
          case measure => simp [intOf]; omega
        · unfold skB at hsk
          simp at hsk
      · rcases hcase with ⟨m, y, hip2, Hpm, hwm, hmn, Hy, hcy⟩ | rfl
        · have hxy : (x == y) = false := by
            rw [beq_eq_false_iff_ne]
            intro e
            refine hsk ?_
            unfold skB
            rw [Bool.and_eq_true, decide_eq_true_eq, decide_eq_true_eq]
            refine ⟨hip2, ?_⟩
            rw [Hx.out, e, ← Hy.out, Hpm.out, Nat.add_sub_cancel]
          have g1 : decide ((p : Int) > (i : Int)) = true := by simp; omega
          have g2 : decide (i < p) = true := by simp; omega
          have m0 : (0 : Int) ≤ (m : Int) := by omega
          have m1 : (m : Int) < (n : Int) := by omega
          clear hbl
          go_wp2
          go_quiet (fail)
          clear hcy hcell g1 g2 m0 m1 hxy hwm
          obtain ⟨wq, Hwq⟩ : ∃ wq, Hid (wr.drewN nq = wq) := ⟨_, rfl⟩
          have HTq : Hid (RowsI wq w.heap.size g c2 L (spP zs k i p) VR) := by show RowsI _ _ _ _ _ _ _; rw [← Hwq.out]; exact HT.out.below (below_drew0 (Below.refl _ _) nq)
          have HBq : Hid (Below w.heap.size w wq) := by show Below _ _ _; rw [← Hwq.out]; exact below_drewN HB.out nq
          rw [Hwq.out]
          have HC2 := Lib.hid (HIH.out p n c _ zs wq (HP.out.later HBq.out) h1 h7 hpn)
          clear HT HB Hwq
          go_wp2_with fail
          refine HC2.out.mono ?_
          rintro e w2 ⟨gR, cR, VRR, rfl, hT2, hb2⟩
          obtain ⟨N, HN⟩ : ∃ N, Hid ((spL zs k p).length = N) := ⟨_, rfl⟩
          rw [HN.out] at hT2 ⊢
          have hN : N ≤ 1000 := by rw [← HN.out]; exact spL_le (by omega) (by rw [Hn.out]; omega) (by rw [Hn.out]; exact hpn)
          have hgne : g ≠ gR := by have := HTq.out.g_lt; have := hT2.out.g_lt; omega
          have HT2 : Hid (RowsI w2 w.heap.size g c2 L (spP zs k i p ++ ((spL zs k p).take 0).map (x :: ·)) VR) := by
            have := HTq.out.below hb2.out
            rw [List.take_zero, List.map_nil, List.append_nil]; exact this
          have HR2 := Lib.hid hT2.out
          have HB2 : Hid (Below w.heap.size w w2) := HBq.out.trans (hb2.out.mono HBq.out.size)
          clear HTq HBq hT2 hb2 HC2
          go_wp2
          go_loopw [7, 10] (fun o a wr' => SpI k i p gR cR N x zs VRR wq.heap.size w o a wr') (fun _ a _ => N - (intOf a).toNat)
          case atStart => exact ⟨0, _, _, _, _, Nat.zero_le _, rfl, rfl, hgne, HT2, HR2, HB2⟩
          case round =>
            clear HT2 HR2 HB2 hgne
            obtain ⟨j, g, c3, L, VR, hj, rfl, rfl, hgne, HT, HR, HB⟩ := hrel
            by_cases hlj : j < N
            · obtain ⟨A1, n1, c1, hc1, hp1, hl1⟩ := HR.out.rowAt hlj
              have hn1 : n1 = k := by rw [← hl1]; exact spL_row (by rw [HN.out]; exact hlj)
              rw [hn1] at hc1 hp1 hl1
              clear hn1
              obtain ⟨l, Hl⟩ : ∃ l, Hid ((spL zs k p).getD j [] = l) := ⟨_, rfl⟩
              rw [Hl.out] at hp1 hl1
              have HP1 := Lib.hid hp1
              have hLl := Hlen.out (p + 1) (by omega) (by omega)
              have hLe := HT.out.len
              have hL : L + 1 ≤ 1000 := by
                rw [spP_step hip, if_neg hsk, List.length_append, List.length_map, HN.out] at hLl
                rw [List.length_append, List.length_map, List.length_take, HN.out] at hLe
                omega
              have hcx : wr.cell? ⟨b, off + p, none⟩ = some (.int .i64 x) := by
                obtain ⟨b', off', x', e', -, Hx', hcell'⟩ := (HP.out.later HB.out).rd.x (k := p) (by rw [Hn.out]; exact hlt)
                injection e' with e'
                injection e' with e1 e2
                subst e1 e2
                rw [hcell', ← Hx'.out, Hx.out]
              have HO1 : Hid ((wr.alloc (.cells #[.int .i64 x] 3)).ownsRow wr.heap.size 3 1 (.slice (some ⟨wr.heap.size, 0, none⟩) 1 1) 1 ([x].map (Value.int .i64))) := World.ownsRow_lit wr #[.int .i64 x] 1 (Nat.le_refl _) (by decide) rfl
              have HB1 : Hid (Below wr.heap.size wr (wr.alloc (.cells #[.int .i64 x] 3))) := (Below.refl _ _).alloc (Nat.le_refl _) _
              have Hne : Hid ((Value.slice (some ⟨wr.heap.size, 0, none⟩) 1 1) ≠ .slice none 0 0) := (by intro h; cases h)
              have HPA : Hid (∀ V, Below wr.heap.size wr V → PartQ V A1 k c1 l) := fun V hV => HP1.out.later hV
              have Hkl : Hid ((x :: l).length = 1 + k) := by show _ = _; rw [List.length_cons, hl1, Nat.add_comm]
              have HTo : Hid (∀ V, Below wr.heap.size wr V → ∀ v, (V.alloc (.cells #[v] 23)).ownsRow w.heap.size 23 1 (.slice (some ⟨g, 0, none⟩) L c3) L ((List.range L).map VR)) := fun V hV v => World.ownsRow.alloc (HT.out.below hV).out _
              have hsz1 : L + 1 ≤ maxLen := by unfold maxLen; omega
              have hsz2 : (L + 1) * 24 ≤ 140737488355328 := by omega
              have hpi : (0 : Int) ≤ (p : Int) := by omega
              have hpn' : (p : Int) < (n : Int) := by omega
              clear hLl hLe hp1 HP1
              have hc2 : (wr.alloc (.cells #[.int .i64 x] 3)).cell? ⟨gR, j, none⟩ = some (.slice A1 k c1) := by rw [World.cell?_alloc_lt wr _ _ (HR.out.g_lt.2)]; exact hc1
              go_wp2
              go_region_law (first
                | (refine step_append_lies _ rfl (.tmp 49) (.tmp 60) 68 rfl w.heap.size 23 is _ 1 24 Try.underlying68 his hzs0 hzs1 hzs2 rfl (by decide) (.slice (some ⟨g, 0, none⟩) L c3) L ((List.range L).map VR) rfl (HTo.out w5 hb15 _) ⟨w5.heap.size, 0, none⟩ 1 1 [.slice A4 (1 + k : Nat) c4] rfl rfl (cell_one_new _ _ _) (by intro u hu; simp at hu; subst hu; rfl) (by decide) hsz1 hsz2 (by rw [size_alloc1]; have := hb15.size; have := HB.out.size; omega) _ rfl ?_
                   intro g5 c5 w6 hown5 hgrow5 hat5 hlt5)
                | (refine step_append_partO hi0 hz0 hz1 hz2 rfl (.tmp 54) (.tmp 58) rfl wr.heap.size (.slice (some ⟨wr.heap.size, 0, none⟩) 1 1) 1 [x] rfl HO1.out Hne.out A1 k c1 l rfl (HPA.out _ HB1.out.drew) (by omega) (by omega) HB1.out.drew.size ?_
                   intro v1 w5 hown1 hne1 hb5
                   obtain ⟨A4, c4, rfl, -, -, -⟩ := own_slice hown1 Hkl.out
                   have hb15 := HB1.out.drew.trans hb5))
              all_goals
                obtain ⟨hT5, hB5⟩ := HT.out.push HB.out hb15 Hkl.out hown1 hown5 hgrow5
                have HR5 := Lib.hid (HR.out.stay HT.out hgne hb15 hgrow5)
                have hg5 : g5 ≠ gR := by
                  rcases hat5 with h5 | h5
                  · injection h5 with h5
                    rw [← h5]; exact hgne
                  · have h6 := HR.out.g_lt.2
                    have h7 := hb15.size
                    rw [size_alloc1] at h5
                    omega
                have HT5 : Hid (RowsI w6 w.heap.size g5 c5 (L + 1) (spP zs k i p ++ ((spL zs k p).take (j + 1)).map (x :: ·)) (upd VR L (.slice A4 (1 + k : Nat) c4))) := by
                  show RowsI _ _ _ _ _ _ _
                  rw [take_snocI (by rw [HN.out]; exact hlj), Hl.out, ← List.append_assoc]; exact hT5
                have HB5 := Lib.hid hB5
                clear hT5 hB5 hown5 hgrow5 hat5 hlt5 HT HR hown1 hne1 hb5 hb15 hsz1 hsz2 hc1 hc2 hcx HO1 HB1 Hne HPA HTo
                go_wp2
                go_roundw
                case rel => exact ⟨j + 1, g5, c5, L + 1, _, by omega, rfl, by go_num, hg5, HT5, HR5, HB5⟩
                case measure => simp [intOf]; omega
            · obtain rfl : j = N := by omega
              have HT2 : Hid (RowsI wr w.heap.size g c3 L (spP zs k i (p + 1)) VR) := by
                show RowsI _ _ _ _ _ _ _
                rw [spP_step hip, if_neg hsk, Hx.out]
                have := HT.out
                rw [List.take_of_length_le (by rw [HN.out]; omega)] at this
                exact this
              clear HT HR
              go_wp2
              go_roundw
              case rel => exact ⟨p + 1, g, c3, L, VR, by omega, by omega, rfl, by go_num, HT2, HB⟩
              case measure => simp [intOf]; omega
        · have g1 : decide ((i : Int) > (i : Int)) = false := by simp
          have g2 : decide (i < i) = false := by simp
          have g3 : ¬ (i : Int) > (i : Int) := by omega
          clear hbl
          go_wp2
          go_quiet (fail)
          clear hcell g1 g2 g3
          obtain ⟨wq, Hwq⟩ : ∃ wq, Hid (wr.drewN nq = wq) := ⟨_, rfl⟩
          have HTq : Hid (RowsI wq w.heap.size g c2 L (spP zs k i i) VR) := by show RowsI _ _ _ _ _ _ _; rw [← Hwq.out]; exact HT.out.below (below_drew0 (Below.refl _ _) nq)
          have HBq : Hid (Below w.heap.size w wq) := by show Below _ _ _; rw [← Hwq.out]; exact below_drewN HB.out nq
          rw [Hwq.out]
          have HC2 := Lib.hid (HIH.out i n c _ zs wq (HP.out.later HBq.out) h1 h7 hpn)
          clear HT HB Hwq
          go_wp2_with fail
          refine HC2.out.mono ?_
          rintro e w2 ⟨gR, cR, VRR, rfl, hT2, hb2⟩
          obtain ⟨N, HN⟩ : ∃ N, Hid ((spL zs k i).length = N) := ⟨_, rfl⟩
          rw [HN.out] at hT2 ⊢
          have hN : N ≤ 1000 := by rw [← HN.out]; exact spL_le (by omega) (by rw [Hn.out]; omega) (by rw [Hn.out]; exact hpn)
          have hgne : g ≠ gR := by have := HTq.out.g_lt; have := hT2.out.g_lt; omega
          have HT2 : Hid (RowsI w2 w.heap.size g c2 L (spP zs k i i ++ ((spL zs k i).take 0).map (x :: ·)) VR) := by
            have := HTq.out.below hb2.out
            rw [List.take_zero, List.map_nil, List.append_nil]; exact this
          have HR2 := Lib.hid hT2.out
          have HB2 : Hid (Below w.heap.size w w2) := HBq.out.trans (hb2.out.mono HBq.out.size)
          clear HTq HBq hT2 hb2 HC2
          go_wp2
          go_loopw [7, 10] (fun o a wr' => SpI k i i gR cR N x zs VRR wq.heap.size w o a wr') (fun _ a _ => N - (intOf a).toNat)
          case atStart => exact ⟨0, _, _, _, _, Nat.zero_le _, rfl, rfl, hgne, HT2, HR2, HB2⟩
          case round =>
            clear HT2 HR2 HB2 hgne
            obtain ⟨j, g, c3, L, VR, hj, rfl, rfl, hgne, HT, HR, HB⟩ := hrel
            by_cases hlj : j < N
            · obtain ⟨A1, n1, c1, hc1, hp1, hl1⟩ := HR.out.rowAt hlj
              have hn1 : n1 = k := by rw [← hl1]; exact spL_row (by rw [HN.out]; exact hlj)
              rw [hn1] at hc1 hp1 hl1
              clear hn1
              obtain ⟨l, Hl⟩ : ∃ l, Hid ((spL zs k i).getD j [] = l) := ⟨_, rfl⟩
              rw [Hl.out] at hp1 hl1
              have HP1 := Lib.hid hp1
              have hLl := Hlen.out (i + 1) (by omega) (by omega)
              have hLe := HT.out.len
              have hL : L + 1 ≤ 1000 := by
                rw [spP_step hip, if_neg hsk, List.length_append, List.length_map, HN.out] at hLl
                rw [List.length_append, List.length_map, List.length_take, HN.out] at hLe
                omega
              have hcx : wr.cell? ⟨b, off + i, none⟩ = some (.int .i64 x) := by
                obtain ⟨b', off', x', e', -, Hx', hcell'⟩ := (HP.out.later HB.out).rd.x (k := i) (by rw [Hn.out]; exact hlt)
                injection e' with e'
                injection e' with e1 e2
                subst e1 e2
                rw [hcell', ← Hx'.out, Hx.out]
              have HO1 : Hid ((wr.alloc (.cells #[.int .i64 x] 3)).ownsRow wr.heap.size 3 1 (.slice (some ⟨wr.heap.size, 0, none⟩) 1 1) 1 ([x].map (Value.int .i64))) := World.ownsRow_lit wr #[.int .i64 x] 1 (Nat.le_refl _) (by decide) rfl
              have HB1 : Hid (Below wr.heap.size wr (wr.alloc (.cells #[.int .i64 x] 3))) := (Below.refl _ _).alloc (Nat.le_refl _) _
              have Hne : Hid ((Value.slice (some ⟨wr.heap.size, 0, none⟩) 1 1) ≠ .slice none 0 0) := (by intro h; cases h)
              have HPA : Hid (∀ V, Below wr.heap.size wr V → PartQ V A1 k c1 l) := fun V hV => HP1.out.later hV
              have Hkl : Hid ((x :: l).length = 1 + k) := by show _ = _; rw [List.length_cons, hl1, Nat.add_comm]
              have HTo : Hid (∀ V, Below wr.heap.size wr V → ∀ v, (V.alloc (.cells #[v] 23)).ownsRow w.heap.size 23 1 (.slice (some ⟨g, 0, none⟩) L c3) L ((List.range L).map VR)) := fun V hV v => World.ownsRow.alloc (HT.out.below hV).out _
              have hsz1 : L + 1 ≤ maxLen := by unfold maxLen; omega
              have hsz2 : (L + 1) * 24 ≤ 140737488355328 := by omega
              have hpi : (0 : Int) ≤ (i : Int) := by omega
              have hpn' : (i : Int) < (n : Int) := by omega
              clear hLl hLe hp1 HP1
              have hc2 : (wr.alloc (.cells #[.int .i64 x] 3)).cell? ⟨gR, j, none⟩ = some (.slice A1 k c1) := by rw [World.cell?_alloc_lt wr _ _ (HR.out.g_lt.2)]; exact hc1
              go_wp2
              go_region_law (first
                | (refine step_append_lies _ rfl (.tmp 49) (.tmp 60) 68 rfl w.heap.size 23 is _ 1 24 Try.underlying68 his hzs0 hzs1 hzs2 rfl (by decide) (.slice (some ⟨g, 0, none⟩) L c3) L ((List.range L).map VR) rfl (HTo.out w5 hb15 _) ⟨w5.heap.size, 0, none⟩ 1 1 [.slice A4 (1 + k : Nat) c4] rfl rfl (cell_one_new _ _ _) (by intro u hu; simp at hu; subst hu; rfl) (by decide) hsz1 hsz2 (by rw [size_alloc1]; have := hb15.size; have := HB.out.size; omega) _ rfl ?_
                   intro g5 c5 w6 hown5 hgrow5 hat5 hlt5)
                | (refine step_append_partO hi0 hz0 hz1 hz2 rfl (.tmp 54) (.tmp 58) rfl wr.heap.size (.slice (some ⟨wr.heap.size, 0, none⟩) 1 1) 1 [x] rfl HO1.out Hne.out A1 k c1 l rfl (HPA.out _ HB1.out.drew) (by omega) (by omega) HB1.out.drew.size ?_
                   intro v1 w5 hown1 hne1 hb5
                   obtain ⟨A4, c4, rfl, -, -, -⟩ := own_slice hown1 Hkl.out
                   have hb15 := HB1.out.drew.trans hb5))
              all_goals
                obtain ⟨hT5, hB5⟩ := HT.out.push HB.out hb15 Hkl.out hown1 hown5 hgrow5
                have HR5 := Lib.hid (HR.out.stay HT.out hgne hb15 hgrow5)
                have hg5 : g5 ≠ gR := by
                  rcases hat5 with h5 | h5
                  · injection h5 with h5
                    rw [← h5]; exact hgne
                  · have h6 := HR.out.g_lt.2
                    have h7 := hb15.size
                    rw [size_alloc1] at h5
                    omega
                have HT5 : Hid (RowsI w6 w.heap.size g5 c5 (L + 1) (spP zs k i i ++ ((spL zs k i).take (j + 1)).map (x :: ·)) (upd VR L (.slice A4 (1 + k : Nat) c4))) := by
                  show RowsI _ _ _ _ _ _ _
                  rw [take_snocI (by rw [HN.out]; exact hlj), Hl.out, ← List.append_assoc]; exact hT5
                have HB5 := Lib.hid hB5
                clear hT5 hB5 hown5 hgrow5 hat5 hlt5 HT HR hown1 hne1 hb5 hb15 hsz1 hsz2 hc1 hc2 hcx HO1 HB1 Hne HPA HTo
                go_wp2
                go_roundw
                case rel => exact ⟨j + 1, g5, c5, L + 1, _, by omega, rfl, by go_num, hg5, HT5, HR5, HB5⟩
                case measure => simp [intOf]; omega
            · obtain rfl : j = N := by omega
              have HT2 : Hid (RowsI wr w.heap.size g c3 L (spP zs k i (i + 1)) VR) := by
                show RowsI _ _ _ _ _ _ _
                rw [spP_step hip, if_neg hsk, Hx.out]
                have := HT.out
                rw [List.take_of_length_le (by rw [HN.out]; omega)] at this
                exact this
              clear HT HR
              go_wp2
              go_roundw
              case rel => exact ⟨i + 1, g, c3, L, VR, by omega, by omega, rfl, by go_num, HT2, HB⟩
              case measure => simp [intOf]; omega
    · obtain rfl : p = n := by omega
      have HE : Hid (LsPost (spL zs (k + 1) i) w (.returned (.slice (some ⟨g, 0, none⟩) L c2)) wr) := by
        have hT := HT.out
        rw [show spP zs k i p = spL zs (k + 1) i by rw [← Hn.out]; rfl] at hT
        have hl := hT.len
        subst hl
        exact ⟨g, c2, VR, rfl, hT, HB⟩
      go_wp2
      go_ret
      exact HE.out
theorem sp_any : ∀ k, k ≤ 4 → SpAt k
  | 0, _ => sp_zero
  | k + 1, hk => sp_step k hk (sp_any k (by omega))
end Go.Proofs.Ythphboeboiallab
