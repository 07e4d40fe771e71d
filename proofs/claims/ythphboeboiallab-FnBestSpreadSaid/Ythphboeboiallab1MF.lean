/-
  BestSpread and GreedySpread of the model, walked.
  Conditions: fewer than 2^20 numbers.
-/
import Derived.Test.Ythphboeboiallab1ME
import Derived.Deep.RegionHeld3
import Derived.Deep.LoopGhost
namespace Go.Proofs.Ythphboeboiallab
open Go.ChangeShapes Go.WideShapes Go.ChangeAt Go.RowKit
set_option linter.unusedVariables false
set_option maxRecDepth 4000

theorem spL_vh {zs l : List Int} {k : Nat} (hz : vh zs = true) (hk : k ≤ 4) (h : l ∈ spL zs k 0) : vh l = true ∧ l.length = k := by
  obtain ⟨h1, h2⟩ := spL_len h
  exact ⟨vh_of (spL_asc (vh_asc hz) h) (by omega) fun u hu => vh_bd hz u (inB_mem (h2 u hu)), h1⟩
theorem RowsI.pin {w : World} {B g c L : Nat} {Ls : List (List Int)} {VR : Nat → Value} (h : RowsI w B g c L Ls VR) {j : Nat} (hj : j < L) (hl : (Ls.getD j []).length ≤ 100) : ∃ A c', VR j = .slice A (Ls.getD j []).length c' ∧ w.cell? ⟨g, j, none⟩ = some (.slice A (Ls.getD j []).length c') ∧ PIn w A c' (Ls.getD j []).length (Ls.getD j []) := by
  obtain ⟨A, c', e, h1, h2, hr⟩ := own_slice (h.tt.own j hj) rfl
  have hc := Outer.cell h.out hj
  rw [e] at hc
  exact ⟨A, c', e, hc, hr, rfl, ⟨h1, h2⟩, by omega⟩
def BsRel (w4 : World) (gR k N : Nat) (f : List Int → Nat) (L : List (List Int)) (VRR : Nat → Value) (a i : Value) (wr : World) : Prop :=
  ∃ j t : Nat, 1 ≤ j ∧ j ≤ N ∧ t < N ∧ a = VRR t ∧ i = .int .i64 (j : Int) ∧ Hid (L.getD t [] = bsP f L j) ∧ Hid (Below w4.heap.size w4 wr)
set_option maxHeartbeats 3200000 in
theorem sBestSpread_ok : SpC 23 bsQ := by
  intro A c n zs k far u d w h
  have hb1 : Below w.heap.size w (w.alloc (.cells #[.int .i64 u, .int .i64 d] 30)) := (Below.refl _ _).alloc (Nat.le_refl _) _
  have p1 : (w.alloc (.cells #[.int .i64 u, .int .i64 d] 30)).heap[w.heap.size]? = some (.cells #[.int .i64 u, .int .i64 d] 30 (0, 0)) := heap_alloc_new _ _
  obtain ⟨w1, Hw1⟩ : ∃ w1, Hid (w.alloc (.cells #[.int .i64 u, .int .i64 d] 30) = w1) := ⟨_, rfl⟩
  rw [Hw1.out] at hb1 p1
  obtain ⟨pb, Hpb⟩ : ∃ pb, Hid (w.heap.size = pb) := ⟨_, rfl⟩
  rw [Hpb.out] at p1
  obtain ⟨a0, a1⟩ := frac_cells p1
  have HV := Lib.hid (sSpread_any A c n zs k far u d w1 (h.later hb1))
  have HP := Lib.hid h
  have HB1 := Lib.hid hb1
  have P1 := Lib.hid p1
  clear hb1 p1
  by_cases hv : vsB zs k far u d = true
  · obtain ⟨v1, v2, v3, v4, v5, K, U, D, rfl, v6, rfl, rfl, v7, v8, v9⟩ := vsB_get hv
    rw [hv] at HV
    rw [bsQ_yes hv]
    have V1 := Lib.hid v1
    have n1 : 1 ≤ n := by rw [← h.len]; exact v2
    have n7 : n ≤ 7 := by rw [← h.len]; exact v3
    have Hne := Lib.hid (spL_ne (vh_asc v1) v2 K)
    clear h hv v1
    go_enter Try.func23, Try.ntmps23
    go_wp2_with fail
    rw [Hw1.out, Hpb.out]
    refine HV.out.mono ?_
    rintro e w2 ⟨rfl, hb2⟩
    have P2 : Hid (w2.heap[pb]? = some (.cells #[.int .i64 (U : Int), .int .i64 (D : Int)] 30 (0, 0))) := (hb2.block _ (row_lt P1.out)).trans P1.out
    have HB2 : Hid (Below w.heap.size w w2) := HB1.out.trans (hb2.mono HB1.out.size)
    clear hb2 a0 a1 HV
    go_wp2_with fail
    refine (sp_any K v6 0 n c A zs w2 (HP.out.later HB2.out) n1 n7 (Nat.zero_le _)).mono ?_
    rintro e w4 ⟨gR, cR, VRR, rfl, hT4, hb4⟩
    have HB4 : Hid (Below w.heap.size w w4) := HB2.out.trans (hb4.out.mono HB2.out.size)
    have P4 : Hid (w4.heap[pb]? = some (.cells #[.int .i64 (U : Int), .int .i64 (D : Int)] 30 (0, 0))) := (hb4.out.block _ (row_lt P2.out)).trans P2.out
    obtain ⟨L, HL⟩ : ∃ L, Hid (spL zs K 0 = L) := ⟨_, rfl⟩
    have Hvl : Hid (∀ l, l ∈ L → vh l = true ∧ l.length = K) := fun l hl => spL_vh V1.out v6 (by rw [HL.out]; exact hl)
    rw [HL.out] at hT4 Hne ⊢
    obtain ⟨N, HN⟩ : ∃ N, Hid (L.length = N) := ⟨_, rfl⟩
    have hN1 : 1 ≤ N := by rw [← HN.out]; exact List.length_pos_iff.2 Hne.out
    have hN : N ≤ 1000 := by rw [← HN.out, ← HL.out]; exact spL_le v6 (by omega) (Nat.zero_le _)
    rw [HN.out] at hT4 ⊢
    have HT4 := Lib.hid hT4.out
    have Hat : Hid (∀ j, j < N → L.getD j [] ∈ L) := fun j hj => by simp [List.getD, HN.out, hj]
    have Hbs : Hid (bstL (rcB (nrF far) U D zs) zs K = bsP (rcB (nrF far) U D zs) L N) := by
      show _ = _
      rw [← HN.out, bsP_all, ← HL.out]; rfl
    have Hone : Hid (bsP (rcB (nrF far) U D zs) L 1 = L.getD 0 []) := bsP_one _ (by rw [HN.out]; exact hN1)
    have Hstep : Hid (∀ j, 1 ≤ j → j < N → bsP (rcB (nrF far) U D zs) L (j + 1) = if rcB (nrF far) U D zs (bsP (rcB (nrF far) U D zs) L j) < rcB (nrF far) U D zs (L.getD j []) then L.getD j [] else bsP (rcB (nrF far) U D zs) L j) := fun j h0 h => bsP_succ _ h0 (by rw [HN.out]; exact h)
    have HBt : Hid (∀ (sa sb : List Int) (Aa Ab : Option Addr) (ca cb : Nat) (W : World), Below w.heap.size w W → PIn W Aa ca K sa → PIn W Ab cb K sb → vh sa = true → vh sb = true → Calls Try.prog 58 #[.slice A n c, .slice Aa K ca, .slice Ab K cb, .int .i64 far, .agg #[.int .i64 (U : Int), .int .i64 (D : Int)]] W fun e w' => e = .returned (.bool (decide (rcB (nrF far) U D zs sb < rcB (nrF far) U D zs sa))) ∧ Below W.heap.size W w') :=
      fun sa sb Aa Ab ca cb W hW ha hb h1 h2 => better_any U D K n c ca cb far A Aa Ab zs sa sb W (HP.out.later hW) ha hb V1.out h1 h2 v6 v7 v9
    obtain ⟨f, Hf⟩ : ∃ f, Hid (rcB (nrF far) U D zs = f) := ⟨_, rfl⟩
    have HFin : Hid (bsP f L N = bstL (rcB (nrF far) U D zs) zs K) := by show _ = _; rw [Hbs.out, Hf.out]
    rw [Hf.out] at Hone Hstep HBt
    have hc0 : ∃ A1 c1, VRR 0 = .slice A1 K c1 ∧ w4.cell? ⟨gR, 0, none⟩ = some (.slice A1 K c1) := by
      have hl := (Hvl.out _ (Hat.out 0 (by omega))).2
      obtain ⟨A1, c1, e1, e2, -⟩ := HT4.out.pin (j := 0) (by omega) (by omega)
      rw [hl] at e1 e2
      exact ⟨A1, c1, e1, e2⟩
    obtain ⟨A1, c1, e1, hc1⟩ := hc0
    have E1 := Lib.hid e1
    have hN0 : (0 : Int) < (N : Int) := by omega
    have hB2 := HB2.out.size
    clear hT4 hb4 Hbs e1 HB2 P2
    go_wp2
    rw [← E1.out]
    go_loopw [10, 11] (fun a i wr => BsRel w4 gR K N f L VRR a i wr) (fun _ i _ => N - (intOf i).toNat)
    case atStart => exact ⟨1, 0, Nat.le_refl _, hN1, hN1, rfl, rfl, Hone.out.symm, Below.refl _ _⟩
    case round =>
      obtain ⟨j, t, hj1, hj, ht, rfl, rfl, HLt, HBr⟩ := hrel
      have HTr := Lib.hid (HT4.out.below HBr.out)
      have HBw : Hid (Below w.heap.size w wr) := HB4.out.trans (HBr.out.mono HB4.out.size)
      by_cases hlt : j < N
      · have hlj := Hvl.out _ (Hat.out j hlt)
        have hlt' := Hvl.out _ (Hat.out t ht)
        obtain ⟨Aa, ca, ea, hca, hpa⟩ := HTr.out.pin (j := j) hlt (by omega)
        obtain ⟨Ab, cb, eb, hcb, hpb⟩ := HTr.out.pin (j := t) ht (by omega)
        rw [hlj.2] at ea hca hpa
        rw [hlt'.2] at eb hcb hpb
        rw [HLt.out] at hpb hlt'
        have hs := Hstep.out j hj1 hlt
        obtain ⟨sa, Hsa⟩ : ∃ sa, Hid (L.getD j [] = sa) := ⟨_, rfl⟩
        obtain ⟨sb, Hsb⟩ : ∃ sb, Hid (bsP f L j = sb) := ⟨_, rfl⟩
        rw [Hsa.out] at hlj hpa hs
        rw [Hsb.out] at hlt' hpb hs HLt
        have HC := Lib.hid (fun W (hW : Below wr.heap.size wr W) => HBt.out sa sb Aa Ab ca cb W (HBw.out.trans (hW.mono HBw.out.size)) (hpa.later hW) (hpb.later hW) hlj.1 hlt'.1)
        have hfr : wr.heap[pb]? = some (.cells #[.int .i64 (U : Int), .int .i64 (D : Int)] 30 (0, 0)) := (HBr.out.block _ (row_lt P4.out)).trans P4.out
        obtain ⟨k0, k1⟩ := frac_cells hfr
        have K0 : Hid (∀ W, Below wr.heap.size wr W → W.cell? ⟨gR, j, none⟩ = some (.slice Aa K ca) ∧ W.cell? ⟨pb, 0, none⟩ = some (.int .i64 (U : Int)) ∧ W.cell? ⟨pb, 1, none⟩ = some (.int .i64 (D : Int))) := fun W hW =>
          ⟨(hW.cell (p := ⟨gR, j, none⟩) HTr.out.g_lt.2).trans hca, frac_cells ((hW.block _ (row_lt hfr)).trans hfr)⟩
        have HK := Lib.hid (K0.out wr (Below.refl _ _))
        have HS := Lib.hid hs
        rw [eb]
        have hj0 : (0 : Int) ≤ (j : Int) := by omega
        have hjN : (j : Int) < (N : Int) := by omega
        have Hea := Lib.hid ea
        have Heb := Lib.hid eb
        clear hlj hlt' hpa hpb hs hfr hcb ea eb
        go_wp2
        go_region_held3 (fun W' => W'.cell? ⟨gR, j, none⟩ = some (.slice Aa K ca) ∧ W'.cell? ⟨pb, 0, none⟩ = some (.int .i64 (U : Int)) ∧ W'.cell? ⟨pb, 1, none⟩ = some (.int .i64 (D : Int)))
          (first
            | go_keep
            | exact HK.out
            | exact K0.out _ hba)
          (first
            | (go_at_call 58
               refine (HC.out _ (Below.drew (Below.refl _ _))).mono ?_
               rintro e wa ⟨rfl, hqa⟩
               have hba : Below wr.heap.size wr wa := belowd hqa))
        by_cases hcmp : f sb < f sa
        · have HLn : Hid (L.getD j [] = bsP f L (j + 1)) := by show _ = _; rw [HS.out, if_pos hcmp, Hsa.out]
          have hd : decide (f sb < f sa) = true := decide_eq_true hcmp
          have hca2 := (K0.out _ hba).1
          have HBa : Hid (Below w4.heap.size w4 wa) := HBr.out.trans (hba.mono HBr.out.size)
          rw [hd]
          clear hcmp hd hba HK
          go_wp2
          go_roundw
          case rel => exact ⟨j + 1, j, by omega, by omega, hlt, Hea.out.symm, by go_num, HLn, HBa⟩
          case measure => simp [intOf]; omega
        · have HLn : Hid (L.getD t [] = bsP f L (j + 1)) := by show _ = _; rw [HS.out, if_neg hcmp, HLt.out]
          have hd : decide (f sb < f sa) = false := decide_eq_false hcmp
          have HBa : Hid (Below w4.heap.size w4 wa) := HBr.out.trans (hba.mono HBr.out.size)
          rw [hd]
          clear hcmp hd hba HK
          go_wp2
          go_roundw
          case rel => exact ⟨j + 1, t, by omega, by omega, ht, Heb.out.symm, by go_num, HLn, HBa⟩
          case measure => simp [intOf]; omega
      · obtain rfl : j = N := by omega
        have hlt' := Hvl.out _ (Hat.out t ht)
        obtain ⟨Ab, cb, eb, hcb, hpb⟩ := HTr.out.pin (j := t) ht (by omega)
        have HE : Hid (RowQ (bstL (rcB (nrF far) U D zs) zs K) w (.returned (VRR t)) wr) := by
          rw [← HFin.out, ← HLt.out]
          exact ⟨Ab, cb, by rw [eb], by rw [← eb]; exact own_lowQ (HTr.out.tt.own t ht) hB2, HBw.out⟩
        rw [eb] at HE ⊢
        clear hlt' eb hcb hpb HTr
        go_wp2
        go_ret
        exact HE.out
  · have hv' : vsB zs k far u d = false := by simpa using hv
    rw [hv'] at HV
    rw [bsQ_no hv']
    clear hv hv' h
    go_enter Try.func23, Try.ntmps23
    go_wp2_with fail
    rw [Hw1.out, Hpb.out]
    refine HV.out.mono ?_
    rintro e w2 ⟨rfl, hb2⟩
    have HB2 : Hid (Below w.heap.size w w2) := HB1.out.trans (hb2.mono HB1.out.size)
    clear hb2
    go_wp2
    go_ret
    exact rowQ_nil _ _ HB2.out
/-- The first best one of the first homes put in. -/
def GiRel (w3 : World) (n j : Nat) (f : List Int → Nat) (T : List (List Int)) (a i : Value) (wr : World) : Prop :=
  ∃ (t g c : Nat), 1 ≤ t ∧ t ≤ n ∧ a = .slice (some ⟨g, 0, none⟩) (j + 1 : Nat) c ∧ i = .int .i64 (t : Int) ∧ Hid (wr.ownsRow w3.heap.size 3 1 (.slice (some ⟨g, 0, none⟩) (j + 1 : Nat) c) (j + 1) ((bsP f T t).map (Value.int .i64))) ∧ Hid (Below w3.heap.size w3 wr)
def GoRel (w : World) (K : Nat) (f : List Int → Nat) (zs : List Int) (gk : Nat) (a : Value) (wr : World) : Prop :=
  ∃ (j g c : Nat), j ≤ K ∧ K - j ≤ gk ∧ a = .slice (some ⟨g, 0, none⟩) j c ∧ Hid (wr.ownsRow w.heap.size 3 1 (.slice (some ⟨g, 0, none⟩) j c) j ((gdL f zs j).map (Value.int .i64))) ∧ Hid (Below w.heap.size w wr)
theorem pin_own {w : World} {B g c n : Nat} {xs : List Int} (h : w.ownsRow B 3 1 (.slice (some ⟨g, 0, none⟩) n c) n (xs.map (Value.int .i64))) (hn : xs.length = n) (hm : n ≤ 1000) : PIn w (some ⟨g, 0, none⟩) c n xs := by
  obtain ⟨A6, c6, e6, h6, h7, h8⟩ := own_slice h hn
  injection e6 with e6 _ e7
  subst e6 e7
  exact ⟨h8, hn, ⟨h6, h7⟩, by omega⟩
theorem rowQ_some {xs : List Int} {w w' : World} {e : Ending} {n : Nat} (h : RowQ xs w e w') (hn : xs.length = n + 1) : ∃ g c, e = .returned (.slice (some ⟨g, 0, none⟩) (n + 1 : Nat) c) ∧ Hid (w'.ownsRow w.heap.size 3 1 (.slice (some ⟨g, 0, none⟩) (n + 1 : Nat) c) (n + 1) (xs.map (Value.int .i64))) ∧ Hid (Below w.heap.size w w') := by
  obtain ⟨A, c, he, ho, hb⟩ := h
  rw [hn] at he ho
  obtain ⟨A6, c6, e6, -, -, h6⟩ := own_sliceN ho.out
  injection e6 with e6 _ _
  subst e6
  obtain ⟨g, e7, -⟩ := h6 (by omega)
  subst e7
  exact ⟨g, c, he, ho, hb⟩
set_option maxHeartbeats 3200000 in
theorem sGreedySpread_ok : SpC 26 gdQ := by
  intro A c n zs k far u d w h
  have hb1 : Below w.heap.size w (w.alloc (.cells #[.int .i64 u, .int .i64 d] 30)) := (Below.refl _ _).alloc (Nat.le_refl _) _
  have p1 : (w.alloc (.cells #[.int .i64 u, .int .i64 d] 30)).heap[w.heap.size]? = some (.cells #[.int .i64 u, .int .i64 d] 30 (0, 0)) := heap_alloc_new _ _
  obtain ⟨w1, Hw1⟩ : ∃ w1, Hid (w.alloc (.cells #[.int .i64 u, .int .i64 d] 30) = w1) := ⟨_, rfl⟩
  rw [Hw1.out] at hb1 p1
  obtain ⟨pb, Hpb⟩ : ∃ pb, Hid (w.heap.size = pb) := ⟨_, rfl⟩
  rw [Hpb.out] at p1
  obtain ⟨a0, a1⟩ := frac_cells p1
  have HV := Lib.hid (sSpread_any A c n zs k far u d w1 (h.later hb1))
  have HP := Lib.hid h
  have HB1 := Lib.hid hb1
  have P1 := Lib.hid p1
  clear hb1 p1
  by_cases hv : vsB zs k far u d = true
  · obtain ⟨v1, v2, v3, v4, v5, K, U, D, rfl, v6, rfl, rfl, v7, v8, v9⟩ := vsB_get hv
    rw [hv] at HV
    rw [gdQ_yes hv]
    have V1 := Lib.hid v1
    have n1 : 1 ≤ n := by rw [← h.len]; exact v2
    have n7 : n ≤ 7 := by rw [← h.len]; exact v3
    have Hn := Lib.hid h.len
    obtain ⟨b, off, hA, hbl, -⟩ := h.rd (by rw [h.len]; exact n1)
    subst hA
    have HBt : Hid (∀ (m : Nat) (sa sb : List Int) (Aa Ab : Option Addr) (ca cb : Nat) (W : World), m ≤ 4 → Below w.heap.size w W → PIn W Aa ca m sa → PIn W Ab cb m sb → vh sa = true → vh sb = true → Calls Try.prog 58 #[.slice (some ⟨b, off, none⟩) n c, .slice Aa m ca, .slice Ab m cb, .int .i64 far, .agg #[.int .i64 (U : Int), .int .i64 (D : Int)]] W fun e w' => e = .returned (.bool (decide (rcB (nrF far) U D zs sb < rcB (nrF far) U D zs sa))) ∧ Below W.heap.size W w') :=
      fun m sa sb Aa Ab ca cb W hm hW ha hb h1 h2 => better_any U D m n c ca cb far _ Aa Ab zs sa sb W (h.later hW) ha hb v1 h1 h2 hm v7 v9
    obtain ⟨f, Hf⟩ : ∃ f, Hid (rcB (nrF far) U D zs = f) := ⟨_, rfl⟩
    rw [Hf.out] at HBt ⊢
    have Hgd := Lib.hid (fun j => gdL_asc f (zs := zs) v2 j)
    have Hnx : Hid (∀ l, nxL f zs l = bsP f (zs.map (wsI l)) n) := fun l => by
      have h1 := bsP_all f (zs.map (wsI l))
      rw [List.length_map, Hn.out] at h1
      rw [h1]
      unfold nxL
      match zs, v2 with
      | a :: r, _ => rfl
    have Hvw : Hid (∀ j t, j < K → t < n → vh (wsI (gdL f zs j) (zs.getD t 0)) = true ∧ (wsI (gdL f zs j) (zs.getD t 0)).length = j + 1) := fun j t hj ht => by
      obtain ⟨g1, g2, g3⟩ := Hgd.out j
      have hlen : (wsI (gdL f zs j) (zs.getD t 0)).length = j + 1 := by rw [wsI_len, g2]
      refine ⟨vh_of (wsI_asc _ g1) (by omega) fun u hu => ?_, hlen⟩
      rcases List.mem_cons.1 ((wsI_perm _ _).mem_iff.1 hu) with rfl | hu
      · exact vh_get V1.out (by rw [Hn.out]; exact ht) rfl
      · exact vh_bd V1.out u (g3 u hu)
    clear h hv v1 hbl
    go_enter Try.func26, Try.ntmps26
    go_wp2_with fail
    rw [Hw1.out, Hpb.out]
    refine HV.out.mono ?_
    rintro e w2 ⟨rfl, hb2⟩
    have P2 : Hid (w2.heap[pb]? = some (.cells #[.int .i64 (U : Int), .int .i64 (D : Int)] 30 (0, 0))) := (hb2.block _ (row_lt P1.out)).trans P1.out
    have HB2 : Hid (Below w.heap.size w w2) := HB1.out.trans (hb2.mono HB1.out.size)
    have hpw : pb < w2.heap.size := row_lt P2.out
    have HO3 : Hid ((w2.alloc (.cells #[] 3)).ownsRow w2.heap.size 3 1 (.slice (some ⟨w2.heap.size, 0, none⟩) 0 0) 0 ((gdL f zs 0).map (Value.int .i64))) := World.ownsRow_lit w2 #[] 0 (Nat.le_refl _) (by decide) rfl
    have HB3 : Hid (Below w2.heap.size w2 (w2.alloc (.cells #[] 3))) := (Below.refl _ _).alloc (Nat.le_refl _) _
    clear hb2 a0 a1 HV
    go_wp2
    go_loopg [9] K (fun gk a wr => GoRel w2 K f zs gk a wr)
    case atStart => exact ⟨0, _, _, Nat.zero_le _, by omega, rfl, HO3, HB3⟩
    case round =>
      clear HO3 HB3
      obtain ⟨j, g, c1, hj, hgk, rfl, HO, HB⟩ := hrel
      have HBw : Hid (Below w.heap.size w wr) := HB2.out.trans (HB.out.mono HB2.out.size)
      by_cases hlt : j < K
      · obtain ⟨g1, g2, g3⟩ := Hgd.out j
        have hpo := pin_own HO.out g2 (by omega)
        have HPO := Lib.hid hpo
        obtain ⟨l, Hl⟩ : ∃ l, Hid (gdL f zs j = l) := ⟨_, rfl⟩
        have Hvj : Hid (∀ t, t < n → vh (wsI l (zs.getD t 0)) = true ∧ (wsI l (zs.getD t 0)).length = j + 1) := fun t ht => by rw [← Hl.out]; exact Hvw.out j t hlt ht
        have Hnext : Hid (bsP f (zs.map (wsI l)) n = gdL f zs (j + 1)) := by show _ = _; rw [← Hnx.out, ← Hl.out]; rfl
        rw [Hl.out] at HO HPO
        have HT0 : Hid (bsP f (zs.map (wsI l)) 1 = wsI l (zs.getD 0 0)) := by
          show _ = _
          rw [bsP_one _ (by rw [List.length_map, Hn.out]; exact n1)]
          simp [List.getD, show 0 < zs.length by rw [Hn.out]; omega]
        have HTs : Hid (∀ t, 1 ≤ t → t < n → bsP f (zs.map (wsI l)) (t + 1) = if f (bsP f (zs.map (wsI l)) t) < f (wsI l (zs.getD t 0)) then wsI l (zs.getD t 0) else bsP f (zs.map (wsI l)) t) := fun t h1 h2 => by
          rw [bsP_succ _ h1 (by rw [List.length_map, Hn.out]; exact h2)]
          have e : (zs.map (wsI l)).getD t [] = wsI l (zs.getD t 0) := by simp [List.getD, show t < zs.length by rw [Hn.out]; exact h2]
          rw [e]
        have HTv : Hid (∀ t, vh (bsP f (zs.map (wsI l)) t) = true ∧ (bsP f (zs.map (wsI l)) t).length = j + 1) := fun t => by
          obtain ⟨y, hy, e⟩ := List.mem_map.1 (bsP_mem f (j := t) (L := zs.map (wsI l)) (by rw [List.length_map, Hn.out]; exact n1))
          obtain ⟨q, hq, rfl⟩ := List.mem_iff_getElem.1 hy
          rw [← e]
          have := Hvj.out q (by rw [← Hn.out]; exact hq)
          simpa [List.getD, hq] using this
        obtain ⟨b0, o0, x0, e0, -, Hx0, hc0⟩ := (HP.out.later HBw.out).rd.x (k := 0) (by rw [Hn.out]; omega)
        injection e0 with e0
        injection e0 with e01 e02
        subst e01 e02
        rw [Nat.add_zero] at hc0
        have HW0 := Lib.hid (withSpot_any g 0 c1 j x0 l wr HPO.out (by omega))
        rw [Hx0.out] at HT0
        have Hl0 : Hid ((wsI l x0).length = j + 1) := by show _ = _; rw [← Hx0.out]; exact (Hvj.out 0 (by omega)).2
        have hn0 : (0 : Int) < (n : Int) := by omega
        have hjK : (j : Int) < (K : Int) := by omega
        clear hpo g1 g2 g3
        go_wp2_with fail
        refine HW0.out.mono ?_
        rintro e w3 hq3
        obtain ⟨g3, c3, rfl, ho3, hb3⟩ := rowQ_some hq3 Hl0.out
        rw [← HT0.out] at ho3
        have HB3 : Hid (Below w2.heap.size w2 w3) := HB.out.trans (hb3.out.mono HB.out.size)
        clear hq3 hc0 HW0
        go_wp2
        go_loopw [10, 11] (fun a i wr' => GiRel wr n j f (zs.map (wsI l)) a i wr') (fun _ i _ => n - (intOf i).toNat)
        case atStart => exact ⟨1, g3, c3, Nat.le_refl _, n1, rfl, rfl, ho3, hb3⟩
        case round =>
          clear ho3 hb3 HB3
          obtain ⟨t, g4, c4, ht1, ht, rfl, rfl, HO4, HB4⟩ := hrel
          by_cases hlt4 : t < n
          · have HBw4 : Hid (Below w.heap.size w wr) := HBw.out.trans (HB4.out.mono HBw.out.size)
            have HPO4 := Lib.hid (HPO.out.later HB4.out)
            obtain ⟨b0, o0, x, e0, -, Hx, hcx⟩ := (HP.out.later HBw4.out).rd.x (k := t) (by rw [Hn.out]; exact hlt4)
            injection e0 with e0
            injection e0 with e01 e02
            subst e01 e02
            have HW := Lib.hid (withSpot_any g 0 c1 j x l wr HPO4.out (by omega))
            obtain ⟨tv1, tv2⟩ := Hvj.out t hlt4
            rw [Hx.out] at tv1 tv2
            have hts := HTs.out t ht1 hlt4
            rw [Hx.out] at hts
            obtain ⟨bv1, bv2⟩ := HTv.out t
            obtain ⟨tl, Htl⟩ : ∃ tl, Hid (wsI l x = tl) := ⟨_, rfl⟩
            rw [Htl.out] at HW tv1 tv2 hts
            obtain ⟨bl, Hbl⟩ : ∃ bl, Hid (bsP f (zs.map (wsI l)) t = bl) := ⟨_, rfl⟩
            rw [Hbl.out] at HO4 hts bv1 bv2
            have Hts := Lib.hid hts
            have T2 := Lib.hid tv2
            have T1 := Lib.hid tv1
            have B1 := Lib.hid bv1
            have B2 := Lib.hid bv2
            have ht0 : (0 : Int) ≤ (t : Int) := by omega
            have htn : (t : Int) < (n : Int) := by omega
            clear tv1 tv2 hts bv1 bv2
            go_wp2_with fail
            refine HW.out.mono ?_
            rintro e w5 hq5
            obtain ⟨g5, c5, rfl, ho5, hb5⟩ := rowQ_some hq5 T2.out
            have HBw5 : Hid (Below w.heap.size w w5) := HBw4.out.trans (hb5.out.mono HBw4.out.size)
            have ho45 := ownN_below HO4.out hb5.out
            have HBt5 := Lib.hid (HBt.out (j + 1) tl bl _ _ c5 c4 w5 (by omega) HBw5.out (pin_own ho5.out T2.out (by omega)) (pin_own ho45 B2.out (by omega)) T1.out B1.out)
            have hfr : w5.heap[pb]? = some (.cells #[.int .i64 (U : Int), .int .i64 (D : Int)] 30 (0, 0)) := by
              refine (hb5.out.block _ ?_).trans ((HB4.out.block _ ?_).trans ((HB.out.block _ (row_lt P2.out)).trans P2.out))
              · have := HB.out.size; have := HB4.out.size; omega
              · have := HB.out.size; omega
            obtain ⟨k0, k1⟩ := frac_cells hfr
            have HO45 := Lib.hid ho45
            have HB35 := Lib.hid (HB4.out.trans (hb5.out.mono HB4.out.size))
            have Ho5 := Lib.hid (own_lowQ ho5.out HB4.out.size)
            clear hq5 hcx HW hb5 ho45 hfr ho5
            go_wp2_with fail
            refine HBt5.out.mono ?_
            rintro e w6 ⟨rfl, hb6⟩
            have HB6 := Lib.hid (HB35.out.trans (hb6.mono HB35.out.size))
            by_cases hcmp : f bl < f tl
            · have hd : decide (f bl < f tl) = true := decide_eq_true hcmp
              have HO6 := ownN_below Ho5.out hb6
              have hsn : bsP f (zs.map (wsI l)) (t + 1) = tl := by rw [Hts.out, if_pos hcmp]
              rw [← hsn] at HO6
              have HO6' := Lib.hid HO6
              rw [hd]
              clear hcmp hd hb6 HO6 hsn k0 k1
              go_wp2
              go_roundw
              case rel => exact ⟨t + 1, g5, c5, by omega, by omega, rfl, by go_num, HO6', HB6⟩
              case measure => simp [intOf]; omega
            · have hd : decide (f bl < f tl) = false := decide_eq_false hcmp
              have HO6 := ownN_below HO45.out hb6
              have hsn : bsP f (zs.map (wsI l)) (t + 1) = bl := by rw [Hts.out, if_neg hcmp]
              rw [← hsn] at HO6
              have HO6' := Lib.hid HO6
              rw [hd]
              clear hcmp hd hb6 HO6 hsn k0 k1
              go_wp2
              go_roundw
              case rel => exact ⟨t + 1, g4, c4, by omega, by omega, rfl, by go_num, HO6', HB6⟩
              case measure => simp [intOf]; omega
          · obtain rfl : t = n := by omega
            rw [Hnext.out] at HO4
            have HO6 := Lib.hid (own_lowQ HO4.out HB.out.size)
            have HB6 : Hid (Below w2.heap.size w2 wr) := HB.out.trans (HB4.out.mono HB.out.size)
            clear HO4 HB4
            go_wp2
            go_roundg (K - (j + 1))
            case measure => omega
            case rel => exact ⟨j + 1, g4, c4, by omega, Nat.le_refl _, rfl, HO6, HB6⟩
      · obtain rfl : j = K := by omega
        have hlj := (Hgd.out j).2.1
        have HE : Hid (RowQ (gdL f zs j) w (.returned (.slice (some ⟨g, 0, none⟩) j c1)) wr) := by
          refine ⟨_, c1, by rw [hlj], ?_, HBw.out⟩
          rw [hlj]
          exact own_lowQ HO.out HB2.out.size
        have hjK : ¬ (j : Int) < (j : Int) := by omega
        clear hlj HO
        go_wp2
        go_ret
        exact HE.out
  · have hv' : vsB zs k far u d = false := by simpa using hv
    rw [hv'] at HV
    rw [gdQ_no hv']
    clear hv hv' h
    go_enter Try.func26, Try.ntmps26
    go_wp2_with fail
    rw [Hw1.out, Hpb.out]
    refine HV.out.mono ?_
    rintro e w2 ⟨rfl, hb2⟩
    have HB2 : Hid (Below w.heap.size w w2) := HB1.out.trans (hb2.mono HB1.out.size)
    clear hb2
    go_wp2
    go_ret
    exact rowQ_nil _ _ HB2.out
end Go.Proofs.Ythphboeboiallab
