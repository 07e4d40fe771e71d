/-
  BestSpread and GreedySpread of the program, walked.
  Conditions: fewer than 2^20 numbers.
-/
import Derived.Test.Ythphboeboiallab1Z
namespace Go.Proofs.Ythphboeboiallab
open Go.ChangeShapes Go.WideShapes Go.ChangeAt Go.RowKit
set_option linter.unusedVariables false
set_option maxRecDepth 4000

/-- Homes and helpers that are spread. -/
def vsB (zs : List Int) (k far u d : Int) : Bool := vh zs && (decide (1 ≤ zs.length) && (decide (zs.length ≤ 7) && (decide (0 ≤ k) && (decide (k ≤ 4) && (vfar far && chB u d)))))
theorem vsB_get {zs : List Int} {k far u d : Int} (h : vsB zs k far u d = true) : vh zs = true ∧ 1 ≤ zs.length ∧ zs.length ≤ 7 ∧ 0 ≤ far ∧ far ≤ 50 ∧ ∃ K U D : Nat, k = K ∧ K ≤ 4 ∧ u = U ∧ d = D ∧ U ≤ D ∧ 1 ≤ D ∧ D ≤ 10 := by
  simp only [vsB, vfar, Bool.and_eq_true, decide_eq_true_eq] at h
  obtain ⟨h1, h2, h3, h4, h5, ⟨h6, h7⟩, h8⟩ := h
  obtain ⟨U, D, r⟩ := chB_get h8
  exact ⟨h1, h2, h3, h6, h7, k.toNat, U, D, by omega, by omega, r⟩
theorem vsB_of {zs : List Int} {K U D : Nat} {far : Int} (h1 : vh zs = true) (h2 : 1 ≤ zs.length) (h3 : zs.length ≤ 7) (h4 : K ≤ 4) (h5 : 0 ≤ far) (h6 : far ≤ 50) (h7 : U ≤ D) (h8 : 1 ≤ D) (h9 : D ≤ 10) : vsB zs K far U D = true := by
  simp [vsB, vfar, chB, h1, h2, h3, h5, h6]
  omega
/-- The answers. -/
def bsQ (zs : List Int) (k far u d : Int) : List Int := if vsB zs k far u d = true then bstL (rcB (nrF far) u.toNat d.toNat zs) zs k.toNat else []
def gdQ (zs : List Int) (k far u d : Int) : List Int := if vsB zs k far u d = true then gdL (rcB (nrF far) u.toNat d.toNat zs) zs k.toNat else []
theorem bsQ_yes {zs : List Int} {K U D : Nat} {far : Int} (h : vsB zs K far U D = true) : bsQ zs K far U D = bstL (rcB (nrF far) U D zs) zs K := by unfold bsQ; rw [if_pos h]; rfl
theorem gdQ_yes {zs : List Int} {K U D : Nat} {far : Int} (h : vsB zs K far U D = true) : gdQ zs K far U D = gdL (rcB (nrF far) U D zs) zs K := by unfold gdQ; rw [if_pos h]; rfl
theorem bsQ_no {zs : List Int} {k far u d : Int} (h : vsB zs k far u d = false) : bsQ zs k far u d = [] := by unfold bsQ; rw [if_neg (by simp [h])]
theorem gdQ_no {zs : List Int} {k far u d : Int} (h : vsB zs k far u d = false) : gdQ zs k far u d = [] := by unfold gdQ; rw [if_neg (by simp [h])]
/-- The contract. -/
def SpC (F : Nat) (ans : List Int → Int → Int → Int → Int → List Int) : Prop := ∀ (A : Option Addr) (c n : Nat) (zs : List Int) (k far u d : Int) (w : World), PIn w A c n zs →
  Calls Try.prog F #[.slice A n c, .int .i64 k, .int .i64 far, .agg #[.int .i64 u, .int .i64 d]] w (RowQ (ans zs k far u d) w)
theorem validFar_any (far : Int) (w : World) : Calls Try.prog 62 #[.int .i64 far] w fun e w' => e = .returned (.bool (vfar far)) ∧ w = w' := by
  by_cases h : 0 ≤ far ∧ far ≤ 50
  · rw [vfar_yes h.1 h.2]; exact validFar_yes far w h.1 h.2
  · rw [vfar_no (by omega)]; exact validFar_no far w (by omega)
set_option maxHeartbeats 1600000 in
theorem iSpread_any (A : Option Addr) (c n : Nat) (zs : List Int) (k far u d : Int) (w : World) (h : PIn w A c n zs) :
    Calls Try.prog 54 #[.slice A n c, .int .i64 k, .int .i64 far, .agg #[.int .i64 u, .int .i64 d]] w fun e w' => e = .returned (.bool (vsB zs k far u d)) ∧ Below w.heap.size w w' := by
  have hb1 : Below w.heap.size w (w.alloc (.cells #[.int .i64 u, .int .i64 d] 30)) := (Below.refl _ _).alloc (Nat.le_refl _) _
  have p1 : (w.alloc (.cells #[.int .i64 u, .int .i64 d] 30)).heap[w.heap.size]? = some (.cells #[.int .i64 u, .int .i64 d] 30 (0, 0)) := heap_alloc_new _ _
  obtain ⟨w1, Hw1⟩ : ∃ w1, Hid (w.alloc (.cells #[.int .i64 u, .int .i64 d] 30) = w1) := ⟨_, rfl⟩
  rw [Hw1.out] at hb1 p1
  obtain ⟨pb, Hpb⟩ : ∃ pb, Hid (w.heap.size = pb) := ⟨_, rfl⟩
  rw [Hpb.out] at p1
  obtain ⟨a0, a1⟩ := frac_cells p1
  have H1 := Lib.hid (iValid_any A c n zs w1 _ (h.later hb1).rd h.len (by have := h.most; omega))
  have H2 := Lib.hid (validFar_any far w1)
  have H3 := Lib.hid (iChance_any u d w1)
  have HB1 := Lib.hid hb1
  have Hn := Lib.hid h.len
  have hm := h.most
  clear h hb1 p1
  by_cases v1 : vh zs = true
  · rw [v1] at H1
    by_cases v2 : 1 ≤ n
    · by_cases v3 : n ≤ 7
      · by_cases v4 : 0 ≤ k
        · by_cases v5 : k ≤ 4
          · by_cases v6 : vfar far = true
            · have e : vsB zs k far u d = chB u d := by unfold vsB; rw [Hn.out, v1, v6]; simp [v2, v3, v4, v5]
              rw [v6] at H2
              rw [e]
              generalize chB u d = cb at H3 ⊢
              have w2' : (n : Int) ≥ 1 := by omega
              have w3' : (n : Int) ≤ 7 := by omega
              have w4' : k ≥ 0 := v4
              clear v1 v6 e
              go_enter Try.func54, Try.ntmps54
              go_wp2_with fail
              rw [Hw1.out, Hpb.out]
              refine H1.out.mono ?_
              rintro e w2 ⟨rfl, rfl⟩
              go_wp2_with fail
              refine H2.out.mono ?_
              rintro e w2 ⟨rfl, rfl⟩
              go_wp2_with fail
              refine H3.out.mono ?_
              rintro e w2 ⟨rfl, hb2⟩
              have HB2 : Hid (Below w.heap.size w w2) := HB1.out.trans (hb2.mono HB1.out.size)
              clear hb2
              go_wp2
              go_ret
              exact ⟨ret_bool (by simp), HB2.out⟩
            · have v6' : vfar far = false := by simpa using v6
              have e : vsB zs k far u d = false := by unfold vsB; rw [v6']; simp
              rw [v6'] at H2
              rw [e]
              have w2' : (n : Int) ≥ 1 := by omega
              have w3' : (n : Int) ≤ 7 := by omega
              have w4' : k ≥ 0 := v4
              clear v1 v6 v6' e
              go_enter Try.func54, Try.ntmps54
              go_wp2_with fail
              rw [Hw1.out, Hpb.out]
              refine H1.out.mono ?_
              rintro e w2 ⟨rfl, rfl⟩
              go_wp2_with fail
              refine H2.out.mono ?_
              rintro e w2 ⟨rfl, rfl⟩
              go_wp2
              go_ret
              exact ⟨ret_bool rfl, HB1.out⟩
          · have e : vsB zs k far u d = false := by unfold vsB; simp [v5]
            rw [e]
            have w2' : (n : Int) ≥ 1 := by omega
            have w3' : (n : Int) ≤ 7 := by omega
            have w4' : k ≥ 0 := v4
            clear v1 e
            go_enter Try.func54, Try.ntmps54
            go_wp2_with fail
            rw [Hw1.out, Hpb.out]
            refine H1.out.mono ?_
            rintro e w2 ⟨rfl, rfl⟩
            go_wp2
            go_ret
            exact ⟨ret_bool rfl, HB1.out⟩
        · have e : vsB zs k far u d = false := by unfold vsB; simp [v4]
          rw [e]
          have w2' : (n : Int) ≥ 1 := by omega
          have w3' : (n : Int) ≤ 7 := by omega
          have w4' : ¬ k ≥ 0 := v4
          clear v1 e
          go_enter Try.func54, Try.ntmps54
          go_wp2_with fail
          rw [Hw1.out, Hpb.out]
          refine H1.out.mono ?_
          rintro e w2 ⟨rfl, rfl⟩
          go_wp2
          go_ret
          exact ⟨ret_bool rfl, HB1.out⟩
      · have e : vsB zs k far u d = false := by unfold vsB; rw [Hn.out]; simp [v3]
        rw [e]
        have w2' : (n : Int) ≥ 1 := by omega
        have w3' : ¬ (n : Int) ≤ 7 := by omega
        clear v1 e
        go_enter Try.func54, Try.ntmps54
        go_wp2_with fail
        rw [Hw1.out, Hpb.out]
        refine H1.out.mono ?_
        rintro e w2 ⟨rfl, rfl⟩
        go_wp2
        go_ret
        exact ⟨ret_bool rfl, HB1.out⟩
    · have e : vsB zs k far u d = false := by unfold vsB; rw [Hn.out]; simp [v2]
      rw [e]
      have w2' : ¬ (n : Int) ≥ 1 := by omega
      clear v1 e
      go_enter Try.func54, Try.ntmps54
      go_wp2_with fail
      rw [Hw1.out, Hpb.out]
      refine H1.out.mono ?_
      rintro e w2 ⟨rfl, rfl⟩
      go_wp2
      go_ret
      exact ⟨ret_bool rfl, HB1.out⟩
  · have v1' : vh zs = false := by simpa using v1
    have e : vsB zs k far u d = false := by unfold vsB; rw [v1']; rfl
    rw [v1'] at H1
    rw [e]
    clear v1 v1' e
    go_enter Try.func54, Try.ntmps54
    go_wp2_with fail
    rw [Hw1.out, Hpb.out]
    refine H1.out.mono ?_
    rintro e w2 ⟨rfl, rfl⟩
    go_wp2
    go_ret
    exact ⟨ret_bool rfl, HB1.out⟩
theorem spots_run (u d far : Int) (A A' : Option Addr) (n c m c' : Nat) (W : World) : (Instr.field 59 (.agg #[.int .i64 u, .int .i64 d, .slice A n c, .int .i64 far, .slice A' m c']) 3).run Try.prog W = .ok (.slice A' m c') W := by kernel_rfl
set_option maxHeartbeats 1600000 in
theorem iBestSpread_ok : SpC 22 bsQ := by
  intro A c n zs k far u d w h
  have hb1 : Below w.heap.size w (w.alloc (.cells #[.int .i64 u, .int .i64 d] 30)) := (Below.refl _ _).alloc (Nat.le_refl _) _
  have p1 : (w.alloc (.cells #[.int .i64 u, .int .i64 d] 30)).heap[w.heap.size]? = some (.cells #[.int .i64 u, .int .i64 d] 30 (0, 0)) := heap_alloc_new _ _
  obtain ⟨w1, Hw1⟩ : ∃ w1, Hid (w.alloc (.cells #[.int .i64 u, .int .i64 d] 30) = w1) := ⟨_, rfl⟩
  rw [Hw1.out] at hb1 p1
  obtain ⟨pb, Hpb⟩ : ∃ pb, Hid (w.heap.size = pb) := ⟨_, rfl⟩
  rw [Hpb.out] at p1
  obtain ⟨a0, a1⟩ := frac_cells p1
  have HV := Lib.hid (iSpread_any A c n zs k far u d w1 (h.later hb1))
  have HP := Lib.hid h
  have HB1 := Lib.hid hb1
  have P1 := Lib.hid p1
  clear hb1 p1
  by_cases hv : vsB zs k far u d = true
  · obtain ⟨v1, v2, v3, v4, v5, K, U, D, rfl, v6, rfl, rfl, v7, v8, v9⟩ := vsB_get hv
    rw [hv] at HV
    rw [bsQ_yes hv]
    have Hn := Lib.hid h.len
    have V1 := Lib.hid v1
    have n1 : 1 ≤ n := by rw [← h.len]; exact v2
    have n7 : n ≤ 7 := by rw [← h.len]; exact v3
    clear h hv v1
    go_enter Try.func22, Try.ntmps22
    go_wp2_with fail
    rw [Hw1.out, Hpb.out]
    refine HV.out.mono ?_
    rintro e w2 ⟨rfl, hb2⟩
    have p2 := (hb2.block _ (row_lt P1.out)).trans P1.out
    have HB2 : Hid (Below w.heap.size w w2) := HB1.out.trans (hb2.mono HB1.out.size)
    obtain ⟨e0, e1⟩ := frac_cells p2
    clear hb2 p2 a0 a1 HV
    go_wp2_with fail
    refine (watchOver_any (U : Int) (D : Int) far A n c w2).mono ?_
    rintro e w3 ⟨rfl, hb3⟩
    have HB3 : Hid (Below w.heap.size w w3) := HB2.out.trans (hb3.mono HB2.out.size)
    have HW := Lib.hid (bestWith_any U D 0 K n c 0 far A none zs [] w3 (HP.out.later HB3.out) (partQ_nil w3) V1.out n1 n7 (by simp) (by omega) v4 v5 v7 v9)
    rw [bwL_best _ (vh_asc V1.out)] at HW
    unfold WtA at HW
    obtain ⟨M, HM⟩ : ∃ M, Hid ((bstL (rcB (nrF far) U D zs) zs K).length = M) := ⟨_, rfl⟩
    rw [HM.out] at HW
    unfold wtC at HW ⊢
    clear hb3 e0 e1
    go_wp2_with fail
    refine HW.out.mono ?_
    rintro e w4 ⟨A4, c4, rfl, ho4, hb4⟩
    have HE : Hid (RowQ (bstL (rcB (nrF far) U D zs) zs K) w (.returned (.slice A4 M c4)) w4) := by
      refine ⟨A4, c4, by rw [HM.out], ?_, HB3.out.trans (hb4.out.mono HB3.out.size)⟩
      rw [HM.out]
      exact own_lowQ ho4.out HB3.out.size
    have hfd := spots_run (U : Int) (D : Int) far A A4 n c M c4
    clear ho4 hb4
    go_wp2
    go_ret
    exact HE.out
  · have hv' : vsB zs k far u d = false := by simpa using hv
    rw [hv'] at HV
    rw [bsQ_no hv']
    clear hv hv' h
    go_enter Try.func22, Try.ntmps22
    go_wp2_with fail
    rw [Hw1.out, Hpb.out]
    refine HV.out.mono ?_
    rintro e w2 ⟨rfl, hb2⟩
    have HB2 : Hid (Below w.heap.size w w2) := HB1.out.trans (hb2.mono HB1.out.size)
    clear hb2
    go_wp2
    go_ret
    exact rowQ_nil _ _ HB2.out
/-- The greedy watch so far. -/
structure GdS (w wr : World) (pg n c j : Nat) (u d far : Int) (A : Option Addr) (l : List Int) : Prop where
  bel : Below w.heap.size w wr
  row : ∃ A5 c5, wr.heap[pg]? = some (.cells (wtC u d A n c far A5 j c5) 59 (0, 0)) ∧ wr.ownsRow (pg + 1) 3 1 (.slice A5 j c5) j (l.map (Value.int .i64))
def GdRel (w : World) (pg n c K : Nat) (u d far : Int) (A : Option Addr) (f : List Int → Nat) (zs : List Int) (a : Value) (wr : World) : Prop :=
  ∃ j : Nat, j ≤ K ∧ a = .int .i64 (j : Int) ∧ Hid (GdS w wr pg n c j u d far A (gdL f zs j))
set_option maxHeartbeats 3200000 in
theorem iGreedySpread_ok : SpC 24 gdQ := by
  intro A c n zs k far u d w h
  have hb1 : Below w.heap.size w (w.alloc (.cells #[.int .i64 u, .int .i64 d] 30)) := (Below.refl _ _).alloc (Nat.le_refl _) _
  have p1 : (w.alloc (.cells #[.int .i64 u, .int .i64 d] 30)).heap[w.heap.size]? = some (.cells #[.int .i64 u, .int .i64 d] 30 (0, 0)) := heap_alloc_new _ _
  obtain ⟨w1, Hw1⟩ : ∃ w1, Hid (w.alloc (.cells #[.int .i64 u, .int .i64 d] 30) = w1) := ⟨_, rfl⟩
  rw [Hw1.out] at hb1 p1
  obtain ⟨pb, Hpb⟩ : ∃ pb, Hid (w.heap.size = pb) := ⟨_, rfl⟩
  rw [Hpb.out] at p1
  obtain ⟨a0, a1⟩ := frac_cells p1
  have HV := Lib.hid (iSpread_any A c n zs k far u d w1 (h.later hb1))
  have HP := Lib.hid h
  have HB1 := Lib.hid hb1
  have P1 := Lib.hid p1
  clear hb1 p1
  by_cases hv : vsB zs k far u d = true
  · obtain ⟨v1, v2, v3, v4, v5, K, U, D, rfl, v6, rfl, rfl, v7, v8, v9⟩ := vsB_get hv
    rw [hv] at HV
    rw [gdQ_yes hv]
    have Hn := Lib.hid h.len
    have V1 := Lib.hid v1
    have n1 : 1 ≤ n := by rw [← h.len]; exact v2
    have n7 : n ≤ 7 := by rw [← h.len]; exact v3
    clear h hv v1
    go_enter Try.func24, Try.ntmps24
    go_wp2_with fail
    rw [Hw1.out, Hpb.out]
    refine HV.out.mono ?_
    rintro e w2 ⟨rfl, hb2⟩
    have p2 := (hb2.block _ (row_lt P1.out)).trans P1.out
    have HB2 : Hid (Below w.heap.size w w2) := HB1.out.trans (hb2.mono HB1.out.size)
    obtain ⟨e0, e1⟩ := frac_cells p2
    clear hb2 p2 a0 a1 HV
    go_wp2_with fail
    refine (watchOver_any (U : Int) (D : Int) far A n c w2).mono ?_
    rintro e w3 ⟨rfl, hb3⟩
    have HB3 : Hid (Below w.heap.size w w3) := HB2.out.trans (hb3.mono HB2.out.size)
    have hb4 : Below w3.heap.size w3 (w3.alloc (.cells (wtC (U : Int) (D : Int) A n c far none 0 0) 59)) := (Below.refl _ _).alloc (Nat.le_refl _) _
    have g4 : (w3.alloc (.cells (wtC (U : Int) (D : Int) A n c far none 0 0) 59)).heap[w3.heap.size]? = some (.cells (wtC (U : Int) (D : Int) A n c far none 0 0) 59 (0, 0)) := heap_alloc_new _ _
    obtain ⟨w4, Hw4⟩ : ∃ w4, Hid (w3.alloc (.cells (wtC (U : Int) (D : Int) A n c far none 0 0) 59) = w4) := ⟨_, rfl⟩
    rw [Hw4.out] at hb4 g4
    obtain ⟨pg, Hpg⟩ : ∃ pg, Hid (w3.heap.size = pg) := ⟨_, rfl⟩
    rw [Hpg.out] at g4
    have hpw : w.heap.size ≤ pg := by rw [← Hpg.out]; exact HB3.out.size
    have HS0 : Hid (GdS w w4 pg n c 0 (U : Int) (D : Int) far A (gdL (rcB (nrF far) U D zs) zs 0)) := ⟨HB3.out.trans (hb4.mono HB3.out.size), none, 0, g4, World.ownsRow_nil _ _ _ _⟩
    have Hgd := Lib.hid (fun j => gdL_asc (rcB (nrF far) U D zs) (zs := zs) v2 j)
    have Hnx := Lib.hid (fun j => (bwL_next (rcB (nrF far) U D zs) (zs := zs) (gdL_asc (rcB (nrF far) U D zs) v2 j).1 v2))
    unfold wtC at Hw4 ⊢
    clear hb3 e0 e1 hb4 g4
    go_wp2
    rw [Hw4.out, Hpg.out]
    go_loopw [21] (fun a wr => GdRel w pg n c K (U : Int) (D : Int) far A (rcB (nrF far) U D zs) zs a wr) (fun a _ => K - (intOf a).toNat)
    case atStart => exact ⟨0, Nat.zero_le _, rfl, HS0⟩
    case round =>
      clear HS0
      obtain ⟨j, hj, rfl, HS⟩ := hrel
      obtain ⟨A5, c5, hr5, ho5⟩ := HS.out.row
      by_cases hlt : j < K
      · obtain ⟨A6, c6, e6, hp6⟩ := part_own ho5 (Hgd.out j).2.1
        injection e6 with e6 _ e7
        subst e6 e7
        have HW := Lib.hid (bestWith_any U D j 1 n c c5 far A A5 zs (gdL (rcB (nrF far) U D zs) zs j) wr (HP.out.later HS.out.bel) hp6 V1.out n1 n7 (Hgd.out j).2.2 (by omega) v4 v5 v7 v9)
        rw [Hnx.out j] at HW
        have hgj : nxL (rcB (nrF far) U D zs) zs (gdL (rcB (nrF far) U D zs) zs j) = gdL (rcB (nrF far) U D zs) zs (j + 1) := rfl
        rw [hgj] at HW
        unfold WtA at HW
        rw [(Hgd.out (j + 1)).2.1] at HW
        unfold wtC at HW
        obtain ⟨x0, x1, x2, x3, x4⟩ := wtC_cells hr5
        have Hr5 := Lib.hid hr5
        clear hgj hp6 ho5 hr5
        go_wp2_with fail
        refine HW.out.mono ?_
        rintro e w5 ⟨A7, c7, rfl, ho7, hb7⟩
        have h5 := (hb7.out.block _ (row_lt Hr5.out)).trans Hr5.out
        obtain ⟨y0, y1, y2, y3, y4⟩ := wtC_cells h5
        have z0 := frozen_of_row _ pg 0 _ _ h5
        have z1 := frozen_of_row _ pg 1 _ _ h5
        have z2 := frozen_of_row _ pg 2 _ _ h5
        have z3 := frozen_of_row _ pg 3 _ _ h5
        have z4 := frozen_of_row _ pg 4 _ _ h5
        have HS6 : Hid (GdS w (wtSet w5 pg (U : Int) (D : Int) far A n c A7 (j + 1) c7) pg n c (j + 1) (U : Int) (D : Int) far A (gdL (rcB (nrF far) U D zs) zs (j + 1))) := by
          have hbb : Below w.heap.size w w5 := HS.out.bel.trans (hb7.out.mono HS.out.bel.size)
          refine ⟨hbb.grown (wtSet_grown _ _ _ _ _ _ _ _ _ _ _) hbb.size (fun i hi => by injection hi with hi; omega), A7, c7, wtSet_row h5, ?_⟩
          refine World.ownsRow.kept (own_lowQ ho7.out (by have := row_lt Hr5.out; omega)) (wtSet_grown _ _ _ _ _ _ _ _ _ _ _) (.inr fun e => ?_)
          have := (own_heap ho7.out e).2.1
          have := row_lt Hr5.out
          omega
        clear HS HW ho7 hb7 h5 x0 x1 x2 x3 x4 Hr5
        go_wp2
        go_roundw
        case rel => exact ⟨j + 1, by omega, by go_num, HS6⟩
        case measure => simp [intOf]; omega
      · obtain rfl : j = K := by omega
        obtain ⟨x0, x1, x2, x3, x4⟩ := wtC_cells hr5
        have hlj := (Hgd.out j).2.1
        have HE : Hid (RowQ (gdL (rcB (nrF far) U D zs) zs j) w (.returned (.slice A5 j c5)) wr) := by
          refine ⟨A5, c5, by rw [hlj], ?_, HS.out.bel⟩
          rw [hlj]
          exact own_lowQ ho5 (by omega)
        clear HS hr5 ho5 hlj
        go_wp2
        go_ret
        exact HE.out
  · have hv' : vsB zs k far u d = false := by simpa using hv
    rw [hv'] at HV
    rw [gdQ_no hv']
    clear hv hv' h
    go_enter Try.func24, Try.ntmps24
    go_wp2_with fail
    rw [Hw1.out, Hpb.out]
    refine HV.out.mono ?_
    rintro e w2 ⟨rfl, hb2⟩
    have HB2 : Hid (Below w.heap.size w w2) := HB1.out.trans (hb2.mono HB1.out.size)
    clear hb2
    go_wp2
    go_ret
    exact rowQ_nil _ _ HB2.out
end Go.Proofs.Ythphboeboiallab
