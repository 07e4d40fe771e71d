/-
  The best watch with so many more spots, walked.
  Conditions: homes, spots and numbers within the document's limits.
-/
import Derived.Test.Ythphboeboiallab1R
import Derived.Test.Ythphboeboiallab0NC
namespace Go.Proofs.Ythphboeboiallab
open Go.ChangeShapes Go.WideShapes Go.ChangeAt Go.RowKit
set_option linter.unusedVariables false
set_option maxRecDepth 4000

theorem okFrom_asc : ∀ {l : List Int} {a : Int}, ascB l → (∀ u ∈ l, a ≤ u ∧ u ≤ 50) → okFrom a l = true
  | [], _, _, _ => rfl
  | x :: r, a, h, hb => by
    obtain ⟨h1, h2⟩ := ascB_tail h
    have hx := hb x (by simp)
    simp only [okFrom, Bool.and_eq_true, decide_eq_true_eq]
    exact ⟨hx.1, hx.2, okFrom_asc h1 fun u hu => ⟨h2 u hu, (hb u (by simp [hu])).2⟩⟩
theorem asc_okFrom : ∀ {l : List Int} {a : Int}, okFrom a l = true → ascB l
  | [], _, _ => trivial
  | x :: r, a, h => by
    simp only [okFrom, Bool.and_eq_true, decide_eq_true_eq] at h
    exact ascB_cons (fun u hu => (okFrom_mem h.2.2 u hu).1) (asc_okFrom h.2.2)
theorem vh_asc {l : List Int} (h : vh l = true) : ascB l := asc_okFrom (vh_ok h)
theorem vh_bd {l : List Int} (h : vh l = true) : ∀ u ∈ l, 0 ≤ u ∧ u ≤ 50 := okFrom_mem (vh_ok h)
theorem vh_of {l : List Int} (h : ascB l) (hl : l.length ≤ 10) (hb : ∀ u ∈ l, 0 ≤ u ∧ u ≤ 50) : vh l = true := vh_short hl (okFrom_asc h hb)
theorem below_grown {w w' : World} (h : Below w.heap.size w w') (row : Option Nat) : w.grownBy w' row := ⟨h.os, h.tape, h.output, h.size, fun k hk _ => h.block k hk⟩
theorem RowsI.kept {w w' : World} {B g c L gb : Nat} {Ls : List (List Int)} {VR : Nat → Value} (h : RowsI w B g c L Ls VR) (hg : w.grownBy w' (some gb)) (hlt : gb < B) : RowsI w' B g c L Ls VR :=
  ⟨h.len, World.ownsRow.kept h.out hg (.inr fun e => by have := (own_heap h.out e).2.1; omega), ⟨fun j hj => World.ownsRow.kept (h.tt.own j hj) hg (.inr fun e => by have := (own_heap (h.tt.own j hj) e).2.1; omega), h.tt.dis⟩⟩
theorem tryL_length (zs ss : List Int) (k : Nat) : (tryL zs ss k).length = (loL k (cmF none zs)).length := by simp [tryL]
theorem tryL_at {zs ss : List Int} {k j : Nat} (h : j < (loL k (cmF none zs)).length) : (tryL zs ss k).getD j [] = srt (ss ++ (loL k (cmF none zs)).getD j []) := by
  simp [tryL, List.getD, h]
/-- What is tried is valid. -/
theorem tryL_ok {zs ss l : List Int} {k : Nat} (hz : vh zs = true) (hs : ∀ u ∈ ss, u ∈ zs) (hl : ss.length + k ≤ 4) (h : l ∈ tryL zs ss k) : vh l = true ∧ l.length = ss.length + k ∧ ascB l ∧ ∀ u ∈ l, u ∈ zs := by
  obtain ⟨r, hr, rfl⟩ := List.mem_map.1 h
  obtain ⟨h1, h2⟩ := loL_mem hr
  have hm : ∀ u ∈ srt (ss ++ r), u ∈ zs := fun u hu => by
    rcases List.mem_append.1 ((srt_perm _).mem_iff.1 hu) with hu | hu
    · exact hs u hu
    · exact cmF_mem (h2 u hu)
  have hlen : (srt (ss ++ r)).length = ss.length + k := by rw [srt_len, List.length_append, h1]
  exact ⟨vh_of (srt_asc _) (by omega) fun u hu => vh_bd hz u (hm u hu), hlen, srt_asc _, hm⟩
/-- The best one so far. -/
structure BwS (w6 wr : World) (gb m k n c j : Nat) (u d far : Int) (A : Option Addr) (f : List Int → Nat) (T : List (List Int)) (mo : Int) : Prop where
  grown : w6.grownBy wr (some gb)
  best : ∃ A5 m5 c5, wr.heap[gb]? = some (.cells (wtC u d A n c far A5 m5 c5) 59 (0, 0)) ∧ (j = 0 ∧ mo = -1 ∨ 1 ≤ j ∧ m5 = m + k ∧ mo = ((f (bsP f T j) : Nat) : Int) ∧ wr.ownsRow w6.heap.size 3 1 (.slice A5 (m + k) c5) (m + k) ((bsP f T j).map (Value.int .i64)))
def BwRel (w6 : World) (gb m k n c N : Nat) (u d far : Int) (A : Option Addr) (f : List Int → Nat) (T : List (List Int)) (a b : Value) (wr : World) : Prop :=
  ∃ (j : Nat) (mo : Int), j ≤ N ∧ a = .int .i64 mo ∧ b = .int .i64 (j : Int) ∧ Hid (BwS w6 wr gb m k n c j u d far A f T mo)
set_option maxHeartbeats 3200000 in
theorem bestWith_any (U D m k n c c' : Nat) (far : Int) (A A' : Option Addr) (zs ss : List Int) (w : World) (h0 : PIn w A c n zs) (h1 : PartQ w A' m c' ss) (hz : vh zs = true) (h1n : 1 ≤ n) (hn7 : n ≤ 7) (hs : ∀ u ∈ ss, u ∈ zs) (hmk : m + k ≤ 4) (f0 : 0 ≤ far) (f50 : far ≤ 50) (hU : U ≤ D) (hD : D ≤ 10) :
    Calls Try.prog 55 #[.agg (wtC (U : Int) (D : Int) A n c far A' m c'), .int .i64 (k : Int)] w (WtA (U : Int) (D : Int) A n c far (bwL (rcB (nrF far) U D zs) zs ss k) w) := by
  obtain ⟨b, off, e0, hbl, hcell⟩ := h0.rd (by rw [h0.len]; exact h1n)
  have hb1 : Below w.heap.size w ((w.alloc (.cells (wtC (U : Int) (D : Int) A n c far A' m c') 59)).alloc (.cells (wtC 0 0 none 0 0 0 none 0 0) 59)) := ((Below.refl _ _).alloc (Nat.le_refl _) _).alloc (by rw [size_alloc1]; omega) _
  have s1 : ((w.alloc (.cells (wtC (U : Int) (D : Int) A n c far A' m c') 59)).alloc (.cells (wtC 0 0 none 0 0 0 none 0 0) 59)).heap.size = w.heap.size + 1 + 1 := by rw [size_alloc1, size_alloc1]
  have p1 : ((w.alloc (.cells (wtC (U : Int) (D : Int) A n c far A' m c') 59)).alloc (.cells (wtC 0 0 none 0 0 0 none 0 0) 59)).heap[w.heap.size]? = some (.cells (wtC (U : Int) (D : Int) A n c far A' m c') 59 (0, 0)) := by
    rw [heap_alloc_old _ _ (by rw [size_alloc1]; omega)]; exact heap_alloc_new _ _
  have q1 : ((w.alloc (.cells (wtC (U : Int) (D : Int) A n c far A' m c') 59)).alloc (.cells (wtC 0 0 none 0 0 0 none 0 0) 59)).heap[w.heap.size + 1]? = some (.cells (wtC 0 0 none 0 0 0 none 0 0) 59 (0, 0)) := by
    have := heap_alloc_new (w.alloc (.cells (wtC (U : Int) (D : Int) A n c far A' m c') 59)) (.cells (wtC 0 0 none 0 0 0 none 0 0) 59)
    rw [size_alloc1] at this; exact this
  obtain ⟨w1, Hw1⟩ : ∃ w1, Hid ((w.alloc (.cells (wtC (U : Int) (D : Int) A n c far A' m c') 59)).alloc (.cells (wtC 0 0 none 0 0 0 none 0 0) 59) = w1) := ⟨_, rfl⟩
  rw [Hw1.out] at hb1 s1 p1 q1
  obtain ⟨pb, Hpb⟩ : ∃ pb, Hid (w.heap.size = pb) := ⟨_, rfl⟩
  rw [Hpb.out] at s1 p1 q1
  have HCl := Lib.hid (cloneQ_any b off c n zs w1 h0.len (by omega) (by rw [s1, ← Hpb.out]; omega) (fun i hi => (hb1.cell (p := ⟨b, off + i, none⟩) hbl).trans (hcell i (by rw [h0.len]; exact hi))))
  rw [← e0] at HCl
  have Hn := Lib.hid h0.len
  have Hm := Lib.hid h1.len
  have HP := Lib.hid h0
  have HQ := Lib.hid h1
  have HB1 := Lib.hid hb1
  have S1 := Lib.hid s1
  have P1 := Lib.hid p1
  have Q1 := Lib.hid q1
  have a2 := (wtC_cells p1).2.2.1
  have HZ := Lib.hid hz
  have HS := Lib.hid hs
  clear h0 h1 hb1 s1 p1 q1 hbl hcell e0 hz hs
  unfold wtC at Hw1
  show Calls _ _ #[.agg #[.int .i64 (U : Int), .int .i64 (D : Int), .slice A n c, .int .i64 far, .slice A' m c'], .int .i64 (k : Int)] _ _
  go_enter Try.func55, Try.ntmps55
  go_wp2_with fail
  rw [Hw1.out, Hpb.out]
  refine HCl.out.mono ?_
  rintro e w2 ⟨A2, c2, rfl, ho2, hb2⟩
  rw [Hn.out] at ho2 ⊢
  obtain ⟨gC, rfl⟩ : ∃ g, A2 = some ⟨g, 0, none⟩ := by
    obtain ⟨A6, c6, e6, -, -, h6⟩ := own_sliceN ho2.out
    injection e6 with e6 _ _
    subst e6
    obtain ⟨g, e7, -⟩ := h6 h1n
    exact ⟨g, e7⟩
  have HCo := Lib.hid (compactQ_any w1.heap.size gC n c2 zs w2 ho2.out Hn.out (by omega))
  have hgC : w1.heap.size ≤ gC ∧ gC < w2.heap.size := ho2.out.lt gC rfl
  have P2 : Hid (w2.heap[pb]? = some (.cells (wtC (U : Int) (D : Int) A n c far A' m c') 59 (0, 0))) := (hb2.out.block _ (row_lt P1.out)).trans P1.out
  have Q2 : Hid (w2.heap[pb + 1]? = some (.cells (wtC 0 0 none 0 0 0 none 0 0) 59 (0, 0))) := (hb2.out.block _ (row_lt Q1.out)).trans Q1.out
  have HB2 : Hid (Below w.heap.size w w2) := HB1.out.trans (hb2.out.mono HB1.out.size)
  clear ho2 hb2 a2
  go_wp2_with fail
  refine HCo.out.mono ?_
  rintro e w3 ⟨rfl, ho3, hg3⟩
  obtain ⟨ys, Hys⟩ : ∃ ys, Hid (cmF none zs = ys) := ⟨_, rfl⟩
  have hy1 : 1 ≤ (cmF none zs).length := cmF_ne (by rw [Hn.out]; exact h1n)
  have hy7 : (cmF none zs).length ≤ n := by have := cmF_len none zs; rw [Hn.out] at this; exact this
  rw [Hys.out] at ho3 hy1 hy7 ⊢
  obtain ⟨L, HL⟩ : ∃ L, Hid (ys.length = L) := ⟨_, rfl⟩
  rw [HL.out] at ho3 hy1 hy7 ⊢
  have S1' := S1.out
  have P3 := (hg3.out.block _ (row_lt P2.out) (by intro e; injection e with e; omega)).trans P2.out
  have Q3 := (hg3.out.block _ (row_lt Q2.out) (by intro e; injection e with e; omega)).trans Q2.out
  have hb3 : Below w.heap.size w w3 := HB2.out.grown hg3.out HB2.out.size (fun j hj => by injection hj with hj; rw [← hj]; have := HB1.out.size; omega)
  obtain ⟨hL2, hL3⟩ : L ≤ c2 ∧ c2 ≤ 9223372036854775807 := by
    obtain ⟨A6, c6, e6, h6, h7, -⟩ := own_sliceN ho3.out
    injection e6 with _ _ e6
    subst e6
    exact ⟨h6, h7⟩
  have hr3 : RdI w3 w3.heap.size (some ⟨gC, 0, none⟩) ys := rdI_of_own ho3.out HL.out
  have hgC3 : gC < w3.heap.size := (ho3.out.lt gC rfl).2
  obtain ⟨gb, Hgb⟩ : ∃ gb, Hid (w3.heap.size = gb) := ⟨_, rfl⟩
  have hpg : pb + 1 < gb := by rw [← Hgb.out]; exact row_lt Q3
  have hb4 : Below w3.heap.size w3 (w3.alloc (.cells (wtC (U : Int) (D : Int) A n c far A' m c') 59)) := (Below.refl _ _).alloc (Nat.le_refl _) _
  have s4 : (w3.alloc (.cells (wtC (U : Int) (D : Int) A n c far A' m c') 59)).heap.size = gb + 1 := by rw [size_alloc1, Hgb.out]
  have g4 : (w3.alloc (.cells (wtC (U : Int) (D : Int) A n c far A' m c') 59)).heap[gb]? = some (.cells (wtC (U : Int) (D : Int) A n c far A' m c') 59 (0, 0)) := by rw [← Hgb.out]; exact heap_alloc_new _ _
  obtain ⟨w4, Hw4⟩ : ∃ w4, Hid (w3.alloc (.cells (wtC (U : Int) (D : Int) A n c far A' m c') 59) = w4) := ⟨_, rfl⟩
  rw [Hw4.out] at hb4 s4 g4
  have hr4 : RdI w4 w4.heap.size (some ⟨gC, 0, none⟩) ys := (hr3.below hb4).more hb4.size
  have HLs := Lib.hid (lists_any k (by omega) gC 0 L c2 ys w4 hr4 HL.out hy1 (by omega) hL2 hL3)
  have P4 : Hid (w4.heap[pb]? = some (.cells (wtC (U : Int) (D : Int) A n c far A' m c') 59 (0, 0))) := (hb4.block _ (row_lt P3)).trans P3
  have Q4 : Hid (w4.heap[pb + 1]? = some (.cells (wtC 0 0 none 0 0 0 none 0 0) 59 (0, 0))) := (hb4.block _ (row_lt Q3)).trans Q3
  have HB4 : Hid (Below w.heap.size w w4) := hb3.trans (hb4.mono hb3.size)
  have G4 := Lib.hid g4
  have S4 := Lib.hid s4
  obtain ⟨a0, a1, a2, a3, a4⟩ := wtC_cells P3
  unfold wtC at Hw4
  clear ho3 hg3 hb3 hb4 s4 g4 hr4 hr3 P3 Q3 P2 Q2 HB2 HB1 P1 Q1 S1' HCo HCl hgC3 hgC
  go_wp2_with fail
  rw [Hgb.out, Hw4.out]
  refine HLs.out.mono ?_
  rintro e w6 ⟨gR, cR, VRR, rfl, hT6, hb6⟩
  obtain ⟨N, HN⟩ : ∃ N, Hid ((loL k ys).length = N) := ⟨_, rfl⟩
  rw [HN.out] at hT6 ⊢
  have hN : N ≤ 1000 := by rw [← HN.out]; exact loL_le (by omega) (by rw [HL.out]; omega)
  have hN1 : 1 ≤ N := by rw [← HN.out]; exact loL_pos k (by rw [HL.out]; exact hy1)
  have HT6 := Lib.hid hT6.out
  have P6 : Hid (w6.heap[pb]? = some (.cells (wtC (U : Int) (D : Int) A n c far A' m c') 59 (0, 0))) := (hb6.out.block _ (row_lt P4.out)).trans P4.out
  have Q6 : Hid (w6.heap[pb + 1]? = some (.cells (wtC 0 0 none 0 0 0 none 0 0) 59 (0, 0))) := (hb6.out.block _ (row_lt Q4.out)).trans Q4.out
  have G6 : Hid (w6.heap[gb]? = some (.cells (wtC (U : Int) (D : Int) A n c far A' m c') 59 (0, 0))) := (hb6.out.block _ (row_lt G4.out)).trans G4.out
  have HB6 : Hid (Below w.heap.size w w6) := HB4.out.trans (hb6.out.mono HB4.out.size)
  have HS0 : Hid (BwS w6 w6 gb m k n c 0 (U : Int) (D : Int) far A (rcB (nrF far) U D zs) (tryL zs ss k) (-1)) := ⟨grown_refl _ _, A', m, c', G6.out, .inl ⟨rfl, rfl⟩⟩
  have HTl : Hid ((tryL zs ss k).length = N) := by show _ = _; rw [tryL_length, Hys.out, HN.out]
  have HTa : Hid (∀ j, j < N → (tryL zs ss k).getD j [] = srt (ss ++ (loL k ys).getD j [])) := fun j hj => by rw [tryL_at (by rw [Hys.out, HN.out]; exact hj), Hys.out]
  have HTo : Hid (∀ l, l ∈ tryL zs ss k → vh l = true ∧ l.length = m + k ∧ ascB l ∧ ∀ u ∈ l, u ∈ zs) := fun l hl => by
    have := tryL_ok HZ.out HS.out (by rw [Hm.out]; exact hmk) hl
    rw [Hm.out] at this; exact this
  clear hT6 hb6 P4 Q4 HB4 G4 HLs a0 a1 a2 a3 a4
  go_wp2
  go_loopw [7, 21] (fun a b wr => BwRel w6 gb m k n c N (U : Int) (D : Int) far A (rcB (nrF far) U D zs) (tryL zs ss k) a b wr) (fun _ b _ => N - (intOf b).toNat)
  case atStart => exact ⟨0, -1, Nat.zero_le _, rfl, rfl, HS0⟩
  case round =>
    clear HS0
    obtain ⟨j, mo, hj, rfl, rfl, HR⟩ := hrel
    have hGb : pb + 1 < gb ∧ gb < w6.heap.size := ⟨hpg, row_lt G6.out⟩
    have HBr : Hid (Below w.heap.size w wr) := HB6.out.grown HR.out.grown HB6.out.size (fun i hi => by injection hi with hi; rw [← hi, Hpb.out]; omega)
    have HPr : Hid (wr.heap[pb]? = some (.cells (wtC (U : Int) (D : Int) A n c far A' m c') 59 (0, 0))) := (HR.out.grown.block _ (row_lt P6.out) (by intro e; injection e with e; omega)).trans P6.out
    have HQr : Hid (wr.heap[pb + 1]? = some (.cells (wtC 0 0 none 0 0 0 none 0 0) 59 (0, 0))) := (HR.out.grown.block _ (row_lt Q6.out) (by intro e; injection e with e; omega)).trans Q6.out
    by_cases hlt : j < N
    · have HTr := Lib.hid (HT6.out.kept HR.out.grown (by rw [S4.out]; exact Nat.lt_succ_self _))
      obtain ⟨A1, n1, c1, hc1, hp1, hl1⟩ := HTr.out.rowAt hlt
      have hn1 : n1 = k := by rw [← hl1]; exact (loL_row (by rw [HN.out]; exact hlt)).1
      rw [hn1] at hc1 hp1 hl1
      clear hn1
      obtain ⟨rs, Hrs⟩ : ∃ rs, Hid ((loL k ys).getD j [] = rs) := ⟨_, rfl⟩
      rw [Hrs.out] at hp1 hl1
      have HW := Lib.hid (with_any (U : Int) (D : Int) far A A' A1 n c m c' k c1 ss rs wr (HQ.out.later HBr.out) hp1 (by omega))
      obtain ⟨tl, Htl⟩ : ∃ tl, Hid (srt (ss ++ rs) = tl) := ⟨_, rfl⟩
      have Hta : Hid ((tryL zs ss k).getD j [] = tl) := by show _ = _; rw [HTa.out j hlt, Hrs.out, Htl.out]
      obtain ⟨t1, t2, t3, t4⟩ := HTo.out tl (by rw [← Hta.out]; simp [List.getD, HTl.out, hlt])
      rw [Htl.out] at HW
      unfold WtA at HW
      rw [t2] at HW
      obtain ⟨M, HM⟩ : ∃ M, Hid (m + k = M) := ⟨_, rfl⟩
      rw [HM.out] at HW t2
      have T1 := Lib.hid t1
      have T2 := Lib.hid t2
      obtain ⟨a0, a1, a2, a3, a4⟩ := wtC_cells HPr.out
      unfold wtC at HW
      have hg1 := HTr.out.g_lt
      clear t1 t2 t3 t4 hp1 hl1
      go_wp2_with fail
      refine HW.out.mono ?_
      rintro e w7 ⟨A2, c2', rfl, ho7, hb7⟩
      clear hc1 a0 a1 a2 a3 a4 HW
      have hb8 : Below w7.heap.size w7 (w7.alloc (.cells (wtC (U : Int) (D : Int) A n c far A2 M c2') 59)) := (Below.refl _ _).alloc (Nat.le_refl _) _
      have g8 : (w7.alloc (.cells (wtC (U : Int) (D : Int) A n c far A2 M c2') 59)).heap[w7.heap.size]? = some (.cells (wtC (U : Int) (D : Int) A n c far A2 M c2') 59 (0, 0)) := heap_alloc_new _ _
      obtain ⟨w8, Hw8⟩ : ∃ w8, Hid (w7.alloc (.cells (wtC (U : Int) (D : Int) A n c far A2 M c2') 59) = w8) := ⟨_, rfl⟩
      rw [Hw8.out] at hb8 g8
      obtain ⟨p10, Hp10⟩ : ∃ p10, Hid (w7.heap.size = p10) := ⟨_, rfl⟩
      rw [Hp10.out] at g8
      have hb78 : Below wr.heap.size wr w8 := hb7.out.trans (hb8.mono hb7.out.size)
      have ho8 : w8.ownsRow wr.heap.size 3 1 (.slice A2 M c2') M (tl.map (Value.int .i64)) := ownN_below ho7.out hb8
      have hp8 : PIn w8 A2 c2' M tl := by
        obtain ⟨A6, c6, e6, h6, h7, h8⟩ := own_slice ho8 T2.out
        injection e6 with e6 _ e7
        subst e6 e7
        exact ⟨h8, T2.out, ⟨h6, h7⟩, by have := HM.out; omega⟩
      have hbw8 : Below w.heap.size w w8 := HBr.out.trans (hb78.mono HBr.out.size)
      have HRe := Lib.hid (reached_any U D M n c c2' far A A2 zs tl w8 (HP.out.later hbw8) hp8 (vbB_of HZ.out T1.out (by rw [T2.out]; have := HM.out; omega) (vfar_yes f0 f50)) hU hD)
      obtain ⟨v, Hv⟩ : ∃ v, Hid (rcB (nrF far) U D zs tl = v) := ⟨_, rfl⟩
      rw [Hv.out] at HRe
      have HB78 := Lib.hid hb78
      have HO8 := Lib.hid ho8
      have G8 := Lib.hid g8
      unfold wtC at Hw8 HRe
      obtain ⟨r0, r1, r2, r3, r4⟩ := wtC_cells g8
      clear ho7 hb7 hb8 g8 hb78 ho8 hp8 hbw8
      go_wp2_with fail
      rw [Hw8.out, Hp10.out]
      refine HRe.out.mono ?_
      rintro e w9 ⟨rfl, hb9⟩
      have B9 : Below wr.heap.size wr w9 := HB78.out.trans (hb9.mono HB78.out.size)
      have o9 : w9.ownsRow w6.heap.size 3 1 (.slice A2 M c2') M (tl.map (Value.int .i64)) := own_lowQ (ownN_below HO8.out hb9) HR.out.grown.size
      have o9b : ∀ g, (Value.slice A2 M c2').ownBlock = some g → gb ≠ g := fun g e => by
        have := (own_heap HO8.out e).2.1
        have := HR.out.grown.size
        omega
      have g9 : w9.heap[p10]? = some (.cells (wtC (U : Int) (D : Int) A n c far A2 M c2') 59 (0, 0)) := (hb9.block _ (row_lt G8.out)).trans G8.out
      have gr9 : w6.grownBy w9 (some gb) := grown_trans HR.out.grown (below_grown B9 _)
      obtain ⟨A5, m5, c5, hbest, hor⟩ := HR.out.best
      have hb9' : w9.heap[gb]? = some (.cells (wtC (U : Int) (D : Int) A n c far A5 m5 c5) 59 (0, 0)) := (B9.block _ (row_lt hbest)).trans hbest
      by_cases hgt : mo < (v : Int)
      · have hT : bsP (rcB (nrF far) U D zs) (tryL zs ss k) (j + 1) = tl := by
          rcases hor with ⟨rfl, -⟩ | ⟨h1, -, h3, -⟩
          · rw [bsP_one _ (by rw [HTl.out]; exact hN1), Hta.out]
          · rw [bsP_succ _ h1 (by rw [HTl.out]; exact hlt), Hta.out, Hv.out, if_pos (by omega)]
        have HS10 : Hid (BwS w6 (wtSet w9 gb (U : Int) (D : Int) far A n c A2 M c2') gb m k n c (j + 1) (U : Int) (D : Int) far A (rcB (nrF far) U D zs) (tryL zs ss k) (v : Int)) := by
          refine ⟨grown_trans gr9 (wtSet_grown _ _ _ _ _ _ _ _ _ _ _), A2, M, c2', wtSet_row hb9', .inr ⟨by omega, HM.out.symm, by rw [hT, Hv.out], ?_⟩⟩
          rw [hT, HM.out]
          exact World.ownsRow.kept o9 (wtSet_grown _ _ _ _ _ _ _ _ _ _ _) (.inr fun e => o9b _ e rfl)
        obtain ⟨x0, x1, x2, x3, x4⟩ := wtC_cells g9
        obtain ⟨y0, y1, y2, y3, y4⟩ := wtC_cells hb9'
        have z0 := frozen_of_row _ gb 0 _ _ hb9'
        have z1 := frozen_of_row _ gb 1 _ _ hb9'
        have z2 := frozen_of_row _ gb 2 _ _ hb9'
        have z3 := frozen_of_row _ gb 3 _ _ hb9'
        have z4 := frozen_of_row _ gb 4 _ _ hb9'
        clear HR B9 o9 o9b g9 gr9 hbest hor hb9' hT hb9 HTr HBr HPr HQr
        go_wp2
        go_roundw
        case rel => exact ⟨j + 1, (v : Int), by omega, rfl, by go_num, HS10⟩
        case measure => simp [intOf]; omega
      · have HS10 : Hid (BwS w6 w9 gb m k n c (j + 1) (U : Int) (D : Int) far A (rcB (nrF far) U D zs) (tryL zs ss k) mo) := by
          rcases hor with ⟨rfl, rfl⟩ | ⟨h1, h2, h3, h4⟩
          · omega
          · have hT : bsP (rcB (nrF far) U D zs) (tryL zs ss k) (j + 1) = bsP (rcB (nrF far) U D zs) (tryL zs ss k) j := by
              rw [bsP_succ _ h1 (by rw [HTl.out]; exact hlt), Hta.out, Hv.out, if_neg (by omega)]
            refine ⟨gr9, A5, m5, c5, hb9', .inr ⟨by omega, h2, by rw [hT]; exact h3, ?_⟩⟩
            rw [hT]
            exact ownN_below h4 B9
        clear HR B9 o9 o9b g9 gr9 hbest hor hb9' hb9 HTr HBr HPr HQr
        go_wp2
        go_roundw
        case rel => exact ⟨j + 1, mo, by omega, rfl, by go_num, HS10⟩
        case measure => simp [intOf]; omega
    · obtain rfl : j = N := by omega
      obtain ⟨A5, m5, c5, hbest, hor⟩ := HR.out.best
      obtain ⟨h1, h2, h3, h4⟩ : 1 ≤ j ∧ m5 = m + k ∧ mo = ((rcB (nrF far) U D zs (bsP (rcB (nrF far) U D zs) (tryL zs ss k) j) : Nat) : Int) ∧ wr.ownsRow w6.heap.size 3 1 (.slice A5 (m + k) c5) (m + k) ((bsP (rcB (nrF far) U D zs) (tryL zs ss k) j).map (Value.int .i64)) := by
        rcases hor with ⟨rfl, -⟩ | h
        · omega
        · exact h
      subst h2
      have hT : bsP (rcB (nrF far) U D zs) (tryL zs ss k) j = bwL (rcB (nrF far) U D zs) zs ss k := by
        have := bsP_all (rcB (nrF far) U D zs) (tryL zs ss k)
        rw [HTl.out] at this
        exact this
      rw [hT] at h4
      have hl : (bwL (rcB (nrF far) U D zs) zs ss k).length = m + k := by
        rw [← hT]
        exact (HTo.out _ (bsP_mem _ (by rw [HTl.out]; exact hN1))).2.1
      obtain ⟨x0, x1, x2, x3, x4⟩ := wtC_cells hbest
      obtain ⟨y0, y1, y2, y3, y4⟩ := wtC_cells HQr.out
      have z0 := frozen_of_row _ (pb + 1) 0 _ _ HQr.out
      have z1 := frozen_of_row _ (pb + 1) 1 _ _ HQr.out
      have z2 := frozen_of_row _ (pb + 1) 2 _ _ HQr.out
      have z3 := frozen_of_row _ (pb + 1) 3 _ _ HQr.out
      have z4 := frozen_of_row _ (pb + 1) 4 _ _ HQr.out
      have p7 := wtSet_row (u := (U : Int)) (d := (D : Int)) (far := far) (A := A) (n := n) (c := c) (A' := A5) (m := m + k) (c' := c5) HQr.out
      have g7 := wtSet_grown wr (pb + 1) (U : Int) (D : Int) far A n c A5 (m + k) c5
      have hE : WtA (U : Int) (D : Int) A n c far (bwL (rcB (nrF far) U D zs) zs ss k) w (.returned (.agg (wtC (U : Int) (D : Int) A n c far A5 (m + k) c5))) (wtSet wr (pb + 1) (U : Int) (D : Int) far A n c A5 (m + k) c5) := by
        refine ⟨A5, c5, by rw [hl], ?_, ?_⟩
        · rw [hl]
          refine own_lowQ (World.ownsRow.kept h4 g7 (.inr fun e => ?_)) HB6.out.size
          have := (own_heap h4 e).2.1
          omega
        · exact HBr.out.grown g7 HBr.out.size (fun i hi => by injection hi with hi; rw [← hi, Hpb.out]; omega)
      have HE := Lib.hid hE
      have P7 := Lib.hid p7
      clear hE p7 g7 h4 hT hl hbest hor HR
      go_wp2
      obtain ⟨v0, v1, v2, v3, v4⟩ := wtC_cells P7.out
      show bodyPost _ _ _ _ _ (wtSet wr (pb + 1) (U : Int) (D : Int) far A n c A5 (m + k) c5)
      generalize wtSet wr (pb + 1) (U : Int) (D : Int) far A n c A5 (m + k) c5 = wz at v0 v1 v2 v3 v4 HE
      exact bodyPost_ret (v := .agg (wtC (U : Int) (D : Int) A n c far A5 (m + k) c5)) (by simp [results, Try.results55, go_sem, v0, v1, v2, v3, v4, wtC]) rfl HE.out
end Go.Proofs.Ythphboeboiallab
