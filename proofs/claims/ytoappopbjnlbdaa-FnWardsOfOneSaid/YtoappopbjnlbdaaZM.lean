/-
  withOneDistrict: the best districts when there is one more of them, walked.
  Conditions: at most ten streets.
-/
import Derived.Test.YtoappopbjnlbdaaZL
import Derived.WalkSpells
namespace Go.Proofs.Ytoappopbjnlbdaa
open Go.ChangeShapes Go.WideShapes Go.ChangeAt Go.RowKit Go.Shelf
set_option linter.unusedVariables false
set_option maxRecDepth 100000
attribute [local go_sem] Oper.semAt_some

theorem rdI_takeZ {w : World} {B : Nat} {A : Option Addr} {zs : List Int} (h : RdI w B A zs) (k : Nat) : RdI w B A (zs.take k) := fun hp => by
  have hl : (zs.take k).length ≤ zs.length := by rw [List.length_take]; omega
  obtain ⟨b, off, e, hb, hc⟩ := h (by omega)
  refine ⟨b, off, e, hb, fun i hi => ?_⟩
  rw [List.length_take] at hi
  rw [hc i (by omega)]
  simp [List.getD, show i < k by omega]
/-- What is asked of a function that says which districts are better. -/
def BetterZ (f : List Int → Int) (bf : Nat) : Prop :=
  (∀ args w, (callFunc bf args).run Try.prog w = .ok (.enter bf args) w) ∧
  ∀ (d1 d2 : List Int) (n : Nat) (A1 A2 : Option Addr) (c1 c2 : Nat) (W : World), d1.length = n → d2.length = n → 1 ≤ n → n ≤ 10 → (∀ x, x ∈ d1 → 0 ≤ x ∧ x ≤ 200) → (∀ x, x ∈ d2 → 0 ≤ x ∧ x ≤ 200) →
    RdI W W.heap.size A1 d1 → RdI W W.heap.size A2 d2 → Calls Try.prog bf #[.slice A1 n c1, .slice A2 n c2] W fun e w' => e = .returned (.bool (decide (f d1 < f d2))) ∧ W = w'
/-- Rows in memory: the best districts of the first streets, j of them. -/
structure RowsZ (W : World) (g n j : Nat) (f : List Int → Int) (zs : List Int) (O : Nat → Option (List Int)) (vs : Array Value) : Prop where
  blk : W.heap[g]? = some (.cells vs 23 (0, 0))
  size : vs.size = n + 1
  cell : ∀ i, i ≤ n → ∃ v, vs[i]? = some v ∧ CellZ (fun _ => True) W v (O i)
  opt : ∀ i, i ≤ n → OptO f zs j i (O i)

theorem eql_nilZ (W : World) : (binOp .eql 23 (.slice none 0 0) (.slice none 0 0)).run Try.prog W = .ok (.bool true) W := Lib.run_eql_slice_nil W _ _ _ _ _ _ _ Try.underlying23
theorem eql_someZ (W : World) (x : Addr) (n c : Nat) : (binOp .eql 23 (.slice (some x) n c) (.slice none 0 0)).run Try.prog W = .ok (.bool false) W := Lib.run_eql_slice_nil W _ _ _ _ _ _ _ Try.underlying23
theorem rowInfoZ : (Try.prog.info? 23).map (fun i => (i.zero, i.size, i.bytes)) = some (some (.slice none 0 0), 1, 24) := by kernel_rfl
/-- make([][]int, m) in a fence. -/
theorem makeRowsZ {n : Nat} (w : World) {ops : Array Oper} {rest : List Oper} {o : Oper} {a : Act} {Q : Exit → Act → World → Prop} (hg : o.guard = none) (l c : Operand) (hop : o.op = Op.makeSlice 52 l c)
    (L C : Int) (m : Nat) (hl : a.eval l = .int .i64 L) (hc : a.eval c = .int .i64 C) (hL : L = (m : Int)) (hC : C = (m : Int)) (hm : m ≤ 1000)
    (hK : ∀ w', w'.ownsRow w.heap.size 23 1 (.slice (some ⟨w.heap.size, 0, none⟩) m m) m (List.replicate m (.slice none 0 0)) → w.grownBy w' none → wpListIn Fence.wide n Try.prog ops Q rest (a.put o.dst (.slice (some ⟨w.heap.size, 0, none⟩) m m)) w') :
    wpListIn Fence.wide n Try.prog ops Q (o :: rest) a w := by
  obtain ⟨i0, hi0, hz0, hz1, hz2⟩ := info_parts rowInfoZ
  refine wpListIn_plain hg fun K hK' => ?_
  obtain ⟨w', hrun, r1, r2⟩ := run_make_full (P := Try.prog) w w.heap.size 52 23 i0 _ 1 Try.underlying52 hi0 hz0 hz1 .i64 .i64 m (by rw [hz2]; omega) (by unfold maxLen; omega) (Nat.le_refl _)
  subst hL hC
  unfold Oper.wpIn
  refine ⟨?_, ?_⟩
  · simp [Oper.about, hop]
  · rw [Oper.semAt_plain Fence.wide _ _ (by rw [hop]; intro c hc'; cases hc')]
    simp only [execOp, hop, hl, hc]
    have e : (madeCells (Value.slice none 0 0).cells (m * 1)).toList = List.replicate m (.slice none 0 0) := by
      rw [show (Value.slice none 0 0).cells = #[Value.slice none 0 0] from rfl, Nat.mul_one, toList_madeCells_one]
    rw [e] at r1
    simp [hrun, Result.andThen]
    exact hK' _ _ (hK w' r1 r2)
theorem rows_blockZ {w w2 : World} {m : Nat} (h : w2.ownsRow w.heap.size 23 1 (.slice (some ⟨w.heap.size, 0, none⟩) m m) m (List.replicate m (.slice none 0 0))) :
    w2.heap[w.heap.size]? = some (.cells (List.replicate m (Value.slice none 0 0)).toArray 23 (0, 0)) := by
  rcases h.2 with ⟨e, _⟩ | ⟨g, cap, cur, e, _, hb, _, _, hs, ht⟩
  · cases e
  · injection e with e1 _ e3
    injection e1 with e1
    injection e1 with e1
    subst e1 e3
    rw [List.take_of_length_le (by rw [Array.length_toList, hs]; omega)] at ht
    rw [hb, ← ht]

/-- What holds between two rounds of the outer loop: the rows of the first e ends are found. -/
structure OutZ (w : World) (f : List Int → Int) (zs : List Int) (n j gb e : Nat) (Ds : List Nat) (vb : Array Value) (wr : World) : Prop where
  bel : Below w.heap.size w wr
  blk : wr.heap[gb]? = some (.cells vb 23 (0, 0))
  size : vb.size = n + 1
  cell : ∀ i, i < e → i ≤ n → ∃ v o, vb[i]? = some v ∧ CellZ (fun _ => True) wr v o ∧ OptO f zs (j + 1) i o
  rest : ∀ i, e ≤ i → i ≤ n → vb[i]? = some (.slice none 0 0)
  marks : ∀ r, r ∈ Ds → wr.heap[r]? = some (.deferred (some [])) ∧ w.heap.size ≤ r
  nd : Ds.Nodup
/-- What holds between two rounds of the inner loop: the last districts from street a on have been looked at. -/
structure InZ (w : World) (f : List Int → Int) (zs : List Int) (j gb e a : Nat) (vb : Array Value) (w0 V : World) (v : Value) (o : Option (List Int)) : Prop where
  bel : Below w.heap.size w V
  blk : V.heap[gb]? = some (.cells (vb.setIfInBounds e v) 23 (0, 0))
  cell : CellZ (fun g => (g < w0.heap.size ∨ w0.heap.size + 7 ≤ g) ∧ g ≠ gb) V v o
  sc : Sc f zs j e a o
  old : ∀ k, k < w0.heap.size → k ≠ gb → V.heap[k]? = w0.heap[k]?
  size : w0.heap.size ≤ V.heap.size
theorem InZ.but {w : World} {f : List Int → Int} {zs : List Int} {j gb e a : Nat} {vb : Array Value} {w0 V V' : World} {v : Value} {o : Option (List Int)} (h : InZ w f zs j gb e a vb w0 V v o) (hb : But w0.heap.size (w0.heap.size + 2 + 5) V V') (hg : gb < w0.heap.size) (hw : w.heap.size ≤ w0.heap.size) : InZ w f zs j gb e a vb w0 V' v o :=
  ⟨h.bel.trans (hb.below hw (by have := h.size; omega)), (hb.keep gb (by have := h.size; omega) (.inl hg)).trans h.blk,
    h.cell.keep (fun _ h => h) (fun g hg' hl => hb.keep g hl (by omega)), h.sc, fun k hk hne => (hb.keep k (by have := h.size; omega) (.inl hk)).trans (h.old k hk hne), Nat.le_trans h.size hb.size⟩
theorem InZ.skip {w : World} {f : List Int → Int} {zs : List Int} {j gb e a : Nat} {vb : Array Value} {w0 V : World} {v : Value} {o : Option (List Int)} (h : InZ w f zs j gb e (a + 1) vb w0 V v o) (hn : NoCut zs j a) : InZ w f zs j gb e a vb w0 V v o :=
  ⟨h.bel, h.blk, h.cell, sc_skip h.sc hn, h.old, h.size⟩
theorem cut_bdZ {zs d : List Int} {i : Nat} (hw : Wd zs) (h : CutOf (zs.take i) d) : ∀ x, x ∈ d → 0 ≤ x ∧ x ≤ 200 := by
  have h0 : Ge0 (zs.take i) := hw.ge0.sub fun x hx => List.mem_of_mem_take hx
  have h1 := cut_ge0 h h0
  intro x hx
  refine ⟨h1 x hx, ?_⟩
  have h2 := sm_mem h1 x hx
  rw [cut_sum h] at h2
  have h3 : sm zs = sm (zs.take i) + sm (zs.drop i) := by rw [← sm_app, List.take_append_drop]
  have h4 : 0 ≤ sm (zs.drop i) := sm_ge0 (hw.ge0.sub fun x hx => List.mem_of_mem_drop hx)
  have := hw.sm
  omega

theorem set_selfZ {vs : Array Value} {e : Nat} {v : Value} (h : vs[e]? = some v) : vs.setIfInBounds e v = vs := by
  apply Array.ext_getElem?
  intro i
  rw [Array.getElem?_setIfInBounds]
  by_cases hi : e = i
  · subst hi
    rw [if_pos rfl, if_pos (Array.getElem?_eq_some_iff.1 h).1, h]
  · rw [if_neg hi]
theorem pickZ {P : Nat → Value → Option (List Int) → Prop} {n : Nat} (h : ∀ i, i ≤ n → ∃ v o, P i v o) : ∃ O : Nat → Option (List Int), ∀ i, i ≤ n → ∃ v, P i v (O i) := by
  have h' : ∀ i, ∃ o, i ≤ n → ∃ v, P i v o := fun i => by
    by_cases hi : i ≤ n
    · obtain ⟨v, o, hp⟩ := h i hi; exact ⟨o, fun _ => ⟨v, hp⟩⟩
    · exact ⟨none, fun hh => absurd hh hi⟩
  exact Classical.axiomOfChoice h'
theorem CellZ.save {P : Nat → Prop} {Ds : List Nat} {A B : World} {v : Value} {o : Option (List Int)} (h : CellZ P A v o) (hs : SaveZ Ds A B) (hm : ∀ r, r ∈ Ds → A.heap[r]? = some (.deferred (some []))) : CellZ P B v o := by
  cases o with
  | none => exact h
  | some d =>
    obtain ⟨g, c, h1, h2, cs, h3, h4⟩ := h
    refine ⟨g, c, h1, h2, cs, (hs.keep g fun hg => ?_).trans h3, h4⟩
    have := hm g hg
    rw [h3] at this; cases this
/-- What the outer loop has found when it ends. -/
theorem out_endZ {w : World} {f : List Int → Int} {zs : List Int} {n j gb : Nat} {Ds : List Nat} {vb : Array Value} {wr w' : World} (hO : OutZ w f zs n j gb (n + 1) Ds vb wr) (hs : SaveZ Ds wr w') :
    ∃ O', RowsZ w' gb n (j + 1) f zs O' vb ∧ Below w.heap.size w w' := by
  obtain ⟨O', hO'⟩ := pickZ fun i (hi : i ≤ n) => hO.cell i (by omega) hi
  have hm := fun r hr => (hO.marks r hr).1
  refine ⟨O', ⟨(hs.keep gb fun hg => ?_).trans hO.blk, hO.size, fun i hi => ?_, fun i hi => ?_⟩, hO.bel.trans ⟨hs.os, hs.tape, hs.output, by rw [hs.size]; exact Nat.le_refl _, fun k hk => hs.keep k fun hr => ?_⟩⟩
  · have := hm gb hg
    rw [hO.blk] at this; cases this
  · obtain ⟨v, h1, h2, _⟩ := hO' i hi
    exact ⟨v, h1, h2.save hs hm⟩
  · obtain ⟨v, _, _, h3⟩ := hO' i hi
    exact h3
  · have := (hO.marks k hr).2
    omega

theorem InZ.store {w : World} {f : List Int → Int} {zs : List Int} {j gb e a : Nat} {vb : Array Value} {w0 V w4 : World} {v : Value} {o : Option (List Int)} {nd : List Int} (h : InZ w f zs j gb e (a + 1) vb w0 V v o) (hb : Below V.heap.size V w4) (hV : w0.heap.size + 7 ≤ V.heap.size)
    (hrow : RowZ w4 V.heap.size nd) (hl : nd.length = j + 1) (hsc : Sc f zs j e a (some nd)) (hg : gb < w0.heap.size) (hw : w.heap.size ≤ gb) (q : Nat) :
    InZ w f zs j gb e a vb w0 ((w4.drewN q).setCell ⟨gb, e, none⟩ (.slice (some ⟨V.heap.size, 0, none⟩) (j + 1) (j + 1))) (.slice (some ⟨V.heap.size, 0, none⟩) (j + 1) (j + 1)) (some nd) := by
  have hgV : gb < V.heap.size := by omega
  have hwV : w.heap.size ≤ V.heap.size := h.bel.size
  refine ⟨h.bel.trans ((below_drewN (hb.mono hwV) q).setCell hw _), ?_, ?_, hsc, fun k hk hne => ?_, ?_⟩
  · have h1 : (w4.drewN q).heap[gb]? = some (.cells (vb.setIfInBounds e v) 23 (0, 0)) := (hb.block gb hgV).trans h.blk
    have h2 := heap_setCell_same (w4.drewN q) gb e _ _ (.slice (some ⟨V.heap.size, 0, none⟩) (j + 1) (j + 1)) h1
    rwa [Array.setIfInBounds_setIfInBounds] at h2
  · refine ⟨V.heap.size, j + 1, by rw [hl], ⟨.inr hV, by omega⟩, RowZ.keep (W := w4) hrow fun _ => ?_⟩
    exact heap_setCell_other (w4.drewN q) _ _ _ (by show V.heap.size ≠ gb; omega)
  · exact (heap_setCell_other (w4.drewN q) _ _ _ (by show k ≠ gb; exact hne)).trans ((hb.block k (by omega)).trans (h.old k hk hne))
  · have := hb.size
    simp [World.setCell]
    show _ ≤ w4.heap.size
    omega
theorem InZ.stay {w : World} {f : List Int → Int} {zs : List Int} {j gb e a : Nat} {vb : Array Value} {w0 V w4 : World} {v : Value} {o : Option (List Int)} (h : InZ w f zs j gb e (a + 1) vb w0 V v o) (hb : Below V.heap.size V w4)
    (hsc : Sc f zs j e a o) (hg : gb < w0.heap.size) (q : Nat) : InZ w f zs j gb e a vb w0 (w4.drewN q) v o := by
  have hwV : w.heap.size ≤ V.heap.size := h.bel.size
  have hsV := h.size
  exact ⟨h.bel.trans (below_drewN (hb.mono hwV) q), (hb.block gb (by omega)).trans h.blk, h.cell.keep (fun _ h => h) (fun g _ hl => hb.block g hl), hsc, fun k hk hne => (hb.block k (by omega)).trans (h.old k hk hne), Nat.le_trans h.size hb.size⟩
theorem kz_store {n B gb e : Nat} {V w4 : World} (hb : Below V.heap.size V w4) (h1 : n ≤ gb) (h2 : gb < B) (hn : n ≤ V.heap.size) (q : Nat) (u : Value) : Kz n B V ((w4.drewN q).setCell ⟨gb, e, none⟩ u) :=
  ⟨(below_drewN (hb.mono hn) q).setCell h1 _, fun k hk hl => (heap_setCell_other (w4.drewN q) _ _ _ (by show k ≠ gb; omega)).trans (hb.block k hl)⟩
theorem kz_stay {n B : Nat} {V w4 : World} (hb : Below V.heap.size V w4) (hn : n ≤ V.heap.size) (q : Nat) : Kz n B V (w4.drewN q) := ⟨below_drewN (hb.mono hn) q, fun k hk hl => hb.block k hl⟩

theorem OutZ.next {w : World} {f : List Int → Int} {zs : List Int} {n j gb e : Nat} {Ds : List Nat} {vb : Array Value} {wr w0 V : World} {v : Value} {o : Option (List Int)} (h : OutZ w f zs n j gb e Ds vb wr) (hI : InZ w f zs j gb e 0 vb w0 V v o) (he : e ≤ n) (hn : n ≤ zs.length)
    (hgb : gb < wr.heap.size) (h0 : wr.heap.size ≤ w0.heap.size) (hk0 : ∀ k, k < wr.heap.size → w0.heap[k]? = wr.heap[k]?) (hd : V.heap[w0.heap.size]? = some (.deferred (some []))) (hw : w.heap.size ≤ wr.heap.size) : OutZ w f zs n j gb (e + 1) (w0.heap.size :: Ds) (vb.setIfInBounds e v) V := by
  have hkk : ∀ k, k < wr.heap.size → k ≠ gb → V.heap[k]? = wr.heap[k]? := fun k hk hne => (hI.old k (by omega) hne).trans (hk0 k hk)
  refine ⟨hI.bel, hI.blk, by simp [h.size], fun i h1 h2 => ?_, fun i h1 h2 => ?_, fun r hr => ?_, List.nodup_cons.2 ⟨fun hm => ?_, h.nd⟩⟩
  · by_cases hie : i = e
    · subst hie
      exact ⟨v, o, by rw [Array.getElem?_setIfInBounds, if_pos rfl, if_pos (by rw [h.size]; omega)], hI.cell.keep (fun _ _ => trivial) (fun _ _ _ => rfl), sc_end (by omega) hI.sc⟩
    · obtain ⟨v', o', g1, g2, g3⟩ := h.cell i (by omega) h2
      refine ⟨v', o', by rw [Array.getElem?_setIfInBounds, if_neg (by omega)]; exact g1, ?_, g3⟩
      cases o' with
      | none => exact g2
      | some d =>
        obtain ⟨g, c, e1, e2, cs, e3, e4⟩ := g2
        refine ⟨g, c, e1, e2, cs, (hkk g (Array.getElem?_eq_some_iff.1 e3).1 fun hg => ?_).trans e3, e4⟩
        have := h.blk
        rw [← hg, e3] at this
        simp at this
  · rw [Array.getElem?_setIfInBounds, if_neg (by omega)]
    exact h.rest i (by omega) h2
  · rcases List.mem_cons.1 hr with rfl | hr
    · exact ⟨hd, by omega⟩
    · obtain ⟨g1, g2⟩ := h.marks r hr
      refine ⟨(hkk r (Array.getElem?_eq_some_iff.1 g1).1 fun hg => ?_).trans g1, g2⟩
      have := h.blk
      rw [← hg, g1] at this
      cases this
  · have := (Array.getElem?_eq_some_iff.1 (h.marks _ hm).1).1
    omega

set_option maxHeartbeats 4000000 in
theorem withOne_in (f : List Int → Int) (hf : KeyOk f) (bf : Nat) (hbet : BetterZ f bf) (A : Option Addr) (c n ga ca j : Nat) (zs : List Int) (O : Nat → Option (List Int)) (va : Array Value) (w : World)
    (h : LIn w A c n zs) (hw : Wd zs) (hj : j ≤ n) (hR : RowsZ w ga n j f zs O va) (hca : n + 1 ≤ ca) :
    CallsIn Fence.wide 19 Try.prog 66 #[.slice A n c, .slice (some ⟨ga, 0, none⟩) (n + 1) ca, .func (.func bf) #[] #[]] w fun e w' =>
      ∃ gb cb O' vb, e = .returned (.slice (some ⟨gb, 0, none⟩) (n + 1) cb) ∧ n + 1 ≤ cb ∧ RowsZ w' gb n (j + 1) f zs O' vb ∧ Below w.heap.size w w' := by
  refine callsIn_of_wp_marks Try.func66 rfl trivial ?_ rfl
  simp only [Try.ntmps66, List.size_toArray, List.length_cons, List.length_nil, Nat.reduceAdd, Nat.reduceSub, Array.replicate_succ, Array.replicate_zero, List.push_toArray, List.append_toArray, List.nil_append, List.cons_append]
  have hn10 := hw.n10
  rw [h.len] at hn10
  gi_wp2_with (gi_at_make; refine makeRowsZ _ rfl _ _ rfl _ _ (n + 1) rfl rfl (by omega) (by omega) (by omega) ?_; intro w2 hown2 hg2)
  have bA := (Boxed.new w 52 (.slice (some ⟨ga, 0, none⟩) (n + 1) ca)).alloc (.cells #[.func (.func bf) #[] #[]] 34)
  have bB := Boxed.new (w.alloc (.cells #[.slice (some ⟨ga, 0, none⟩) (n + 1) ca] 52)) 34 (.func (.func bf) #[] #[])
  rw [World.size_alloc] at bB
  have bA2 := bA.kept hg2 (by simp)
  have bB2 := bB.kept hg2 (by simp)
  have hblk := rows_blockZ hown2
  have hs2 := hown2.lt _ rfl
  have hbel2 : Below w.heap.size w w2 := (((Below.refl _ w).alloc (Nat.le_refl _) _).alloc (by simp) _).grown hg2 (by simp; omega) (fun k e => by cases e)
  simp only [World.size_alloc] at hblk hs2
  have bA3 := bA2.alloc (.cells #[.slice (some ⟨w.heap.size + 1 + 1, 0, none⟩) (n + 1) (n + 1)] 52)
  have bB3 := bB2.alloc (.cells #[.slice (some ⟨w.heap.size + 1 + 1, 0, none⟩) (n + 1) (n + 1)] 52)
  have bT3 := Boxed.new w2 52 (.slice (some ⟨w.heap.size + 1 + 1, 0, none⟩) (n + 1) (n + 1))
  have hblk3 := (Below.heap_alloc w2 (.cells #[.slice (some ⟨w.heap.size + 1 + 1, 0, none⟩) (n + 1) (n + 1)] 52) _ hs2.2).trans hblk
  have hbel3 := hbel2.alloc hbel2.size (.cells #[.slice (some ⟨w.heap.size + 1 + 1, 0, none⟩) (n + 1) (n + 1)] 52)
  have hs3 : (w2.alloc (.cells #[.slice (some ⟨w.heap.size + 1 + 1, 0, none⟩) (n + 1) (n + 1)] 52)).heap.size = w2.heap.size + 1 := by simp
  clear hown2 hg2 bA bB bA2 bB2 hbel2 hblk
  generalize w2.alloc (.cells #[.slice (some ⟨w.heap.size + 1 + 1, 0, none⟩) (n + 1) (n + 1)] 52) = w3 at bA3 bB3 bT3 hblk3 hbel3 hs3 ⊢
  generalize w2.heap.size = bt at bT3 hs3 hs2 ⊢
  obtain ⟨b, off, x0, rfl, hbw, -, -⟩ := h.rd.x (k := 0) hw.n1
  refine wpIn_loop (fun a' wr => ∃ (e : Nat) (Ds : List Nat) (vb : Array Value) (u8 u18 u19 u20 u21 u22 u23 u55 : Value), e ≤ n + 1 ∧ OutZ w f zs n j (w.heap.size + 1 + 1) e Ds vb wr ∧
      Boxed wr w.heap.size 52 (.slice (some ⟨ga, 0, none⟩) (n + 1) ca) ∧ Boxed wr (w.heap.size + 1) 34 (.func (.func bf) #[] #[]) ∧ Boxed wr bt 52 (.slice (some ⟨w.heap.size + 1 + 1, 0, none⟩) (n + 1) (n + 1)) ∧
      a' = { tmps := #[.slice (some ⟨b, off, none⟩) n c, .slice (some ⟨ga, 0, none⟩) (n + 1) ca, .func (.func bf) #[] #[], undef, .pointer (some ⟨w.heap.size, 0, none⟩), .pointer (some ⟨w.heap.size + 1, 0, none⟩), .slice none 0 0, .pointer (some ⟨bt, 0, none⟩), u8, undef, undef, undef,
        .slice (some ⟨ga, 0, none⟩) (n + 1) ca, .int .i64 ((n : Int) + 1), .slice (some ⟨w.heap.size + 1 + 1, 0, none⟩) (n + 1) (n + 1), .slice (some ⟨w.heap.size + 1 + 1, 0, none⟩) (n + 1) (n + 1), .int .i64 ((n : Int) + 1), .int .i64 (e : Int), u18, u19, u20, u21, u22, u23,
        undef, undef, undef, undef, undef, undef, undef, undef, undef, undef, undef, undef, undef, undef, undef, undef, undef, undef, undef, undef, undef, undef, undef, undef, undef, undef, undef, undef, undef, undef, undef, u55, undef], defers := Ds.map markZ })
    (fun a' _ => n + 1 - (intOf (a'.tmps.getD 17 undef)).toNat) ?start ?round
  case start =>
    refine ⟨0, [], _, undef, undef, undef, undef, undef, undef, undef, undef, by omega, ⟨hbel3, hblk3, by simp, fun i h1 h2 => by omega, fun i h1 h2 => by simp [show i < n + 1 by omega], fun r hr => by simp at hr, List.nodup_nil⟩, bA3, bB3, bT3, rfl⟩
  case round =>
    rintro a' wr ⟨e, Ds, vb, u8, u18, u19, u20, u21, u22, u23, u55, he, hO, bA, bB, bT, rfl⟩
    clear bA3 bB3 bT3 hblk3 hbel3 hs3
    by_cases hlt : e ≤ n
    · have hec : e ≤ c := by have := h.cap.1; omega
      have hdec : decide ((e : Int) < (n : Int) + 1) = true := by rw [decide_eq_true_iff]; omega
      gi_wp2_with fail
      refine ⟨trivial, (callsIn_wide.2 (lastDistricts_any (some ⟨b, off, none⟩) e c _)).mono ?_⟩
      rintro e' w' ⟨rfl, rfl⟩
      gi_wp2
      have hbut : But 0 0 wr ((wr.alloc (.cells #[.int .i64 (e : Int)] 3)).alloc (.cells #[.slice (some ⟨b, off, none⟩) e c] 23)) := (But.alloc _ _ _ _).trans (But.alloc _ _ _ _)
      have bE := (Boxed.new wr 3 (.int .i64 (e : Int))).alloc (.cells #[.slice (some ⟨b, off, none⟩) e c] 23)
      have bL := Boxed.new (wr.alloc (.cells #[.int .i64 (e : Int)] 3)) 23 (.slice (some ⟨b, off, none⟩) e c)
      rw [World.size_alloc] at bL
      have hs0 : ((wr.alloc (.cells #[.int .i64 (e : Int)] 3)).alloc (.cells #[.slice (some ⟨b, off, none⟩) e c] 23)).heap.size = wr.heap.size + 2 := by simp
      generalize (wr.alloc (.cells #[.int .i64 (e : Int)] 3)).alloc (.cells #[.slice (some ⟨b, off, none⟩) e c] 23) = w0 at hbut bE bL hs0 ⊢
      have hbn : bt < wr.heap.size := bT.lt
      have hgbwr : w.heap.size + 1 + 1 < wr.heap.size := by omega
      have bA0 := hbut.box bA (.inr (Nat.zero_le _))
      have bB0 := hbut.box bB (.inr (Nat.zero_le _))
      have bT0 := hbut.box bT (.inr (Nat.zero_le _))
      have hblk0 := (hbut.keep (w.heap.size + 1 + 1) hgbwr (.inr (Nat.zero_le _))).trans hO.blk
      have hbel0 : Below w.heap.size w w0 := hO.bel.trans ⟨hbut.os, hbut.tape, hbut.output, hbut.size, fun k hk => hbut.keep k (by omega) (.inr (Nat.zero_le _))⟩
      have hr0 : RdI w0 w.heap.size (some ⟨b, off, none⟩) (zs.take e) := rdI_takeZ (h.rd.below hbel0) e
      have hlen := h.len
      have hlt0 : (zs.take e).length = e := by rw [List.length_take]; omega
      have hI0 : InZ w f zs j (w.heap.size + 1 + 1) e e vb w0 w0 (.slice none 0 0) none :=
        ⟨hbel0, by rw [set_selfZ (hO.rest e (Nat.le_refl _) hlt)]; exact hblk0, rfl, sc_start f zs j e, fun _ _ _ => rfl, Nat.le_refl _⟩
      refine rangeZ (gf := 71) (lb := #[.pointer (some ⟨wr.heap.size + 1, 0, none⟩)]) (N := e) (n₀ := w.heap.size) (B₀ := wr.heap.size + 1) (c := 5) (encs := distEnc (zs.take e) e) rfl (enters_of Try.func71 (by kernel_rfl) rfl) (by omega) (by omega)
        (lastD1_iter (wr.heap.size + 1) w.heap.size (wr.heap.size + 1) e c (some ⟨b, off, none⟩) (zs.take e) w0 hlt0 (by omega) (fun x hx => hw.ok x (List.mem_of_mem_take hx)) (Nat.le_refl _) (by omega) (by omega) bL.cell hr0) (fun _ => rfl)
        (fun j' V => ∃ v o, InZ w f zs j (w.heap.size + 1 + 1) e (e - j') vb w0 V v o)
        (fun j' X Y hX hXY => by obtain ⟨v, o, hI⟩ := hX; exact ⟨v, o, hI.but hXY (by omega) (by omega)⟩)
        ⟨_, _, hI0⟩
        (fun j' => { tmps := #[.slice (some ⟨b, off, none⟩) n c, .slice (some ⟨ga, 0, none⟩) (n + 1) ca, .func (.func bf) #[] #[], undef, .pointer (some ⟨w.heap.size, 0, none⟩), .pointer (some ⟨w.heap.size + 1, 0, none⟩), .slice none 0 0, .pointer (some ⟨bt, 0, none⟩), .pointer (some ⟨wr.heap.size, 0, none⟩),
          .int .i64 ((e : Int) - 1 - j'), .int .i64 (sm ((zs.take e).drop (e - 1 - j'))), undef,
          .slice (some ⟨ga, 0, none⟩) (n + 1) ca, .int .i64 ((n : Int) + 1), .slice (some ⟨w.heap.size + 1 + 1, 0, none⟩) (n + 1) (n + 1), .slice (some ⟨w.heap.size + 1 + 1, 0, none⟩) (n + 1) (n + 1), .int .i64 ((n : Int) + 1), .int .i64 (e : Int), .bool true, .int .i64 (e : Int), .slice (some ⟨b, off, none⟩) n c, .int .i64 (e : Int), .slice (some ⟨b, off, none⟩) e c,
          .func (.func 71) #[] #[.pointer (some ⟨wr.heap.size + 1, 0, none⟩)], .int .i64 ((e : Int) - 1 - j'), .int .i64 (sm ((zs.take e).drop (e - 1 - j'))),
          undef, undef, undef, undef, undef, undef, undef, undef, undef, undef, undef, undef, undef, undef, undef, undef, undef, undef, undef, undef, undef, undef, undef, undef, undef, undef, undef, undef, undef, u55, undef], defers := [] }) ?assign ?body ?done
      case assign =>
        intro l' m j' V K hK
        unfold distEnc
        gi_wp2
        exact hK
      case body =>
        rintro l' m j' V hj' ⟨v, o, hI⟩ hszV
        obtain ⟨s, Hs⟩ : ∃ s, Hid (e - 1 - j' = s) := ⟨_, rfl⟩
        have hse : s < e := by have := Hs.out; omega
        have hsz : (e : Int) - 1 - (j' : Int) = (s : Int) := by have := Hs.out; omega
        have e1 : e - j' = s + 1 := by have := Hs.out; omega
        have e2 : e - (j' + 1) = s := by have := Hs.out; omega
        rw [e1] at hI
        rw [hsz, Hs.out, e2]
        obtain ⟨p, Hp⟩ : ∃ p, Hid (sm ((zs.take e).drop s) = p) := ⟨_, rfl⟩
        rw [Hp.out]
        have hsV := hI.size
        have bA1 : Boxed V w.heap.size 52 (.slice (some ⟨ga, 0, none⟩) (n + 1) ca) := (hI.old _ (by omega) (by omega)).trans bA0
        have bB1 : Boxed V (w.heap.size + 1) 34 (.func (.func bf) #[] #[]) := (hI.old _ (by omega) (by omega)).trans bB0
        have bT1 : Boxed V bt 52 (.slice (some ⟨w.heap.size + 1 + 1, 0, none⟩) (n + 1) (n + 1)) := (hI.old _ (by omega) (by omega)).trans bT0
        have bE1 : Boxed V wr.heap.size 3 (.int .i64 (e : Int)) := (hI.old _ (by omega) (by omega)).trans bE
        have hga : ga < w.heap.size := (Array.getElem?_eq_some_iff.1 hR.blk).1
        have hblkA := (hI.bel.block ga hga).trans hR.blk
        obtain ⟨v1, hv1, hc1⟩ := hR.cell s (by omega)
        have hopt := hR.opt s (by omega)
        have hcR : V.cell? ⟨ga, s, none⟩ = some v1 := by rw [cell_of_row _ _ _ _ _ _ hblkA]; exact hv1
        have hcA := bA1.cell
        have qN := eql_nilZ
        have qS := eql_someZ
        cases hOs : O s with
        | none =>
          rw [hOs] at hc1 hopt
          have hc1' : v1 = .slice none 0 0 := hc1
          subst hc1'
          have HN := Lib.hid (hI.skip hopt)
          clear hI e1 e2 hsz
          gi_wp2
          exact ⟨⟨_, _, HN.out⟩, Kz.refl _ _ _⟩
        | some d =>
          rw [hOs] at hc1 hopt
          obtain ⟨g, cd, rfl, -, hrow⟩ := hc1
          obtain ⟨hcut, hdl, hmin⟩ := id hopt
          have hrowV : RowZ V g d := hrow.keep fun hg => hI.bel.block g hg
          have HWL := Lib.hid (withLast_any (some ⟨g, 0, none⟩) cd j d p V (hrowV.rd hrowV.lt) hdl (by omega))
          rw [hdl] at hcR
          gi_wp2_with fail
          refine ⟨trivial, fun h => (by cases h), (CallsIn.inRound l' (callsIn_wide.2 HWL.out)).mono ?_⟩
          rintro e' w4 ⟨rfl, hown4, hb4⟩
          have hrow4 : RowZ w4 V.heap.size (d ++ [p]) := RowZ.own hown4 (by simp [hdl])
          have hpd : sg zs s e = p := Hp.out
          obtain ⟨hncut, hnl⟩ := sc_cut hse (by omega) hopt
          rw [hpd] at hncut hnl
          have hnb := cut_bdZ hw hncut
          have bT4 : Boxed w4 bt 52 (.slice (some ⟨w.heap.size + 1 + 1, 0, none⟩) (n + 1) (n + 1)) := (hb4.block _ bT1.lt).trans bT1
          have bB4 : Boxed w4 (w.heap.size + 1) 34 (.func (.func bf) #[] #[]) := (hb4.block _ bB1.lt).trans bB1
          have bE4 : Boxed w4 wr.heap.size 3 (.int .i64 (e : Int)) := (hb4.block _ bE1.lt).trans bE1
          have hcT4 := bT4.cell
          have hcB4 := bB4.cell
          have hcE4 := bE4.cell
          have blk4 : w4.heap[w.heap.size + 1 + 1]? = some (.cells (vb.setIfInBounds e v) 23 (0, 0)) := (hb4.block _ (by omega)).trans hI.blk
          have hce4 : w4.cell? ⟨w.heap.size + 1 + 1, e, none⟩ = some v := by
            rw [cell_of_row _ _ _ _ _ _ blk4, Array.getElem?_setIfInBounds, if_pos rfl, if_pos (by rw [hO.size]; omega)]
          have hfz4 : w4.frozen? ⟨w.heap.size + 1 + 1, e, none⟩ = false := frozen_of_row _ _ _ _ _ blk4
          have hszV7 : w0.heap.size + 7 ≤ V.heap.size := by omega
          have hgb0 : w.heap.size + 1 + 1 < w0.heap.size := by omega
          have hwV := hI.bel.size
          have HKS := Lib.hid (fun (q : Nat) (u : Value) => kz_store (n := w.heap.size) (B := wr.heap.size + 1) (gb := w.heap.size + 1 + 1) (e := e) hb4 (by omega) (by omega) hwV q u)
          have HKY := Lib.hid (fun (q : Nat) => kz_stay (n := w.heap.size) (B := wr.heap.size + 1) hb4 hwV q)
          have heg := hbet.1
          have HI := Lib.hid hI
          have HB4 := Lib.hid hb4
          have HR4 := Lib.hid hrow4
          clear hown4 hb4 hrow4 blk4 bT4 bB4 bE4 bA1 bB1 bT1 bE1 hblkA hcR hcA hrowV HWL e1 e2 hsz
          cases o with
          | none =>
            obtain rfl : v = .slice none 0 0 := HI.out.cell
            have HN := Lib.hid (fun (q : Nat) => HI.out.store HB4.out hszV7 HR4.out hnl (by rw [← hpd]; exact sc_take hf hse (by omega) HI.out.sc hopt (fun d0 h0 => by cases h0)) hgb0 (by omega) q)
            have hx1 : (e : Int) < (n : Int) + 1 := by omega
            gi_wp2
            refine wpIn_quiet_roundZ (by kernel_rfl) (by kernel_rfl) (by kernel_rfl) ?_
            repeat (refine wpQuietIn_step (fun _ _ _ _ => trivial) (fun K hK => ?_); go_simp; first | (refine hK _ ?_; clear hK K) | (apply Exists.intro; refine ⟨fun _ => ?_, hK _ ?_⟩; (fail); clear hK K))
            refine wpQuietIn_nil ?_
            intro _ hw'
            obtain ⟨nq, hw''⟩ := hw'
            subst hw''
            gi_wp2
            exact ⟨⟨_, _, HN.out nq⟩, HKS.out nq _⟩
          | some d0 =>
            obtain ⟨g0, c0, rfl, -, hrow0⟩ := HI.out.cell
            obtain ⟨hcut0, hl0, -⟩ := id HI.out.sc
            have hb0 := cut_bdZ hw hcut0
            have hrow04 : RowZ w4 g0 d0 := hrow0.keep fun hg => HB4.out.block g0 hg
            have hx1 : (e : Int) < (n : Int) + 1 := by omega
            rw [hl0] at hce4
            have hj1 : j + 1 ≤ 10 := by
              have h1 := cut_len hcut
              rw [List.length_take] at h1
              omega
            by_cases hbt : f (d ++ [p]) < f d0
            · skip
              have HBt := Lib.hid (fun (k : Nat) => (hbet.2 (d ++ [p]) d0 (j + 1) (some ⟨V.heap.size, 0, none⟩) (some ⟨g0, 0, none⟩) (j + 1) c0 (w4.drewN k) hnl hl0 (by omega) hj1 hnb hb0 (RowZ.rd (W := w4) HR4.out HR4.out.lt) (RowZ.rd (W := w4) hrow04 hrow04.lt)).mono (R' := fun e w' => e = .returned (.bool true) ∧ w' = w4.drewN k) (fun _ _ ⟨h1, h2⟩ => ⟨by rw [h1]; simp [hbt], h2.symm⟩))
              have HN := Lib.hid (fun (q : Nat) => HI.out.store HB4.out hszV7 HR4.out hnl (by rw [← hpd]; exact sc_take hf hse (by omega) HI.out.sc hopt (fun d1 h1 => by cases h1; rw [hpd]; exact hbt)) hgb0 (by omega) q)
              clear hbt hb0 hrow04 hnb hbet hrow0
              gi_wp2
              refine wpIn_quiet_roundZ (by kernel_rfl) (by kernel_rfl) (by kernel_rfl) ?_
              repeat (refine wpQuietIn_step (fun _ _ _ _ => trivial) (fun K hK => ?_); go_simp; first | (refine hK _ ?_; clear hK K) | (apply Exists.intro; refine ⟨fun _ => ?_, hK _ ?_⟩; (exact ⟨fun h => (by cases h), CallsIn.quiet_of_same (callsIn_wide.2 (HBt.out _))⟩); clear hK K))
              refine wpQuietIn_nil ?_
              intro _ hw'
              obtain ⟨nq, hw''⟩ := hw'
              subst hw''
              gi_wp2
              exact ⟨⟨_, _, HN.out nq⟩, HKS.out nq _⟩
            · skip
              have HBt := Lib.hid (fun (k : Nat) => (hbet.2 (d ++ [p]) d0 (j + 1) (some ⟨V.heap.size, 0, none⟩) (some ⟨g0, 0, none⟩) (j + 1) c0 (w4.drewN k) hnl hl0 (by omega) hj1 hnb hb0 (RowZ.rd (W := w4) HR4.out HR4.out.lt) (RowZ.rd (W := w4) hrow04 hrow04.lt)).mono (R' := fun e w' => e = .returned (.bool false) ∧ w' = w4.drewN k) (fun _ _ ⟨h1, h2⟩ => ⟨by rw [h1]; simp [hbt], h2.symm⟩))
              have HN := Lib.hid (fun (q : Nat) => HI.out.stay HB4.out (sc_keep hf hse (by omega) HI.out.sc hopt (by rw [hpd]; exact hbt)) hgb0 q)
              clear hbt hb0 hrow04 hnb hbet hrow0
              gi_wp2
              refine wpIn_quiet_roundZ (by kernel_rfl) (by kernel_rfl) (by kernel_rfl) ?_
              repeat (refine wpQuietIn_step (fun _ _ _ _ => trivial) (fun K hK => ?_); go_simp; first | (refine hK _ ?_; clear hK K) | (apply Exists.intro; refine ⟨fun _ => ?_, hK _ ?_⟩; (exact ⟨fun h => (by cases h), CallsIn.quiet_of_same (callsIn_wide.2 (HBt.out _))⟩); clear hK K))
              refine wpQuietIn_nil ?_
              intro _ hw'
              obtain ⟨nq, hw''⟩ := hw'
              subst hw''
              gi_wp2
              exact ⟨⟨_, _, HN.out nq⟩, HKY.out nq⟩
      case done =>
        rintro V ⟨v, o, hI⟩ hd
        rw [Nat.sub_self] at hI
        have HO2 := Lib.hid (hO.next hI hlt (by omega) (by omega) (by omega) (fun k hk => hbut.keep k hk (.inr (Nat.zero_le _))) hd (by omega))
        have bA5 : Boxed V w.heap.size 52 (.slice (some ⟨ga, 0, none⟩) (n + 1) ca) := (hI.old _ (by omega) (by omega)).trans bA0
        have bB5 : Boxed V (w.heap.size + 1) 34 (.func (.func bf) #[] #[]) := (hI.old _ (by omega) (by omega)).trans bB0
        have bT5 : Boxed V bt 52 (.slice (some ⟨w.heap.size + 1 + 1, 0, none⟩) (n + 1) (n + 1)) := (hI.old _ (by omega) (by omega)).trans bT0
        have hce : ((e + 1 : Nat) : Int) = (e : Int) + 1 := by omega
        gi_wp2
        refine ⟨⟨e + 1, w0.heap.size :: Ds, vb.setIfInBounds e v, .pointer (some ⟨wr.heap.size, 0, none⟩), .bool true, .int .i64 (e : Int), .slice (some ⟨b, off, none⟩) n c, .int .i64 (e : Int), .slice (some ⟨b, off, none⟩) e c, .func (.func 71) #[] #[.pointer (some ⟨wr.heap.size + 1, 0, none⟩)], .int .i64 ((e : Int) + 1), by omega, HO2.out, bA5, bB5, bT5, by rw [hce]; rfl⟩, ?_⟩
        simp [intOf]
        omega
    · obtain rfl : e = n + 1 := by omega
      have hcT := bT.cell
      gi_wp2
      refine leaves_marksZ Ds wr (fun r hr => (hO.marks r hr).1) hO.nd (fun w' hs => ?_)
      obtain ⟨O', hR', hB'⟩ := out_endZ hO hs
      exact ⟨_, results_tmp rfl _ _ _, _, _, O', vb, rfl, Nat.le_refl _, hR', hB'⟩
theorem withOne_any (f : List Int → Int) (hf : KeyOk f) (bf : Nat) (hbet : BetterZ f bf) (A : Option Addr) (c n ga ca j : Nat) (zs : List Int) (O : Nat → Option (List Int)) (va : Array Value) (w : World)
    (h : LIn w A c n zs) (hw : Wd zs) (hj : j ≤ n) (hR : RowsZ w ga n j f zs O va) (hca : n + 1 ≤ ca) :
    Calls Try.prog 66 #[.slice A n c, .slice (some ⟨ga, 0, none⟩) (n + 1) ca, .func (.func bf) #[] #[]] w fun e w' =>
      ∃ gb cb O' vb, e = .returned (.slice (some ⟨gb, 0, none⟩) (n + 1) cb) ∧ n + 1 ≤ cb ∧ RowsZ w' gb n (j + 1) f zs O' vb ∧ Below w.heap.size w w' := callsIn_wide.1 (withOne_in f hf bf hbet A c n ga ca j zs O va w h hw hj hR hca)
end Go.Proofs.Ytoappopbjnlbdaa
