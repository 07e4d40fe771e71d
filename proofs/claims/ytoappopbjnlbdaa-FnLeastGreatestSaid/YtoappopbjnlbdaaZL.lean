/-
  withOneDistrict: the best districts when there is one more of them.
  Conditions: at most ten streets.
-/
import Derived.Test.YtoappopbjnlbdaaZJ
import Derived.Test.YtoappopbjnlbdaaZH
import Derived.Sort.QuietTacIn
import Derived.Sort.QuietIn
namespace Go.Proofs.Ytoappopbjnlbdaa
open Go.ChangeShapes Go.WideShapes Go.ChangeAt Go.RowKit Go.Shelf
set_option linter.unusedVariables false
set_option maxRecDepth 100000

/-! A region that draws its order, in a round: as everywhere, where no operation of it defers. -/
theorem wpOp_roundZ {n : Nat} {ops : Array Oper} {Q : Exit → Act → World → Prop} {l i : Nat} (hd : ∀ (i : Nat) (o : Oper), ops[i]? = some o → ∀ c, o.op ≠ .defer c) {K K' : Act → World → Prop} (hK : ∀ a w, K a w → K' a w) {a : Act} {w : World}
    (h : wpOpIn Fence.wide n Try.prog ops Q i K a w) : wpOpIn (Fence.wide.inRound l) n Try.prog ops Q i K' a w := by
  have h := wpOpIn_mono hK h
  unfold wpOpIn at h ⊢
  cases ho : ops[i]? with
  | none => rw [ho] at h; exact h
  | some o =>
    rw [ho] at h
    simp only at h ⊢
    by_cases hw : Region.wanted o (yielded ops a.tmps) = true
    · rw [if_pos hw] at h ⊢
      unfold Oper.wpIn at h ⊢
      have e : o.semAt (Fence.wide.inRound l).round a.eval = o.semAt Fence.wide.round a.eval := by
        rw [Oper.semAt_eq _ _ _ (hd i o ho), Oper.semAt_eq _ _ _ (hd i o ho)]
      rw [e]
      exact h
    · rw [if_neg hw] at h ⊢
      exact h
theorem wpAny_roundZ {n : Nat} {ops : Array Oper} {Q : Exit → Act → World → Prop} {md : Region.Mode} {l : Nat} (hd : ∀ (i : Nat) (o : Oper), ops[i]? = some o → ∀ c, o.op ≠ .defer c) : ∀ (fuel : Nat) (listed : Array Bool) (a : Act) (w : World),
    wpAnyIn Fence.wide n Try.prog md ops Q fuel listed a w → wpAnyIn (Fence.wide.inRound l) n Try.prog md ops Q fuel listed a w
  | 0, _, _, _, h => h
  | fuel + 1, listed, a, w, h => ⟨h.1, fun i hi => wpOp_roundZ hd (fun a w h => wpAny_roundZ hd fuel _ a w h) (h.2 i hi)⟩
def noDefer (l : List Oper) : Bool := l.all fun o => match o.op with | .defer _ => false | _ => true
theorem noDefer_spec {l : List Oper} (h : noDefer l = true) : ∀ (i : Nat) (o : Oper), l.toArray[i]? = some o → ∀ c, o.op ≠ .defer c := by
  intro i o ho c hc
  have hm : o ∈ l := by
    rw [List.getElem?_toArray] at ho
    exact List.mem_of_getElem? ho
  have := List.all_eq_true.1 h o hm
  rw [hc] at this
  simp at this
theorem wpIn_quiet_roundZ {id n r : Nat} {Q : Exit → Act → World → Prop} {a : Act} {w : World} {l : List Oper} (hm : Try.prog.follows .mixedOrders = true) (hB : Region.lexB .any l.toArray = true) (hd : noDefer l = true)
    (h : wpQuietIn Fence.wide n Try.prog l.toArray (fun w' => ∃ n, w' = w.drewN n) (fun a' => ∀ w', (∃ n, w' = w.drewN n) → Q .normal a' w') l a) : (Code.region id l.toArray true).wpIn (Fence.wide.inRound r) n Try.prog Q a w := by
  simp only [Region.lexB, Bool.and_eq_true] at hB
  refine wpIn_region_any hm (wpAny_roundZ (noDefer_spec hd) _ _ _ _ (wpAnyIn_of_quiet (C := fun w' => ∃ n, w' = w.drewN n) (Q := fun a' => ∀ w', (∃ n, w' = w.drewN n) → Q .normal a' w') rfl (fun _ w' hw' h => h w' hw') _ _ _ _ ⟨1, rfl⟩ ?_))
  have := wpAnyQIn_lex (F := Fence.wide) (P := Try.prog) (n := n) (C := fun w' => ∃ n, w' = w.drewN n) (md := .any) hB.1 l 0 (Array.replicate l.toArray.size false) a (by simp) (by simpa using hB.2) h
  simpa using this

/-! The marks of the loops that have been. -/
def markZ (r : Nat) : Deferred := { target := .collected r, args := #[] }
/-- As it was but for the blocks named. -/
structure SaveZ (Ds : List Nat) (A B : World) : Prop where
  os : B.os = A.os
  tape : B.tape = A.tape
  output : B.output = A.output
  size : B.heap.size = A.heap.size
  keep : ∀ k, k ∉ Ds → B.heap[k]? = A.heap[k]?
theorem leaves_marksZ {n : Nat} {fn : Func} {tmps : Array Value} {R : Ending → World → Prop} : ∀ (Ds : List Nat) (w : World), (∀ r, r ∈ Ds → w.heap[r]? = some (.deferred (some []))) → Ds.Nodup →
    (∀ w', SaveZ Ds w w' → LeavesIn Fence.wide n Try.prog fn tmps R [] .returning w') → LeavesInM Fence.wide n Try.prog fn tmps R (Ds.map markZ) .returning w
  | [], w, _, _, h => h w ⟨rfl, rfl, rfl, rfl, fun _ _ => rfl⟩
  | r :: Ds, w, hm, hn, h => by
    have hr := hm r (by simp)
    have hnr := (List.nodup_cons.1 hn).1
    refine ⟨by simp, .inl ⟨r, _, rfl, run_takeDeferred hr, ?_⟩⟩
    refine leaves_marksZ Ds _ (fun q hq => ?_) (List.nodup_cons.1 hn).2 (fun w' hs => h w' ?_)
    · rw [World.putObj_heap_other (show q ≠ r from fun e => hnr (e ▸ hq))]
      exact hm q (by simp [hq])
    · refine ⟨hs.os, hs.tape, hs.output, by rw [hs.size, World.putObj_size], fun k hk => ?_⟩
      simp only [List.mem_cons, not_or] at hk
      rw [hs.keep k hk.2, World.putObj_heap_other hk.1]

/-! Rows of rows, some of them not there. -/
def RowZ (W : World) (g : Nat) (d : List Int) : Prop := ∃ cs, W.heap[g]? = some (.cells cs 3 (0, 0)) ∧ ∀ i, i < d.length → cs[i]? = some (.int .i64 (d.getD i 0))
def CellZ (P : Nat → Prop) (W : World) (v : Value) : Option (List Int) → Prop
  | none => v = .slice none 0 0
  | some d => ∃ g c, v = .slice (some ⟨g, 0, none⟩) d.length c ∧ P g ∧ RowZ W g d
theorem RowZ.keep {W W' : World} {g : Nat} {d : List Int} (h : RowZ W g d) (hk : g < W.heap.size → W'.heap[g]? = W.heap[g]?) : RowZ W' g d := by
  obtain ⟨cs, h1, h2⟩ := h
  exact ⟨cs, (hk (Array.getElem?_eq_some_iff.1 h1).1).trans h1, h2⟩
theorem RowZ.lt {W : World} {g : Nat} {d : List Int} (h : RowZ W g d) : g < W.heap.size := by
  obtain ⟨cs, h1, _⟩ := h
  exact (Array.getElem?_eq_some_iff.1 h1).1
theorem RowZ.rd {W : World} {g B : Nat} {d : List Int} (h : RowZ W g d) (hB : g < B) : RdI W B (some ⟨g, 0, none⟩) d := fun _ => by
  obtain ⟨cs, h1, h2⟩ := h
  exact ⟨g, 0, rfl, hB, fun i hi => by rw [Nat.zero_add, cell_of_row _ _ _ _ _ _ h1]; exact h2 i hi⟩
theorem RowZ.own {W : World} {g B n c : Nat} {d : List Int} (h : W.ownsRow B 3 1 (.slice (some ⟨g, 0, none⟩) n c) n (d.map (Value.int .i64))) (hl : d.length = n) : RowZ W g d := by
  rcases h.2 with ⟨e, _⟩ | ⟨g', cap, cur, e, _, hb, _, _, hs, ht⟩
  · cases e
  · injection e with e1 _ e3
    injection e1 with e1
    injection e1 with e1
    subst e1
    refine ⟨cur, hb, fun i hi => ?_⟩
    have h1 : (List.take (n * 1) cur.toList)[i]? = (d.map (Value.int .i64))[i]? := by rw [ht]
    rw [List.getElem?_take, if_pos (by omega), List.getElem?_map, List.getElem?_eq_getElem hi] at h1
    rw [← Array.getElem?_toList, h1]
    simp [List.getD, List.getElem?_eq_getElem hi]
theorem CellZ.keep {P P' : Nat → Prop} {W W' : World} {v : Value} {o : Option (List Int)} (h : CellZ P W v o) (hP : ∀ g, P g → P' g) (hk : ∀ g, P g → g < W.heap.size → W'.heap[g]? = W.heap[g]?) : CellZ P' W' v o := by
  cases o with
  | none => exact h
  | some d =>
    obtain ⟨g, c, h1, h2, h3⟩ := h
    exact ⟨g, c, h1, hP g h2, h3.keep fun hg => hk g h2 hg⟩
end Go.Proofs.Ytoappopbjnlbdaa
