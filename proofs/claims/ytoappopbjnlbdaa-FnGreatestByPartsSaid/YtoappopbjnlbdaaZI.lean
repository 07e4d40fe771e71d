/-
  A range over an iterator that itself ranges over another one: the law of such a loop, and what an iterator owes it.
  Conditions: each round falls off its end.
-/
import Derived.RangeFuncNested
import Derived.RangeFuncLeaves
import Derived.RangeFuncBound
import Derived.Shelf.Abstract
import Derived.Test.YtoappopbjnlbdaaZG
import Derived.WalkKit
import Derived.OwnWalkIn
import Derived.TacticsInMore
import Derived.LoopNIn
import Derived.LoopIn
import Derived.Maps.AppendAt
namespace Go.Proofs.Ytoappopbjnlbdaa
open Go.ChangeShapes Go.WideShapes Go.ChangeAt Go.RowKit Go.Shelf
set_option linter.unusedVariables false
set_option maxRecDepth 100000

/-- All but the blocks from lo to hi lies as it lay; blocks may have come. -/
structure But (lo hi : Nat) (A B : World) : Prop where
  os : B.os = A.os
  tape : B.tape = A.tape
  output : B.output = A.output
  size : A.heap.size ≤ B.heap.size
  keep : ∀ k, k < A.heap.size → k < lo ∨ hi ≤ k → B.heap[k]? = A.heap[k]?
theorem But.refl (lo hi : Nat) (A : World) : But lo hi A A := ⟨rfl, rfl, rfl, Nat.le_refl _, fun _ _ _ => rfl⟩
theorem But.trans {lo hi : Nat} {a b c : World} (h : But lo hi a b) (k : But lo hi b c) : But lo hi a c :=
  ⟨k.os.trans h.os, k.tape.trans h.tape, k.output.trans h.output, Nat.le_trans h.size k.size, fun i hi' ho => (k.keep i (Nat.lt_of_lt_of_le hi' h.size) ho).trans (h.keep i hi' ho)⟩
theorem But.mono {lo hi lo' hi' : Nat} {a b : World} (h : But lo hi a b) (h1 : lo' ≤ lo) (h2 : hi ≤ hi') : But lo' hi' a b :=
  ⟨h.os, h.tape, h.output, h.size, fun k hk ho => h.keep k hk (by omega)⟩
theorem But.alloc (lo hi : Nat) (a : World) (o : Obj) : But lo hi a (a.alloc o) := ⟨rfl, rfl, rfl, by simp, fun k hk _ => Below.heap_alloc _ _ _ hk⟩
theorem But.setCell {lo hi : Nat} (a : World) {p : Addr} (h1 : lo ≤ p.block) (h2 : p.block < hi) (u : Value) : But lo hi a (a.setCell p u) :=
  ⟨rfl, rfl, rfl, by simp [World.setCell], fun k hk ho => Below.heap_setCell _ _ _ _ (by omega)⟩
theorem But.putObj {lo hi : Nat} (a : World) {l : Nat} (h1 : lo ≤ l) (h2 : l < hi) (o : Obj) : But lo hi a (a.putObj l o) :=
  ⟨rfl, rfl, rfl, by simp, fun k hk ho => World.putObj_heap_other (by omega)⟩
theorem But.box {lo hi B : Nat} {t : TypeId} {v : Value} {a b : World} (h : But lo hi a b) (hb : Boxed a B t v) (ho : B < lo ∨ hi ≤ B) : Boxed b B t v := (h.keep B hb.lt ho).trans hb
theorem But.below {lo hi n : Nat} {a b : World} (h : But lo hi a b) (h1 : n ≤ lo) (h2 : n ≤ a.heap.size) : Below n a b := ⟨h.os, h.tape, h.output, h.size, fun k hk => h.keep k (by omega) (.inl (by omega))⟩

/-- What a round keeps: all below n, and all from B on that is there. -/
structure Kz (n B : Nat) (W W' : World) : Prop where
  bel : Below n W W'
  keep : ∀ k, B ≤ k → k < W.heap.size → W'.heap[k]? = W.heap[k]?
theorem Kz.refl (n B : Nat) (W : World) : Kz n B W W := ⟨Below.refl _ _, fun _ _ _ => rfl⟩
theorem Kz.trans {n B : Nat} {a b c : World} (h : Kz n B a b) (k : Kz n B b c) : Kz n B a c := ⟨h.bel.trans k.bel, fun i h1 h2 => (k.keep i h1 (Nat.lt_of_lt_of_le h2 h.bel.size)).trans (h.keep i h1 h2)⟩
theorem Kz.mono {n B B' : Nat} {a b : World} (h : Kz n B a b) (hB : B ≤ B') : Kz n B' a b := ⟨h.bel, fun k h1 h2 => h.keep k (by omega) h2⟩
theorem Kz.box {n B K : Nat} {t : TypeId} {v : Value} {a b : World} (h : Kz n B a b) (hb : Boxed a K t v) (ho : B ≤ K) : Boxed b K t v := (h.keep K ho hb.lt).trans hb
theorem Kz.cell {n B : Nat} {a b : World} (h : Kz n B a b) {p : Addr} (h1 : B ≤ p.block) (h2 : p.block < a.heap.size) : b.cell? p = a.cell? p := World.cell?_of_block (h.keep _ h1 h2)

/-- A call of yield, at any depth of a fence that asks for none. -/
def YieldZ (l : Nat) (args : Array Value) (W : World) (R : Ending → World → Prop) : Prop := ∀ m, YieldAt Fence.wide m Try.prog l args W R
/-- WHAT AN ITERATOR OWES: N rounds, whatever is kept between two of them, if only it bears the turn of the iterator's own blocks (c of them, from where it begins). -/
def IterZ (g : Nat) (lb : Array Value) (encs : Nat → Array Value) (N n₀ B₀ c : Nat) (w : World) : Prop :=
  ∀ (l : Nat) (J : Nat → World → Prop) (W : World), Below w.heap.size w W → (∀ j A B, J j A → But W.heap.size (W.heap.size + c) A B → J j B) →
    (∀ j W1, j < N → J j W1 → W.heap.size + c ≤ W1.heap.size → YieldZ l (encs j) W1 fun e W' => e = .returned (.bool true) ∧ J (j + 1) W' ∧ Kz n₀ B₀ W1 W') →
    J 0 W → Calls Try.prog g (#[.func (.yield l) #[] #[]] ++ lb) W fun e W' => (∃ v, e = .returned v) ∧ J N W'
/-- How a round's body is left: off its end alone. -/
def postZ (n₀ B₀ : Nat) (I : World → Prop) (W : World) : Exit → Act → World → Prop
  | .normal, _, W' => I W' ∧ Kz n₀ B₀ W W'
  | _, _, _ => False

theorem rangeZ {g : Operand} {ps : Array Tmp} {assign body : Code} {Q : Exit → Act → World → Prop} {a : Act} {w : World} {n gf N n₀ B₀ c : Nat} {lb : Array Value} {encs : Nat → Array Value}
    (hg : a.eval g = .func (.func gf) #[] lb) (eg : ∀ args w, (callFunc gf args).run Try.prog w = .ok (.enter gf args) w)
    (hn₀ : n₀ ≤ w.heap.size) (hB₀ : B₀ ≤ w.heap.size) (hit : IterZ gf lb encs N n₀ B₀ c w) (hps : ∀ j, (encs j).size = ps.size)
    (I : Nat → World → Prop) (hI : ∀ j A B, I j A → But w.heap.size (w.heap.size + 2 + c) A B → I j B) (h0 : I 0 w) (a₁ : Nat → Act)
    (hassign : ∀ (l m j : Nat) (W : World) (K : Act → World → Prop), K (a₁ j) W →
      assign.wpIn (Fence.wide.inRound l) m Try.prog (Exit.then K (fun _ _ _ => False)) { tmps := (ps.zip (encs j)).foldl (fun t (p, v) => t.setIfInBounds p v) a.tmps, defers := [] } W)
    (hbody : ∀ (l m j : Nat) (W : World), j < N → I j W → w.heap.size + 2 + c ≤ W.heap.size → body.wpIn (Fence.wide.inRound l) m Try.prog (postZ n₀ B₀ (I (j + 1)) W) (a₁ j) W)
    (hdone : ∀ (W : World), I N W → W.heap[w.heap.size]? = some (.deferred (some [])) → Q .normal { a with defers := { target := .collected w.heap.size, args := #[] } :: a.defers } W) :
    (Code.rangeFunc g ps assign body).wpIn Fence.wide n Try.prog Q a w := by
  refine wpIn_rangeFunc ?_
  intro fn _
  obtain ⟨R, hR⟩ : ∃ R : LoopState → Loop, R = fun st => { state := st, pending := none, fn, tmps := a.tmps, params := ps, assign, body, defers := w.heap.size } := ⟨_, rfl⟩
  obtain ⟨W1, hW1⟩ : ∃ W1, (w.alloc (.deferred (some []))).alloc (.loop (R .ready)) = W1 := ⟨_, rfl⟩
  have hs1 : W1.heap.size = w.heap.size + 2 := by rw [← hW1]; simp
  have hL1 : W1.heap[w.heap.size + 1]? = some (.loop (R .ready)) := by
    rw [← hW1]
    have := World.alloc_heap_new (w.alloc (.deferred (some []))) (.loop (R .ready))
    rwa [World.size_alloc] at this
  have hD1 : W1.heap[w.heap.size]? = some (.deferred (some [])) := by
    rw [← hW1]
    exact (Below.heap_alloc _ _ _ (by simp)).trans (World.alloc_heap_new w _)
  have hbut : But w.heap.size (w.heap.size + 2 + c) w W1 := by rw [← hW1]; exact (But.alloc _ _ _ _).trans (But.alloc _ _ _ _)
  refine ⟨w.heap.size + 1, [{ target := .collected w.heap.size, args := #[] }], W1, { target := .fn (.func gf) lb, args := #[.func (.yield (w.heap.size + 1)) #[] #[]] }, W1, gf,
    #[.func (.yield (w.heap.size + 1)) #[] #[]] ++ lb, W1, ?_, ?_, fun _ _ => trivial, ?_, fun h => (by cases h), ?_⟩
  · rw [← hW1, hR]; exact run_enterLoop_outer _ _ _ _ _
  · simp only [resolve, hg]
    simp [go_sem]
  · simp [invoke, go_sem, eg]
  · refine (callsIn_wide.2 (hit (w.heap.size + 1) (fun j W => I j W ∧ W.heap[w.heap.size + 1]? = some (.loop (R .ready)) ∧ W.heap[w.heap.size]? = some (.deferred (some []))) W1 (hbut.below (Nat.le_refl _) (Nat.le_refl _)) ?_ ?_ ⟨hI 0 w W1 h0 hbut, hL1, hD1⟩)).mono ?_
    · rintro j A B ⟨h1, h2, h3⟩ hAB
      rw [hs1] at hAB
      exact ⟨hI j A B h1 (hAB.mono (by omega) (by omega)), (hAB.keep _ (Array.getElem?_eq_some_iff.1 h2).1 (.inl (by omega))).trans h2, (hAB.keep _ (Array.getElem?_eq_some_iff.1 h3).1 (.inl (by omega))).trans h3⟩
    · rintro j W hj ⟨hi, hl, hd⟩ hsz m
      rw [hs1] at hsz
      have hy := run_yield (P := Try.prog) (args := encs j) hl (by rw [hR]; exact hps j)
      rw [hR] at hy
      refine ⟨fn, _, assign, body, hy, roundIn_of_wpIn trivial (hassign _ m j W _ ⟨_, run_beginRound hl (by rw [hR]), ?_⟩)⟩
      have hlt := (Array.getElem?_eq_some_iff.1 hl).1
      have e1 : ({ R .ready with state := .busy } : Loop) = R .busy := by rw [hR]
      rw [e1]
      have hl2 : (W.putObj (w.heap.size + 1) (.loop (R .busy))).heap[w.heap.size + 1]? = some (.loop (R .busy)) := World.putObj_heap_same hlt
      refine wpIn_mono (hbody _ m j _ hj (hI j W _ hi (But.putObj W (by omega) (by omega) _)) (by rw [World.putObj_size]; omega)) ?_
      rintro e a3 W3 hp
      cases e with
      | normal =>
        obtain ⟨hi3, hk3⟩ := hp
        have hl3 := (hk3.keep (w.heap.size + 1) (by omega) (by rw [World.putObj_size]; exact hlt)).trans hl2
        have hr := run_endRound (P := Try.prog) none hl3
        have e2 : ({ R .busy with state := if (none : Option Code).isNone then .ready else .done, pending := none } : Loop) = R .ready := by rw [hR]; rfl
        rw [e2] at hr
        refine ⟨_, _, hr, rfl, ⟨hI _ _ _ hi3 (But.putObj W3 (by omega) (by omega) _), World.putObj_heap_same (Array.getElem?_eq_some_iff.1 hl3).1, ?_⟩, ?_⟩
        · rw [World.putObj_heap_other (by omega), hk3.keep w.heap.size hB₀ (by rw [World.putObj_size]; omega), World.putObj_heap_other (by omega)]
          exact hd
        · refine ⟨?_, fun k h1 h2 => ?_⟩
          · exact (((But.putObj (lo := w.heap.size) (hi := w.heap.size + 2) W (by omega) (by omega) _).below hn₀ (by omega)).trans hk3.bel).trans ((But.putObj (lo := w.heap.size) (hi := w.heap.size + 2) W3 (by omega) (by omega) _).below hn₀ (by have := hk3.bel.size; rw [World.putObj_size] at this; omega))
          · by_cases ek : k = w.heap.size + 1
            · subst ek
              rw [World.putObj_heap_same (Array.getElem?_eq_some_iff.1 hl3).1, hl]
            · rw [World.putObj_heap_other ek, hk3.keep k h1 (by rw [World.putObj_size]; exact h2), World.putObj_heap_other ek]
      | ret => exact hp.elim
      | exit id => exact hp.elim
      | goto t => exact hp.elim
      | panic ch => exact hp.elim
      | outgrown => exact hp.elim
    · rintro e W2 ⟨⟨v, rfl⟩, hi, hl, hd⟩
      have hr := run_endLoop (P := Try.prog) hl (by rw [hR]; simp)
      refine ⟨none, _, by rw [hr, hR], hdone _ (hI _ _ _ hi (But.putObj W2 (by omega) (by omega) _)) ?_⟩
      rw [World.putObj_heap_other (by omega)]
      exact hd
end Go.Proofs.Ytoappopbjnlbdaa
