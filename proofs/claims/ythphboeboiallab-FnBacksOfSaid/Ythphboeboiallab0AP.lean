/-
  A list of ints put behind a row of the call's own, at a step of a region that draws its order; parts of a list.
  Conditions: as each theorem states.
-/
import Derived.Test.Ythphboeboiallab0R
import Derived.RegionTactic
namespace Go.Proofs.Ythphboeboiallab
open Go.ChangeShapes Go.WideShapes Go.ChangeAt Go.RowKit
set_option linter.unusedVariables false
set_option maxRecDepth 4000

theorem head_runQ (b o n c i : Nat) (h1 : i ≤ n) (h2 : n ≤ c) (W : World) : (Instr.slice 23 (.slice (some ⟨b, o, none⟩) n c) none (some (.int .i64 (i : Int))) none).run Try.prog W = .ok (.slice (some ⟨b, o, none⟩) i c) W := by
  have e1 : (0 : Int) ≤ (i : Int) := by omega
  have e2 : (i : Int) ≤ (c : Int) := by omega
  go_simp
  all_goals omega
theorem tail_runQ (b o n c t : Nat) (h1 : t ≤ n) (h2 : n ≤ c) : ∃ A' c', (∃ b' o', A' = some (⟨b', o', none⟩ : Addr)) ∧ (A' = some (⟨b, o + t, none⟩ : Addr) ∨ n - t = 0) ∧ n - t ≤ c' ∧ ∀ W : World, (Instr.slice 23 (.slice (some ⟨b, o, none⟩) n c) (some (.int .i64 (t : Int))) none none).run Try.prog W = .ok (.slice A' (n - t : Nat) c') W := by
  refine ⟨if c = t then some ⟨b, o, none⟩ else some ⟨b, o + t, none⟩, c - t, ?_, ?_, by omega, fun W => ?_⟩
  · split
    · exact ⟨_, _, rfl⟩
    · exact ⟨_, _, rfl⟩
  · split
    · right; omega
    · left; rfl
  · have e1 : (0 : Int) ≤ (t : Int) := by omega
    have e2 : (t : Int) ≤ (n : Int) := by omega
    have e3 : (n : Int) ≤ (c : Int) := by omega
    go_simp
    all_goals omega
/-- A list put behind a row of the call's own, at a step of a region that draws its order. -/
theorem step_append_partQ {w : World} {ops : Array Oper} {o : Oper} {a : Act} {K : Act → World → Prop} {Q : Exit → Act → World → Prop} {E : Prop} {i0 : TypeInfo} (hi0 : Try.prog.info? 3 = some i0) (hz0 : i0.zero = some (.int .i64 0)) (hz1 : i0.size = 1) (hz2 : i0.bytes = 8)
    (hgd : o.guard = none) (s x : Operand) (ho : o.op = .call { callee := .builtin .append, args := #[s, x], argTypes := #[23, 23] }) (base : Nat) (v : Value) (L : Nat) (zs : List Int) (hs : a.eval s = v)
    (hown : w.ownsRow base 3 1 v L (zs.map (Value.int .i64))) (hv : v ≠ .slice none 0 0) (b off n c : Nat) (xs : List Int) (hx : a.eval x = .slice (some ⟨b, off, none⟩) n c) (hp : PartQ w (some ⟨b, off, none⟩) n c xs) (hl : L ≤ 1000) (hn : n ≤ 1000) (hbase : base ≤ w.heap.size)
    (h : ∀ v' w', w'.ownsRow base 3 1 v' (L + n) ((zs ++ xs).map (Value.int .i64)) → v' ≠ .slice none 0 0 → Below base w w' → K (a.put o.dst v') w') :
    if Region.wanted o (yielded ops a.tmps) = true then Oper.wp Try.prog o a w K Q else E := by
  have hw : Region.wanted o (yielded ops a.tmps) = true := by simp [Region.wanted, hgd]
  rw [if_pos hw]
  refine wp_append_own w s x 23 ho base 3 i0 (.int .i64 0) 1 8 Try.underlying23 hi0 hz0 hz1 hz2 rfl (by decide) v L _ hs hown ⟨b, off, none⟩ n c (xs.map (Value.int .i64)) hx (by rw [List.length_map, hp.len, Nat.mul_one]) ?_ ?_ (by unfold maxLen; omega) (by omega) hbase ?_
  · intro j u hj
    rw [List.getElem?_map] at hj
    obtain ⟨y, hy, rfl⟩ := Option.map_eq_some_iff.1 hj
    have hjl : j < xs.length := (List.getElem?_eq_some_iff.1 hy).1
    obtain ⟨b', o', e', -, hc⟩ := hp.rd.at_ hjl
    injection e' with e'
    injection e' with e1 e2
    subst e1 e2
    rw [show (⟨b, off, none⟩ : Addr).add j = ⟨b, off + j, none⟩ by unfold Addr.add; split <;> simp_all, hc]
    simp [List.getD, hy]
  · intro u hu
    obtain ⟨y, _, rfl⟩ := List.mem_map.1 hu
    rfl
  · intro v' w' hown' hg hnil
    refine h v' w' (by rw [List.map_append]; exact hown') (fun e => hv ((hnil.1 e).1)) ((Below.refl _ _).grown hg hbase fun k hk => ?_)
    obtain ⟨-, h2⟩ := hown
    rcases h2 with ⟨h2, -⟩ | ⟨g, cap, cur, h2, h3, -⟩
    · exact absurd h2 hv
    · rw [h2] at hk
      injection hk with hk
      rw [← hk]; exact h3
theorem step_append_partG {w : World} {ops : Array Oper} {o : Oper} {a : Act} {K : Act → World → Prop} {Q : Exit → Act → World → Prop} {E : Prop} {i0 : TypeInfo} (hi0 : Try.prog.info? 3 = some i0) (hz0 : i0.zero = some (.int .i64 0)) (hz1 : i0.size = 1) (hz2 : i0.bytes = 8)
    (hgd : o.guard = none) (s x : Operand) (ho : o.op = .call { callee := .builtin .append, args := #[s, x], argTypes := #[23, 23] }) (base : Nat) (v : Value) (L : Nat) (zs : List Int) (hs : a.eval s = v)
    (hown : w.ownsRow base 3 1 v L (zs.map (Value.int .i64))) (hv : v ≠ .slice none 0 0) (b off n c : Nat) (xs : List Int) (hx : a.eval x = .slice (some ⟨b, off, none⟩) n c) (hp : PartQ w (some ⟨b, off, none⟩) n c xs) (hl : L ≤ 1000) (hn : n ≤ 1000) (hbase : base ≤ w.heap.size)
    (h : ∀ v' w', w'.ownsRow base 3 1 v' (L + n) ((zs ++ xs).map (Value.int .i64)) → v' ≠ .slice none 0 0 → Below base w w' → w.grownBy w' v.ownBlock → K (a.put o.dst v') w') :
    if Region.wanted o (yielded ops a.tmps) = true then Oper.wp Try.prog o a w K Q else E := by
  have hw : Region.wanted o (yielded ops a.tmps) = true := by simp [Region.wanted, hgd]
  rw [if_pos hw]
  refine wp_append_own w s x 23 ho base 3 i0 (.int .i64 0) 1 8 Try.underlying23 hi0 hz0 hz1 hz2 rfl (by decide) v L _ hs hown ⟨b, off, none⟩ n c (xs.map (Value.int .i64)) hx (by rw [List.length_map, hp.len, Nat.mul_one]) ?_ ?_ (by unfold maxLen; omega) (by omega) hbase ?_
  · intro j u hj
    rw [List.getElem?_map] at hj
    obtain ⟨y, hy, rfl⟩ := Option.map_eq_some_iff.1 hj
    have hjl : j < xs.length := (List.getElem?_eq_some_iff.1 hy).1
    obtain ⟨b', o', e', -, hc⟩ := hp.rd.at_ hjl
    injection e' with e'
    injection e' with e1 e2
    subst e1 e2
    rw [show (⟨b, off, none⟩ : Addr).add j = ⟨b, off + j, none⟩ by unfold Addr.add; split <;> simp_all, hc]
    simp [List.getD, hy]
  · intro u hu
    obtain ⟨y, _, rfl⟩ := List.mem_map.1 hu
    rfl
  · intro v' w' hown' hg hnil
    refine h v' w' (by rw [List.map_append]; exact hown') (fun e => hv ((hnil.1 e).1)) ((Below.refl _ _).grown hg hbase fun k hk => ?_) hg
    obtain ⟨-, h2⟩ := hown
    rcases h2 with ⟨h2, -⟩ | ⟨g, cap, cur, h2, h3, -⟩
    · exact absurd h2 hv
    · rw [h2] at hk
      injection hk with hk
      rw [← hk]; exact h3
theorem PartQ.grown {w w' : World} {b n c R : Nat} {xs : List Int} (h : PartQ w (some ⟨b, 0, none⟩) n c xs) (hA : b ≠ R) (hg : w.grownBy w' (some R)) : PartQ w' (some ⟨b, 0, none⟩) n c xs := by
  refine ⟨fun hp => ?_, h.len, h.nz, h.at_⟩
  obtain ⟨b', off, e, hb, hc⟩ := h.rd hp
  injection e with e
  injection e with e1 e2
  subst e1 e2
  exact ⟨b, 0, rfl, Nat.lt_of_lt_of_le hb hg.size, fun i hi => (World.cell?_of_block (hg.block b hb (fun e' => hA (by injection e')))).trans (hc i hi)⟩
end Go.Proofs.Ythphboeboiallab
