/-
  withLast: districts with one more behind them, copied.
  Conditions: at most ten districts.
-/
import Derived.Test.YtoappopbjnlbdaaZG
import Derived.Laws.CopyOwn
namespace Go.Proofs.Ytoappopbjnlbdaa
open Go.ChangeShapes Go.WideShapes Go.ChangeAt Go.RowKit
set_option linter.unusedVariables false
set_option maxRecDepth 4000

theorem intSizeZ : (Try.prog.info? 3).map (·.size) = some 1 := by kernel_rfl
theorem made_block {w w2 : World} {n : Nat} (h : w2.ownsRow w.heap.size 3 1 (.slice (some ⟨w.heap.size, 0, none⟩) n n) n (List.replicate n (Value.int .i64 0))) :
    w2.heap[w.heap.size]? = some (.cells (List.replicate n (Value.int .i64 0)).toArray 3 (0, 0)) := by
  rcases h.2 with ⟨e, _⟩ | ⟨g, cap, cur, e, _, hb, _, _, hs, ht⟩
  · cases e
  · injection e with e1 _ e3
    injection e1 with e1
    injection e1 with e1
    subst e1 e3
    rw [List.take_of_length_le (by rw [Array.length_toList, hs]; omega)] at ht
    rw [hb, ← ht]
theorem splice_zero (n : Nat) (cs : List Value) (h : cs.length = n) : splice (List.replicate (n + 1) (Value.int .i64 0)) 0 cs = cs ++ [Value.int .i64 0] := by
  unfold splice
  rw [List.take_zero, List.nil_append, Nat.zero_add, List.drop_replicate, h, show n + 1 - n = 1 by omega]
  rfl
theorem rdI_src {w : World} {B : Nat} {A : Option Addr} {d : List Int} (h : RdI w B A d) (hp : 0 < (d.map (Value.int .i64)).length) : ∃ ad, A = some ad ∧ ∀ j v, (d.map (Value.int .i64))[j]? = some v → w.cell? (ad.add j) = some v := by
  obtain ⟨b, off, rfl, hb, hc⟩ := h (by simpa using hp)
  refine ⟨_, rfl, fun j v hv => ?_⟩
  have hj : j < d.length := by have := (List.getElem?_eq_some_iff.1 hv).1; simpa using this
  have he : (⟨b, off, none⟩ : Addr).add j = ⟨b, off + j, none⟩ := by unfold Addr.add; split <;> simp_all
  rw [he, hc j hj, ← hv]
  simp [List.getD, List.getElem?_eq_getElem hj]
theorem ints_oneCell (d : List Int) : ∀ v ∈ d.map (Value.int .i64), v.oneCell' = true := by
  intro v hv
  obtain ⟨x, _, rfl⟩ := List.mem_map.1 hv
  rfl
theorem own_of_block {w : World} {B g : Nat} {xs : List Value} {n : Nat} (hn : xs.length = n) (hm : n ≤ maxLen) (hB : B ≤ g) (h : w.heap[g]? = some (.cells xs.toArray 3 (0, 0))) : w.ownsRow B 3 1 (.slice (some ⟨g, 0, none⟩) n n) n xs :=
  ⟨by simp [hn], .inr ⟨g, n, _, rfl, hB, h, Nat.le_refl _, hm, by simp [hn], by simp [← hn]⟩⟩

theorem last_facts {w w3 : World} {n : Nat} {cs : List Value} {d : List Int} (p : Int) (hb : w3.heap[w.heap.size]? = some (.cells (splice (List.replicate (n + 1) (Value.int .i64 0)) 0 cs).toArray 3 (0, 0))) (hcs : d.map (Value.int .i64) = cs) (hl : cs.length = n) (hn : n ≤ 10) :
    w3.cell? ⟨w.heap.size, n, none⟩ = some (.int .i64 0) ∧ w3.frozen? ⟨w.heap.size, n, none⟩ = false ∧
    Hid ((w3.setCell ⟨w.heap.size, n, none⟩ (.int .i64 p)).ownsRow w.heap.size 3 1 (.slice (some ⟨w.heap.size, 0, none⟩) (n + 1) (n + 1)) (n + 1) ((d ++ [p]).map (Value.int .i64))) := by
  rw [splice_zero n cs hl] at hb
  have ho := own_of_block (B := w.heap.size) (n := n + 1) (by simp [hl]) (by unfold maxLen; omega) (Nat.le_refl _) hb
  refine ⟨?_, ho.frozenAt n, ?_⟩
  · rw [ho.cellAt n (by omega)]
    rw [List.getElem?_append_right (by omega), hl, Nat.sub_self]; rfl
  · have h := (ho.stored n (.int .i64 p)).1
    rw [List.set_append_right _ _ (by omega), hl, Nat.sub_self] at h
    show World.ownsRow _ _ _ _ _ _ _
    rw [List.map_append, hcs]
    exact h

set_option maxHeartbeats 1600000 in
theorem withLast_any (A : Option Addr) (c n : Nat) (d : List Int) (p : Int) (w : World) (hr : RdI w w.heap.size A d) (hl : d.length = n) (hn : n ≤ 10) :
    Calls Try.prog 70 #[.slice A n c, .int .i64 p] w fun e w' => e = .returned (.slice (some ⟨w.heap.size, 0, none⟩) (n + 1) (n + 1)) ∧ w'.ownsRow w.heap.size 3 1 (.slice (some ⟨w.heap.size, 0, none⟩) (n + 1) (n + 1)) (n + 1) ((d ++ [p]).map (Value.int .i64)) ∧ Below w.heap.size w w' := by
  obtain ⟨i0, hi0, hz0, hz1, hz2⟩ := info_parts intInfo
  have HR := Lib.hid hr
  obtain ⟨cs, Hcs⟩ : ∃ cs, Hid (d.map (Value.int .i64) = cs) := ⟨_, rfl⟩
  have hcl : cs.length = n := by rw [← Hcs.out]; simpa using hl
  have hcm : cs.length = Nat.min n (n + 1) := by rw [hcl]; exact (Nat.min_eq_left (by omega)).symm
  have hone : ∀ v ∈ cs, v.oneCell' = true := by rw [← Hcs.out]; exact ints_oneCell d
  have Hone := Lib.hid hone
  have Hcm := Lib.hid hcm
  have Hcl := Lib.hid hcl
  clear hr hl hcl hcm hone
  go_enter Try.func70, Try.ntmps70
  go_wp2_with (first
    | (at_make; refine wpList_make_full _ rfl _ _ 23 rfl w.heap.size 3 i0 _ 1 Try.underlying23 hi0 hz0 hz1 _ _ _ _ (n + 1) rfl rfl rfl rfl (by rw [hz2]; omega) (by unfold maxLen; omega) (Nat.le_refl _) ?_; intro w2 hown2 hg2; rw [made_ints] at hown2; have Hblk := Lib.hid (made_block hown2); have hnx : Below w.heap.size w w2 := (Below.refl _ _).grown hg2 (Nat.le_refl _) (fun j hj => by cases hj); clear hown2 hg2)
    | (with_reducible refine wpList_copy_splice rfl (.tmp 10) (.tmp 11) 23 23 rfl 3 Try.underlying23 intSizeZ _ _ (n + 1) (n + 1) n c rfl rfl w.heap.size 0 (List.replicate (n + 1) (Value.int .i64 0)) 3 Hblk.out cs Hcm.out (fun hp => ⟨rfl, by rw [← Hcs.out] at hp ⊢; exact rdI_src (HR.out.below hnx) hp⟩) (by rw [Hcl.out]; simp) Hone.out w.heap.size w hnx (Nat.le_refl _) ?_; intro w3 hb3 hnx3; obtain ⟨hc3, hf3, HO3⟩ := last_facts p hb3.out Hcs.out Hcl.out hn; have HB3 := Lib.hid hnx3; clear hb3 hnx3 Hblk hnx))
  go_ret
  exact ⟨rfl, HO3.out, HB3.out.setCell (Nat.le_refl _) _⟩
end Go.Proofs.Ytoappopbjnlbdaa
