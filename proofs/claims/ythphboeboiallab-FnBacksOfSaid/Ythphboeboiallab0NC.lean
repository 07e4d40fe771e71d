/-
  slices.Clone at a list of ints.
  Conditions: at most a thousand places.
-/
import Derived.Test.Ythphboeboiallab0U
import Derived.Laws.CopyOwn
import Derived.WalkSpells
import Derived.Lib.SliceRun
namespace Go.Proofs.Ythphboeboiallab
open Go.ChangeShapes Go.WideShapes Go.ChangeAt Go.RowKit
set_option linter.unusedVariables false
set_option maxRecDepth 4000

set_option maxHeartbeats 400000 in
theorem cloneQ_any (b off c n : Nat) (zs : List Int) (w : World) (hn : zs.length = n) (hb : n ≤ 1000) (hbl : b < w.heap.size) (hc : ∀ i, i < n → w.cell? ⟨b, off + i, none⟩ = some (.int .i64 (zs.getD i 0))) :
    Calls Try.prog 76 #[.slice (some ⟨b, off, none⟩) n c] w (RowQ zs w) := by
  obtain ⟨i0, hi0, hz0, hz1, hz2⟩ := info_parts intInfo
  have Hn := Lib.hid hn
  have Hc := Lib.hid hc
  clear hn hc
  have hnil := fun W : World => Lib.run_eql_slice_nil (P := Try.prog) W 23 3 (some ⟨b, off, none⟩) n c 0 0 Try.underlying23
  go_enter Try.func76, Try.ntmps76
  have hown0 : (w.alloc (.cells #[] 3)).ownsRow w.heap.size 3 1 (.slice (some ⟨w.heap.size, 0, none⟩) 0 0) 0 [] := World.ownsRow_lit w #[] 0 (Nat.le_refl _) (by decide) rfl
  have hsrc : ∀ j u, (zs.map (Value.int .i64))[j]? = some u → (w.alloc (.cells #[] 3)).cell? ((⟨b, off, none⟩ : Addr).add j) = some u := by
    intro j u hu
    rw [List.getElem?_map] at hu
    obtain ⟨x, hx, rfl⟩ := Option.map_eq_some_iff.1 hu
    have hj : j < zs.length := (List.getElem?_eq_some_iff.1 hx).1
    have he : (⟨b, off, none⟩ : Addr).add j = ⟨b, off + j, none⟩ := by unfold Addr.add; split <;> simp_all
    rw [he, World.cell?_alloc_lt w _ _ hbl, Hc.out j (by rw [← Hn.out]; exact hj)]
    simp [List.getD, hx]
  have h1 : ∀ u ∈ zs.map (Value.int .i64), u.oneCell' = true := by
    intro u hu
    obtain ⟨x, _, rfl⟩ := List.mem_map.1 hu
    rfl
  have hl : (zs.map (Value.int .i64)).length = n * 1 := by rw [List.length_map, Hn.out, Nat.mul_one]
  have Hsrc := Lib.hid hsrc
  have H1 := Lib.hid h1
  have Hl := Lib.hid hl
  have Hown0 := Lib.hid hown0
  clear hsrc h1 hl hown0
  go_wp2_with (at_builtin; refine wpList_append_own _ rfl _ _ 23 rfl w.heap.size 3 i0 (.int .i64 0) 1 8 Try.underlying23 hi0 hz0 hz1 hz2 rfl (by decide) _ _ _ rfl Hown0.out ⟨b, off, none⟩ n c (zs.map (Value.int .i64)) rfl Hl.out Hsrc.out H1.out (by unfold maxLen; omega) (by omega) (by simp) ?_; intro v' w1 hown' hgrow _)
  have hnx : Below w.heap.size w w1 := ((Below.refl _ _).alloc (Nat.le_refl _) _).grown hgrow (by simp) (fun g h => by cases h; exact Nat.le_refl _)
  have Hown' := Lib.hid hown'
  clear hown' hgrow
  go_wp2
  go_ret
  have h := Hown'.out
  rw [Nat.zero_add, List.nil_append] at h
  obtain ⟨A2, c2, rfl, -, -, -⟩ := own_slice h Hn.out
  exact ⟨A2, c2, by rw [Hn.out]; rfl, by rw [Hn.out]; exact h, hnx⟩
end Go.Proofs.Ythphboeboiallab
