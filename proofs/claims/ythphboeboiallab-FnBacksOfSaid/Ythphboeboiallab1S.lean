/-
  slices.Sort and slices.Compact at []int, by the library's contracts: a list of ints in order; each one once.
  Conditions: fewer than a thousand numbers.
-/
import Derived.Test.Ythphboeboiallab0U
import Derived.Test.Ythphboeboiallab1D
import Derived.Shelf.Sort.AssemblyIn
import Derived.Sort.EveryDepth
import Derived.Shelf.Slices.CompactI
import Derived.Lib.OwnBridge
import Derived.Shelf.Slices.In.SortNone
namespace Go.Proofs.Ythphboeboiallab
open Go.ChangeShapes Go.WideShapes Go.ChangeAt Go.RowKit
set_option linter.unusedVariables false
set_option maxRecDepth 4000

def renSo : Go.Shelf.Ren := ⟨fun | 125 => 81 | 128 => 92 | 129 => 93 | 189 => 68 | 215 => 99 | 216 => 89 | 257 => 80 | 294 => 83 | 295 => 84 | 296 => 85 | 297 => 86 | 298 => 87 | 299 => 88 | 300 => 90 | 301 => 91 | 328 => 94 | 329 => 95 | 330 => 96 | 331 => 97 | 332 => 98 | 343 => 100 | n => n, fun | 0 => 0 | 3 => 3 | 4 => 4 | 5 => 5 | 9 => 9 | 28 => 23 | 46 => 84 | 51 => 96 | 53 => 98 | 131 => 93 | 182 => 87 | 183 => 88 | 218 => 99 | 222 => 103 | 228 => 105 | 229 => 106 | n => n, fun n => n⟩
set_option maxRecDepth 1000000 in
theorem laysSo : Lays.n189 Try.prog renSo := {
  mixed := by kernel_rfl
  f125 := by kernel_rfl
  f128 := by kernel_rfl
  f129 := by kernel_rfl
  f189 := by kernel_rfl
  f215 := by kernel_rfl
  f216 := by kernel_rfl
  f257 := by kernel_rfl
  f294 := by kernel_rfl
  f295 := by kernel_rfl
  f296 := by kernel_rfl
  f297 := by kernel_rfl
  f298 := by kernel_rfl
  f299 := by kernel_rfl
  f300 := by kernel_rfl
  f301 := by kernel_rfl
  f328 := by kernel_rfl
  f329 := by kernel_rfl
  f330 := by kernel_rfl
  f331 := by kernel_rfl
  f332 := by kernel_rfl
  f343 := by kernel_rfl
  t0 := Try.underlying0
  a0 := Try.isAgg0
  z0 := Try.sizeOf0
  v0 := Try.zeroValue0
  t3 := Try.underlying3
  a3 := Try.isAgg3
  z3 := Try.sizeOf3
  v3 := Try.zeroValue3
  t4 := Try.underlying4
  a4 := Try.isAgg4
  z4 := Try.sizeOf4
  v4 := Try.zeroValue4
  t5 := Try.underlying5
  a5 := Try.isAgg5
  z5 := Try.sizeOf5
  v5 := Try.zeroValue5
  t9 := Try.underlying9
  a9 := Try.isAgg9
  z9 := Try.sizeOf9
  v9 := Try.zeroValue9
  t28 := Try.underlying23
  a28 := Try.isAgg23
  z28 := Try.sizeOf23
  v28 := Try.zeroValue23
  t46 := Try.underlying84
  a46 := Try.isAgg84
  z46 := Try.sizeOf84
  v46 := Try.zeroValue84
  t51 := Try.underlying96
  a51 := Try.isAgg96
  z51 := Try.sizeOf96
  v51 := Try.zeroValue96
  t53 := Try.underlying98
  a53 := Try.isAgg98
  z53 := Try.sizeOf98
  v53 := Try.zeroValue98
  t131 := Try.underlying93
  a131 := Try.isAgg93
  z131 := Try.sizeOf93
  v131 := Try.zeroValue93
  t182 := Try.underlying87
  a182 := Try.isAgg87
  z182 := Try.sizeOf87
  v182 := Try.zeroValue87
  t183 := Try.underlying88
  a183 := Try.isAgg88
  z183 := Try.sizeOf88
  v183 := Try.zeroValue88
  t218 := Try.underlying99
  a218 := Try.isAgg99
  z218 := Try.sizeOf99
  v218 := Try.zeroValue99
  t222 := Try.underlying103
  a222 := Try.isAgg103
  z222 := Try.sizeOf103
  v222 := Try.zeroValue103
  t228 := Try.underlying105
  a228 := Try.isAgg105
  z228 := Try.sizeOf105
  v228 := Try.zeroValue105
  t229 := Try.underlying106
  a229 := Try.isAgg106
  z229 := Try.sizeOf106
  v229 := Try.zeroValue106 }
def renCo : Go.Shelf.Ren := ⟨fun | 20 => 75 | n => n, fun | 0 => 0 | 3 => 3 | 4 => 4 | 22 => 23 | n => n, fun n => n⟩
theorem laysCo : Lays2.n20 Try.prog renCo := {
  mixed := by kernel_rfl
  f20 := by kernel_rfl
  t0 := Try.underlying0
  a0 := Try.isAgg0
  z0 := Try.sizeOf0
  v0 := Try.zeroValue0
  t3 := Try.underlying3
  a3 := Try.isAgg3
  z3 := Try.sizeOf3
  v3 := Try.zeroValue3
  t4 := Try.underlying4
  a4 := Try.isAgg4
  z4 := Try.sizeOf4
  v4 := Try.zeroValue4
  t22 := Try.underlying23
  a22 := Try.isAgg23
  z22 := Try.sizeOf23
  v22 := Try.zeroValue23
  i3 := by kernel_rfl }
theorem grow_grown (w : World) (os : Array Obj) (row : Option Nat) : w.grownBy (Go.Sort.grow w os) row := ⟨rfl, rfl, rfl, by rw [Go.Sort.size_grow]; exact Nat.le_add_right _ _, fun k hk _ => Go.Sort.heap_grow_old w os hk⟩
theorem put_grown (w : World) (q g : Nat) (d : Array Int) : w.grownBy (Go.Sort.putRow (Value.int .i64) (Go.Sort.ahead w q) g 0 d) (some g) :=
  ⟨rfl, rfl, rfl, by simp [Go.Sort.putRow, Go.Sort.mapBlock, Go.Sort.ahead], fun k hk hne => by
    have : g ≠ k := fun e => hne (by rw [e])
    simp [Go.Sort.putRow, Go.Sort.mapBlock, Go.Sort.ahead, Array.getElem?_modify, this]⟩
/-- What a call leaves that writes into one row of its own. -/
def RowW (B g c : Nat) (xs : List Int) (w w' : World) : Prop := Hid (w'.ownsRow B 3 1 (.slice (some ⟨g, 0, none⟩) xs.length c) xs.length (xs.map (Value.int .i64))) ∧ Hid (w.grownBy w' (some g))
theorem sortQ_any (B g n c : Nat) (xs : List Int) (w : World) (hown : w.ownsRow B 3 1 (.slice (some ⟨g, 0, none⟩) n c) n (xs.map (Value.int .i64))) (hn : xs.length = n) (hm : n ≤ 1000) :
    Calls Try.prog 68 #[.slice (some ⟨g, 0, none⟩) n c] w fun e w' => e = .returned (.tuple #[]) ∧ RowW B g c (srt xs) w w' := by
  obtain ⟨g', c', e, -, hg, -, -, -, hH⟩ := Go.Lib.holds_of_ownsRow hown (by intro e; cases e)
  injection e with e1 e2 e3
  injection e1 with e1
  injection e1 with e1
  subst e1 e3
  have h := calls_of_every_depth fun D => AnyS.slices_Sort_int_in laysSo D g 0 c xs w hH hg (by omega)
  rw [hn] at h
  refine h.mono ?_
  rintro e w' ⟨rfl, q, os, rfl⟩
  refine ⟨rfl, ?_, ?_⟩
  · have h1 := Go.Lib.ownsRow_putRow (q := q) (k := n) (ys := srt xs) hown (by rw [srt_len, hn]) (Nat.le_refl _)
    rw [List.take_of_length_le (by rw [srt_len, hn]; exact Nat.le_refl _)] at h1
    rw [srt_len, hn]
    exact World.ownsRow.kept h1 (grow_grown _ os none) (.inr (by intro e; cases e))
  · exact gb_trans (put_grown w q g _) (grow_grown _ os (some g)) (.inl rfl)
theorem sortQ_none (p : Option Addr) (c : Nat) (w : World) : Calls Try.prog 68 #[.slice p 0 c] w fun e w' => e = .returned (.tuple #[]) ∧ w' = w :=
  Any.slices_Sort_int_none laysSo p c w
def lsF : Option Int → List Int → Option Int
  | p, [] => p
  | _, a :: r => lsF (some a) r
theorem cmF_snoc : ∀ (p : Option Int) (xs : List Int) (y : Int), cmF p (xs ++ [y]) = cmF p xs ++ if lsF p xs = some y then [] else [y]
  | p, [], y => by
    simp only [List.nil_append, cmF, lsF]
    rfl
  | p, a :: r, y => by
    rw [List.cons_append, cmF, cmF, lsF]
    by_cases h : p = some a
    · rw [if_pos h, if_pos h, cmF_snoc p r y, h]
    · rw [if_neg h, if_neg h, cmF_snoc (some a) r y, List.cons_append]
theorem lsF_snoc : ∀ (p : Option Int) (xs : List Int) (y : Int), lsF p (xs ++ [y]) = some y
  | p, [], y => rfl
  | p, a :: r, y => lsF_snoc (some a) r y
theorem compactQ_up (zs : List Int) : ∀ m, m ≤ zs.length → Go.Lib.compactUpTo zs.toArray m = cmF none (zs.take m)
  | 0, _ => rfl
  | m + 1, hm => by
    have e : zs.take (m + 1) = zs.take m ++ [zs[m]'(by omega)] := List.take_succ_eq_append_getElem (by omega)
    rw [Go.Lib.compactUpTo_succ, compactQ_up zs m (by omega), e, cmF_snoc]
    congr 1
    clear e
    cases m with
    | zero =>
      have hz : (zs.toArray)[0]! = zs[0]'(by omega) := by simp [getElem!_pos, show 0 < zs.length by omega]
      rw [Go.Lib.keeps_lt_one _ 0 (by omega), hz]
      simp [lsF]
    | succ m =>
      have hz : (zs.toArray)[m + 1]! = zs[m + 1]'(by omega) := by simp [getElem!_pos, show m + 1 < zs.length by omega]
      have e2 : zs.take (m + 1) = zs.take m ++ [zs[m]'(by omega)] := List.take_succ_eq_append_getElem (by omega)
      have hz2 : (zs.toArray)[m + 1 - 1]! = zs[m]'(by omega) := by simp [getElem!_pos, show m < zs.length by omega]
      rw [e2, lsF_snoc]
      by_cases h : zs[m + 1]'(by omega) = zs[m]'(by omega)
      · have hk : Go.Lib.keeps zs.toArray (m + 1) = false := Go.Lib.keeps_neg (by omega) (by rw [hz, hz2]; exact h)
        rw [hk, if_neg (by simp), if_pos (by rw [h])]
      · have hk : Go.Lib.keeps zs.toArray (m + 1) = true := Go.Lib.keeps_pos (by rw [hz, hz2]; exact h)
        rw [hk, if_pos rfl, if_neg (by intro e; injection e with e; exact h e.symm), hz]
theorem compactQ (zs : List Int) : Go.Lib.compact zs = cmF none zs := by
  unfold Go.Lib.compact
  rw [compactQ_up zs _ (Nat.le_refl _), List.take_length]
theorem compactQ_any (B g n c : Nat) (xs : List Int) (w : World) (hown : w.ownsRow B 3 1 (.slice (some ⟨g, 0, none⟩) n c) n (xs.map (Value.int .i64))) (hn : xs.length = n) (hm : n ≤ 1000) :
    Calls Try.prog 75 #[.slice (some ⟨g, 0, none⟩) n c] w fun e w' => e = .returned (.slice (some ⟨g, 0, none⟩) (cmF none xs).length c) ∧ RowW B g c (cmF none xs) w w' := by
  obtain ⟨g', c', e, -, hg, hnc, -, -, hH⟩ := Go.Lib.holds_of_ownsRow hown (by intro e; cases e)
  injection e with e1 e2 e3
  injection e1 with e1
  injection e1 with e1
  subst e1 e3
  have h := Any.slices_Compact_int laysCo g 0 c xs w hH (by omega) (by omega)
  rw [hn, compactQ] at h
  refine h.mono ?_
  have hl := cmF_len none xs
  rintro e w' ⟨rfl, q, rfl⟩
  refine ⟨rfl, ?_, ?_⟩
  · have h1 := Go.Lib.ownsRow_putRow (q := q) (k := (cmF none xs).length) (ys := cmF none xs ++ List.replicate (n - (cmF none xs).length) 0) hown (by simp; omega) (by omega)
    rw [List.take_append_of_le_length (Nat.le_refl _), List.take_length] at h1
    exact h1
  · exact put_grown w q g _
end Go.Proofs.Ythphboeboiallab
