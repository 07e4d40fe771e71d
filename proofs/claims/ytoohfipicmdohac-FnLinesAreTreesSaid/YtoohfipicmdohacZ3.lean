/-
  Tables that are made whole first and filled row by row; a row's element changed.
  Conditions: none beyond what each theorem states.
  ValidTree: the program and the model answer the same.
  Conditions: fewer than 2^60 roads.
  areFolk: whether each number may be one of people; the search that it makes.
  Conditions: fewer than 2^60 numbers.
  validFolk: the program and the model answer the same.
  Conditions: fewer than 2^60 numbers.
  Slices of roads in the exact laws: how many there may be, their copy, their comparison.
  Conditions: the slice is shorter than 2^20 elements.
  A tree drawn, people drawn.
  Conditions: none beyond what each theorem states.
-/
import Derived.Test.YtoohfipicmdohacZ2
import Derived.Test.YtoohfipicmdohacZ1
import Derived.Test.YtoohfipicmdohacZ0
import Derived.OneCell
import Derived.Deep.RegionWith
namespace Go.Proofs.Ytoohfipicmdohac
open Go.ChangeShapes Go.WideShapes Go.ChangeAt Go.RowKit
set_option linter.unusedVariables false
set_option maxRecDepth 4000

def half (VR : Nat → Value) (k n : Nat) : List Value := (List.range n).map fun j => if j < k then VR j else .slice none 0 0
theorem half_get {VR : Nat → Value} {k n : Nat} {v : Value} (h : k < n) : (half VR k n).set k v = half (upd VR k v) (k + 1) n := by
  unfold half
  apply List.ext_getElem?
  intro i
  rw [List.getElem?_set]
  by_cases hi : i < n
  · by_cases e : k = i
    · subst e; simp [hi, upd_at]
    · by_cases hik : i < k
      · simp [hi, e, hik, upd_other VR v (fun h => e h.symm), show i < k + 1 by omega]
      · simp [hi, e, hik, show ¬ i < k + 1 by omega]
  · simp [hi]; omega
theorem half_all (VR : Nat → Value) (n : Nat) : half VR n n = (List.range n).map VR := List.map_congr_left fun i hi => if_pos (List.mem_range.1 hi)
theorem half_none (n : Nat) : (madeCells (Value.slice none 0 0).cells n).toList = half (fun _ => .slice none 0 0) 0 n := by
  rw [show (Value.slice none 0 0).cells = #[Value.slice none 0 0] from rfl, toList_madeCells_one]
  unfold half
  apply List.ext_getElem?
  intro i
  by_cases hi : i < n <;> simp [hi]
theorem ownN_base {w : World} {B B' n : Nat} {v : Value} {xs : List Value} (h : w.ownsRow B 3 1 v n xs) (hB : B' ≤ B) : w.ownsRow B' 3 1 v n xs := by
  obtain ⟨h1, h2⟩ := h
  refine ⟨h1, ?_⟩
  rcases h2 with h2 | ⟨g, cap, cur, hv, hg, r⟩
  · exact .inl h2
  · exact .inr ⟨g, cap, cur, hv, Nat.le_trans hB hg, r⟩
theorem ownG_base {w : World} {B B' n s : Nat} {e : TypeId} {v : Value} {xs : List Value} (h : w.ownsRow B e s v n xs) (hB : B' ≤ B) : w.ownsRow B' e s v n xs := by
  obtain ⟨h1, h2⟩ := h
  refine ⟨h1, ?_⟩
  rcases h2 with h2 | ⟨g, cap, cur, hv, hg, r⟩
  · exact .inl h2
  · exact .inr ⟨g, cap, cur, hv, Nat.le_trans hB hg, r⟩
theorem TT.base {w : World} {B B' m : Nat} {VR : Nat → Value} {ls : Nat → List Int} (h : TT w B m VR ls) (hB : B' ≤ B) : TT w B' m VR ls :=
  ⟨fun j hj => ownG_base (h.own j hj) hB, h.dis⟩
/-- A row stored into the table. -/
theorem tabH_step {wr wC : World} {B n k g : Nat} {VR : Nat → Value} {ls : Nat → List Int} {v : Value} (hk : k < n) (hB : B ≤ wr.heap.size) (hT : TT wr B k VR ls) (hO : wr.ownsRow B 23 1 (.slice (some ⟨g, 0, none⟩) n n) n (half VR k n))
    (hb : Below wr.heap.size wr wC) (hrow : wC.ownsRow wr.heap.size 3 1 v (ls k).length ((ls k).map (Value.int .i64))) :
    (∃ x, wC.cell? ⟨g, k, none⟩ = some x) ∧ wC.frozen? ⟨g, k, none⟩ = false ∧ (wC.setCell ⟨g, k, none⟩ v).ownsRow B 23 1 (.slice (some ⟨g, 0, none⟩) n n) n (half (upd VR k v) (k + 1) n) ∧
      TT (wC.setCell ⟨g, k, none⟩ v) B (k + 1) (upd VR k v) ls ∧ B ≤ g := by
  have hOC := ownN_below hO hb
  have hTC := hT.below hb
  obtain ⟨x, hx⟩ := own_cell hOC (j := k) (by omega) (by simp [half])
  obtain ⟨⟨cs, hc⟩, hgB, _⟩ := own_heap hOC (g := g) rfl
  have hst := (hOC.stored k v).1
  rw [half_get hk] at hst
  have hrow2 : (wC.setCell ⟨g, k, none⟩ v).ownsRow B 3 1 v (ls k).length ((ls k).map (Value.int .i64)) := ownN_base (ownsRow_setCell_other hrow (fun e => by
    obtain ⟨⟨cs', hc'⟩, _⟩ := own_heap hrow e
    exact types_apart hc hc' (by decide) rfl) _) hB
  refine ⟨⟨x, hx⟩, hOC.frozenAt k, hst, ⟨fun j hj => ?_, fun i j g' hi hj h1 h2 => ?_⟩, hgB⟩
  · by_cases e : j = k
    · subst e
      rw [upd_at]
      exact hrow2
    · rw [upd_other _ _ e]
      exact (hTC.store (g := g) (k := k) (v := v) hc (by decide)).own j (by omega)
  · have hlt : ∀ {i}, i < k → (VR i).ownBlock = some g' → g' < wr.heap.size := fun hi e => (own_heap (hT.own _ hi) e).2.2
    by_cases e1 : i = k <;> by_cases e2 : j = k
    · omega
    · rw [e1, upd_at] at h1; rw [upd_other _ _ e2] at h2
      have := (own_heap hrow h1).2.1
      have := hlt (by omega) h2; omega
    · rw [e2, upd_at] at h2; rw [upd_other _ _ e1] at h1
      have := (own_heap hrow h2).2.1
      have := hlt (by omega) h1; omega
    · rw [upd_other _ _ e1] at h1; rw [upd_other _ _ e2] at h2
      exact hT.dis i j g' (by omega) (by omega) h1 h2
/-- A row's element changed. -/
theorem TT.setAt {w : World} {B m R c n j : Nat} {VR : Nat → Value} {ls : Nat → List Int} (hT : TT w B m VR ls) (hj : j < m) (hl : (ls j).length = n) (he : VR j = .slice (some ⟨R, 0, none⟩) n c) (b : Nat) (x : Int) :
    TT (w.setCell ⟨R, b, none⟩ (.int .i64 x)) B m VR (upd ls j ((ls j).set b x)) ∧ B ≤ R := by
  have h1 := hT.own j hj
  rw [he, hl] at h1
  obtain ⟨⟨cs, hcs⟩, hB, -⟩ := own_heap h1 (g := R) rfl
  refine ⟨⟨fun i hi => ?_, hT.dis⟩, hB⟩
  by_cases e : i = j
  · subst e
    have h2 := (World.ownsRow.stored h1 b (.int .i64 x)).1
    rw [upd_at, he, List.length_set, hl]
    rw [← List.map_set] at h2
    exact h2
  · rw [upd_other _ _ e]
    exact ownsRow_setCell_other (hT.own i hi) (fun e' => e (hT.dis i j R hi hj e' (by rw [he]; rfl))) _
/-- The table itself is not touched by that. -/
theorem outer_setInt {w : World} {B n R b : Nat} {v : Value} {xs : List Value} {u : Value} (hO : w.ownsRow B 23 1 v n xs) {cs : Array Value} {z : Nat × Nat} (hR : w.heap[R]? = some (.cells cs 3 z)) : (w.setCell ⟨R, b, none⟩ u).ownsRow B 23 1 v n xs :=
  ownsRow_setCell_other hO (fun e => by
    obtain ⟨⟨cs', hc'⟩, _⟩ := own_heap hO e
    exact types_apart hR hc' (by decide) rfl) _
end Go.Proofs.Ytoohfipicmdohac
namespace Go.Proofs.Ytoohfipicmdohac
open Go.ChangeShapes Go.WideShapes Go.ChangeAt Go.RowKit
set_option linter.unusedVariables false

theorem branch_eq {b off c k : Nat} : (if c = k then (some ⟨b, off, none⟩ : Option Addr) else some ⟨b, off + k * 2, none⟩) = some ⟨b, (if c = k then off else off + k * 2), none⟩ := by split <;> rfl

set_option maxHeartbeats 800000 in
theorem iValidTree_any (A : Option Addr) (c n : Nat) (ts : List (Int × Int)) (w : World) (B : Nat) (hr : RdR w B A ts) (hn : ts.length = n) (hc : n ≤ c) (hb : n ≤ 1152921504606846976) (hB : B ≤ w.heap.size) :
    Calls Try.prog 27 #[.slice A n c] w fun e w' => e = .returned (.bool (vt ts)) ∧ Below w.heap.size w w' := by
  by_cases h0 : n < 1
  · have Hs := Lib.hid (vt_no_len (ts := ts) (by omega))
    clear hn
    go_enter Try.func27, Try.ntmps27
    go_wp2
    go_ret
    exact ⟨ret_bool Hs.out.symm, Below.refl _ _⟩
  by_cases h7 : 7 < n
  · have Hs := Lib.hid (vt_no_len (ts := ts) (by omega))
    clear hn
    go_enter Try.func27, Try.ntmps27
    go_wp2
    go_ret
    exact ⟨ret_bool Hs.out.symm, Below.refl _ _⟩
  have Hn := Lib.hid hn
  obtain ⟨b, off, x, y, rfl, hbw, Hx, hcx, hcy⟩ := hr.x (k := 0) (by omega)
  clear hn
  simp only [Nat.zero_mul, Nat.add_zero] at hcx hcy
  by_cases hx : x = -1
  rotate_left
  · have Hs := Lib.hid (vt_no_head Hx.out (Or.inl hx))
    have hx1 : (x != -1) = true := by rw [bne_iff_ne]; exact hx
    go_enter Try.func27, Try.ntmps27
    go_wp2
    go_ret
    exact ⟨ret_bool Hs.out.symm, Below.refl _ _⟩
  subst hx
  by_cases hy : y = 0
  rotate_left
  · have Hs := Lib.hid (vt_no_head Hx.out (Or.inr hy))
    have hx1 : (y != 0) = true := by rw [bne_iff_ne]; exact hy
    go_enter Try.func27, Try.ntmps27
    go_wp2
    go_ret
    exact ⟨ret_bool Hs.out.symm, Below.refl _ _⟩
  subst hy
  by_cases hc1 : c = 1
  · subst hc1
    have hn1 : n = 1 := by omega
    subst hn1
    have Hs := Lib.hid (vt_yes (OkT.one ts) (by rw [Hn.out]; omega) (by rw [Hn.out]; omega) (by rw [Hn.out]; omega) Hx.out)
    go_enter Try.func27, Try.ntmps27
    go_wp2
    go_loopw [30] (fun i wr => i = .int .i64 0 ∧ wr = w) (fun _ _ => 0)
    case atStart => exact ⟨rfl, rfl⟩
    case round =>
      obtain ⟨rfl, rfl⟩ := hrel
      go_wp2
      go_ret
      exact ⟨ret_bool Hs.out.symm, Below.refl _ _⟩
  go_enter Try.func27, Try.ntmps27
  go_wp2
  go_loopw [30] (fun i wr => ∃ k : Nat, k < n ∧ i = .int .i64 k ∧ Hid (OkT ts (k + 1)) ∧ Below w.heap.size w wr) (fun i _ => n - (intOf i).toNat)
  case atStart => exact ⟨0, by omega, rfl, OkT.one ts, Below.refl _ _⟩
  case round =>
    obtain ⟨k, hk, rfl, Ho, hnx⟩ := hrel
    by_cases hlt : k + 1 < n
    · have hlt' : k < n - 1 := by omega
      obtain ⟨b', off', x, y, e, -, Hx', hcx', hcy'⟩ := (hr.below (hnx.mono hB)).x (k := k + 1) (by rw [Hn.out]; omega)
      cases e
      rw [show off + (k + 1) * 2 = off + 2 + k * 2 by omega] at hcx' hcy'
      by_cases h1 : x < 0 ∨ (k : Int) < x ∨ y < 1 ∨ 9 < y
      · have Hs := Lib.hid (vt_no_at (k := k + 1) (by omega) (by rw [Hn.out]; omega) Hx'.out (by omega))
        by_cases g1 : x < 0
        · go_wp2
          go_ret
          exact ⟨ret_bool Hs.out.symm, hnx.alloc hnx.size _⟩
        by_cases g2 : (k : Int) < x
        · go_wp2
          go_ret
          exact ⟨ret_bool Hs.out.symm, hnx.alloc hnx.size _⟩
        by_cases g3 : y < 1
        · go_wp2
          go_ret
          exact ⟨ret_bool Hs.out.symm, hnx.alloc hnx.size _⟩
        · go_wp2
          go_ret
          exact ⟨ret_bool Hs.out.symm, hnx.alloc hnx.size _⟩
      · have g1 : 0 ≤ x := by omega
        have g2 : x ≤ k := by omega
        have g3 : 1 ≤ y := by omega
        have g4 : y ≤ 9 := by omega
        have Hs := Lib.hid (OkT.step Ho.out Hx'.out g1 (by omega) g3 g4)
        go_wp2
        go_roundw
        case rel => exact ⟨k + 1, by omega, by go_num, Hs, hnx.alloc hnx.size _⟩
        case measure => simp [intOf]; omega
    · have Hs := Lib.hid (vt_yes Ho.out (by rw [Hn.out]; omega) (by rw [Hn.out]; omega) (by rw [Hn.out]; omega) Hx.out)
      have hlt' : ¬ k < n - 1 := by omega
      go_wp2
      go_ret
      exact ⟨ret_bool Hs.out.symm, hnx⟩

set_option maxHeartbeats 800000 in
theorem sValidTree_in (A : Option Addr) (c n : Nat) (ts : List (Int × Int)) (w : World) (B : Nat) (hr : RdR w B A ts) (hn : ts.length = n) (hb : n ≤ 1152921504606846976) :
    Calls Try.prog 53 #[.slice A n c] w fun e w' => e = .returned (.bool (vt ts)) ∧ w = w' := by
  by_cases h0 : n < 1 ∨ 7 < n
  · have Hs := Lib.hid (vt_no_len (ts := ts) (by omega))
    clear hn
    go_enter Try.func53, Try.ntmps53
    go_wp2_with fail
    refine (inRange_no _ _ _ w (by omega)).mono ?_
    rintro e w' ⟨rfl, rfl⟩
    go_wp2
    go_ret
    exact ⟨ret_bool Hs.out.symm, rfl⟩
  have Hn := Lib.hid hn
  clear hn
  go_enter Try.func53, Try.ntmps53
  go_wp2_with fail
  refine (inRange_yes _ _ _ w (by omega) (by omega)).mono ?_
  rintro e w' ⟨rfl, rfl⟩
  go_wp2
  go_loop [3] (fun i => ∃ k : Nat, k ≤ n ∧ i = .int .i64 k ∧ Hid (OkT ts k ∧ (1 ≤ k → ts.getD 0 (-1, 0) = (-1, 0)))) (fun i => n - (intOf i).toNat)
  case atStart => exact ⟨0, by omega, rfl, fun i h1 h2 => by omega, by omega⟩
  case round =>
    obtain ⟨k, hk, rfl, Ho⟩ := hrel
    by_cases hlt : k < n
    · obtain ⟨b, off, x, y, rfl, -, Hx, hcx, hcy⟩ := hr.x (k := k) (by rw [Hn.out]; omega)
      by_cases hk0 : k = 0
      · subst hk0
        simp only [Nat.zero_mul, Nat.add_zero] at hcx hcy
        by_cases h1 : x = -1 ∧ y = 0
        · obtain ⟨rfl, rfl⟩ := h1
          go_wp2
          go_round
          case rel => exact ⟨1, by omega, by go_num, OkT.one ts, fun _ => Hx.out⟩
          case measure => simp [intOf]; omega
        · have Hs := Lib.hid (vt_no_head Hx.out (by omega))
          go_wp2
          all_goals
            go_ret
            exact ⟨ret_bool Hs.out.symm, rfl⟩
      · by_cases h1 : x < 0 ∨ (k : Int) ≤ x
        · have Hs := Lib.hid (vt_no_at (k := k) (by omega) (by rw [Hn.out]; omega) Hx.out (by omega))
          go_wp2_with fail
          refine (inRange_no _ _ _ w (by omega)).mono ?_
          rintro e w' ⟨rfl, rfl⟩
          go_wp2
          go_ret
          exact ⟨ret_bool Hs.out.symm, rfl⟩
        by_cases h2 : y < 1 ∨ 9 < y
        · have Hs := Lib.hid (vt_no_at (k := k) (by omega) (by rw [Hn.out]; omega) Hx.out (by omega))
          go_wp2_with fail
          refine (inRange_yes _ _ _ w (by omega) (by omega)).mono ?_
          rintro e w' ⟨rfl, rfl⟩
          go_wp2_with fail
          refine (inRange_no _ _ _ w (by omega)).mono ?_
          rintro e w' ⟨rfl, rfl⟩
          go_wp2
          go_ret
          exact ⟨ret_bool Hs.out.symm, rfl⟩
        · have Hs := Lib.hid (OkT.step Ho.out.1 Hx.out (by omega) (by omega) (by omega) (by omega))
          go_wp2_with fail
          refine (inRange_yes _ _ _ w (by omega) (by omega)).mono ?_
          rintro e w' ⟨rfl, rfl⟩
          go_wp2_with fail
          refine (inRange_yes _ _ _ w (by omega) (by omega)).mono ?_
          rintro e w' ⟨rfl, rfl⟩
          go_wp2
          go_round
          case rel => exact ⟨k + 1, by omega, by go_num, Hs.out, fun _ => Ho.out.2 (by omega)⟩
          case measure => simp [intOf]; omega
    · have Hs := Lib.hid (vt_yes Ho.out.1 (by rw [Hn.out]; omega) (by rw [Hn.out]; omega) (by rw [Hn.out]; omega) (Ho.out.2 (by omega)))
      go_wp2
      go_ret
      exact ⟨ret_bool Hs.out.symm, rfl⟩
theorem sValidTree_any (A : Option Addr) (c n : Nat) (ts : List (Int × Int)) (w : World) (B : Nat) (hr : RdR w B A ts) (hn : ts.length = n) (hb : n ≤ 1152921504606846976) :
    Calls Try.prog 25 #[.slice A n c] w fun e w' => e = .returned (.bool (vt ts)) ∧ w = w' := by
  go_enter Try.func25, Try.ntmps25
  go_wp2_with fail
  refine (sValidTree_in A c n ts w B hr hn hb).mono ?_
  rintro e w' ⟨rfl, rfl⟩
  go_wp2
  go_ret
  exact ⟨rfl, rfl⟩
end Go.Proofs.Ytoohfipicmdohac
namespace Go.Proofs.Ytoohfipicmdohac
open Go.ChangeShapes Go.WideShapes Go.ChangeAt Go.RowKit
set_option linter.unusedVariables false
set_option maxRecDepth 4000

def okF (fs : List Int) : Bool := fs.all fun x => decide (0 ≤ x) && decide (x ≤ 20)
theorem okF_iff {fs : List Int} : okF fs = true ↔ ∀ i, i < fs.length → 0 ≤ fs.getD i 0 ∧ fs.getD i 0 ≤ 20 := by
  unfold okF
  rw [List.all_eq_true]
  constructor
  · intro h i hi
    have := h (fs.getD i 0) (by simp [List.getD, List.getElem?_eq_getElem hi])
    simpa using this
  · intro h x hx
    obtain ⟨i, hi, rfl⟩ := List.getElem_of_mem hx
    have := h i hi
    simp only [List.getD, List.getElem?_eq_getElem hi, Option.getD_some] at this
    simpa using this
theorem okF_no {fs : List Int} {k : Nat} {x : Int} (hk : k < fs.length) (hx : fs.getD k 0 = x) (h : x < 0 ∨ 20 < x) : okF fs = false := by
  rw [Bool.eq_false_iff]; intro h'
  have := okF_iff.1 h' k hk
  rw [hx] at this; omega
def FineTo (fs : List Int) (k : Nat) : Prop := ∀ i, i < k → 0 ≤ fs.getD i 0 ∧ fs.getD i 0 ≤ 20
theorem FineTo.step {fs : List Int} {k : Nat} {x : Int} (h : FineTo fs k) (hx : fs.getD k 0 = x) (h1 : 0 ≤ x) (h2 : x ≤ 20) : FineTo fs (k + 1) := fun i hi => by
  by_cases e : i = k
  · rw [e, hx]; exact ⟨h1, h2⟩
  · exact h i (by omega)
theorem FineTo.end_ {fs : List Int} {k : Nat} (h : FineTo fs k) (hk : fs.length ≤ k) : okF fs = true := okF_iff.2 fun i hi => h i (by omega)

theorem folk1_any (x : Int) (w : World) : Calls Try.prog 68 #[.int .i64 x] w fun e w' => e = .returned (.bool (decide (x < 0) || decide (20 < x))) ∧ w = w' := by
  by_cases h1 : x < 0 <;> by_cases h2 : 20 < x
  all_goals
    go_enter Try.func68, Try.ntmps68
    go_wp2
    go_ret
    exact ⟨ret_bool (by simp [h1, h2]), rfl⟩
theorem folk1_yes (x : Int) (w : World) (h : x < 0 ∨ 20 < x) : Calls Try.prog 68 #[.int .i64 x] w fun e w' => e = .returned (.bool true) ∧ w = w' :=
  (folk1_any x w).mono fun _ _ ⟨he, hw⟩ => ⟨by rw [he]; rcases h with h | h <;> simp [h], hw⟩
theorem folk1_no (x : Int) (w : World) (h1 : 0 ≤ x) (h2 : x ≤ 20) : Calls Try.prog 68 #[.int .i64 x] w fun e w' => e = .returned (.bool false) ∧ w = w' :=
  (folk1_any x w).mono fun _ _ ⟨he, hw⟩ => ⟨by rw [he]; simp; omega, hw⟩

def FolkIdx (fs : List Int) (w : World) (e : Ending) (w' : World) : Prop := ∃ r : Int, e = .returned (.int .i64 r) ∧ (okF fs = true → r = -1) ∧ (okF fs = false → 0 ≤ r) ∧ w = w'
set_option maxHeartbeats 800000 in
theorem indexFolk_any (A : Option Addr) (c n : Nat) (fs : List Int) (w : World) (B : Nat) (hr : RdI w B A fs) (hn : fs.length = n) (hb : n ≤ 1152921504606846976) :
    Calls Try.prog 69 #[.slice A n c, .func (.func 68) #[] #[]] w (FolkIdx fs w) := by
  have Hn := Lib.hid hn
  clear hn
  go_enter Try.func69, Try.ntmps69
  go_wp2
  go_loop [8] (fun i => ∃ k : Nat, k ≤ n ∧ i = .int .i64 k ∧ Hid (FineTo fs k)) (fun i => n - (intOf i).toNat)
  case atStart => exact ⟨0, by omega, rfl, fun i hi => by omega⟩
  case round =>
    obtain ⟨k, hk, rfl, Ho⟩ := hrel
    by_cases hlt : k < n
    · obtain ⟨b, off, x, rfl, -, Hx, hcx⟩ := hr.x (k := k) (by rw [Hn.out]; omega)
      by_cases h1 : x < 0 ∨ 20 < x
      · have Hs := Lib.hid (okF_no (by rw [Hn.out]; exact hlt) Hx.out h1)
        have Hf := Lib.hid (folk1_yes x w h1)
        clear h1
        go_wp2_with fail
        refine Hf.out.mono ?_
        rintro e w' ⟨rfl, rfl⟩
        go_wp2
        go_ret
        exact ⟨_, rfl, fun h => absurd (Hs.out.symm.trans h) (by decide), fun _ => by omega, rfl⟩
      · have Hs := Lib.hid (Ho.out.step Hx.out (by omega) (by omega))
        have Hf := Lib.hid (folk1_no x w (by omega) (by omega))
        clear h1
        go_wp2_with fail
        refine Hf.out.mono ?_
        rintro e w' ⟨rfl, rfl⟩
        go_wp2
        go_round
        case rel => exact ⟨k + 1, by omega, by go_num, Hs⟩
        case measure => simp [intOf]; omega
    · have Hs := Lib.hid (Ho.out.end_ (by rw [Hn.out]; omega))
      go_wp2
      go_ret
      exact ⟨_, rfl, fun _ => rfl, fun h => absurd (Hs.out.symm.trans h) (by decide), rfl⟩
theorem containsFolk_any (A : Option Addr) (c n : Nat) (fs : List Int) (w : World) (B : Nat) (hr : RdI w B A fs) (hn : fs.length = n) (hb : n ≤ 1152921504606846976) :
    Calls Try.prog 67 #[.slice A n c, .func (.func 68) #[] #[]] w fun e w' => e = .returned (.bool (!(okF fs))) ∧ w = w' := by
  have H := Lib.hid (indexFolk_any A c n fs w B hr hn hb)
  clear hn hr
  go_enter Try.func67, Try.ntmps67
  go_wp2_with fail
  refine H.out.mono ?_
  rintro e w' ⟨r, rfl, h1, h2, rfl⟩
  by_cases hf : okF fs = true
  · have := h1 hf
    subst this
    have Hf := Lib.hid hf
    clear h1 h2 hf
    go_wp2
    go_ret
    exact ⟨ret_bool (by rw [Hf.out]; rfl), rfl⟩
  · have hf' : okF fs = false := by simpa using hf
    have hr0 := h2 hf'
    have Hf := Lib.hid hf'
    clear h1 h2 hf hf'
    go_wp2
    go_ret
    exact ⟨ret_bool (by rw [Hf.out]; simp), rfl⟩
theorem areFolk_any (A : Option Addr) (c n : Nat) (fs : List Int) (w : World) (B : Nat) (hr : RdI w B A fs) (hn : fs.length = n) (hb : n ≤ 1152921504606846976) :
    Calls Try.prog 62 #[.slice A n c] w fun e w' => e = .returned (.bool (okF fs)) ∧ w = w' := by
  have H := Lib.hid (containsFolk_any A c n fs w B hr hn hb)
  clear hr hn
  go_enter Try.func62, Try.ntmps62
  go_wp2_with fail
  refine H.out.mono ?_
  rintro e w' ⟨rfl, rfl⟩
  go_wp2
  go_ret
  exact ⟨ret_bool (by simp), rfl⟩
end Go.Proofs.Ytoohfipicmdohac
namespace Go.Proofs.Ytoohfipicmdohac
open Go.ChangeShapes Go.WideShapes Go.ChangeAt Go.RowKit
set_option linter.unusedVariables false
set_option maxRecDepth 4000

def fk (n : Nat) (fs : List Int) : Bool := decide (fs.length = n) && okF fs
theorem iValidFolk_any (A A' : Option Addr) (c c' n m : Nat) (fs : List Int) (w : World) (B : Nat) (hr : RdI w B A fs) (hn : fs.length = n) (hb : n ≤ 1152921504606846976) :
    Calls Try.prog 49 #[.slice A' m c', .slice A n c] w fun e w' => e = .returned (.bool (fk m fs)) ∧ w = w' := by
  by_cases hnm : n = m
  · have H := Lib.hid (areFolk_any A c n fs w B hr hn hb)
    have hfk : fk m fs = okF fs := by unfold fk; simp [hn, hnm]
    rw [hfk]
    have hb1 : ((n : Int) == (m : Int)) = true := by rw [beq_iff_eq]; omega
    clear hr hn hfk hnm
    go_enter Try.func49, Try.ntmps49
    go_wp2_with fail
    refine H.out.mono ?_
    rintro e w' ⟨rfl, rfl⟩
    go_wp2
    go_ret
    exact ⟨ret_bool (by simp), rfl⟩
  · have hfk : fk m fs = false := by unfold fk; simp [hn, hnm]
    rw [hfk]
    have hb1 : ((n : Int) == (m : Int)) = false := by rw [beq_eq_false_iff_ne]; omega
    clear hr hn hfk hnm
    go_enter Try.func49, Try.ntmps49
    go_wp2
    go_ret
    exact ⟨ret_bool rfl, rfl⟩
set_option maxHeartbeats 800000 in
theorem sValidFolk_any (A : Option Addr) (c n m : Nat) (fs : List Int) (w : World) (B : Nat) (hr : RdI w B A fs) (hn : fs.length = n) (hb : n ≤ 1152921504606846976) :
    Calls Try.prog 54 #[.int .i64 m, .slice A n c] w fun e w' => e = .returned (.bool (fk m fs)) ∧ w = w' := by
  have Hn := Lib.hid hn
  clear hn
  go_enter Try.func54, Try.ntmps54
  go_wp2
  go_loop [5] (fun i => ∃ k : Nat, k ≤ n ∧ i = .int .i64 k ∧ Hid (FineTo fs k)) (fun i => n - (intOf i).toNat)
  case atStart => exact ⟨0, by omega, rfl, fun i hi => by omega⟩
  case round =>
    obtain ⟨k, hk, rfl, Ho⟩ := hrel
    by_cases hlt : k < n
    · obtain ⟨b, off, x, rfl, -, Hx, hcx⟩ := hr.x (k := k) (by rw [Hn.out]; omega)
      by_cases h1 : x < 0 ∨ 20 < x
      · have Hs := Lib.hid (show fk m fs = false by unfold fk; rw [okF_no (by rw [Hn.out]; exact hlt) Hx.out h1]; simp)
        go_wp2_with fail
        refine (inRange_no _ _ _ w h1).mono ?_
        rintro e w' ⟨rfl, rfl⟩
        go_wp2
        go_ret
        exact ⟨ret_bool Hs.out.symm, rfl⟩
      · have Hs := Lib.hid (Ho.out.step Hx.out (by omega) (by omega))
        go_wp2_with fail
        refine (inRange_yes _ _ _ w (by omega) (by omega)).mono ?_
        rintro e w' ⟨rfl, rfl⟩
        go_wp2
        go_round
        case rel => exact ⟨k + 1, by omega, by go_num, Hs⟩
        case measure => simp [intOf]; omega
    · have Hs := Lib.hid (Ho.out.end_ (by rw [Hn.out]; omega))
      have Hf : Hid (decide ((n : Int) = (m : Int)) = fk m fs) := by
        show decide ((n : Int) = (m : Int)) = fk m fs
        unfold fk; rw [Hs.out, Hn.out]
        by_cases h : n = m <;> simp [h]
        omega
      go_wp2
      go_ret
      refine ⟨ret_bool ?_, rfl⟩
      rw [← Hf.out]
      rfl
end Go.Proofs.Ytoohfipicmdohac
namespace Go.Proofs.Ytoohfipicmdohac
open Go.ChangeShapes Go.WideShapes Go.ChangeAt Go.RowKit
set_option linter.unusedVariables false

theorem szR_any (A : Option Addr) (c n : Nat) (left : Int) (w : World) (hn : n ≤ 9223372036854775807) (hl : 0 ≤ left ∧ left ≤ 1048576) :
    Calls Try.prog 24 #[.slice A n c, .int .i64 left] w fun e w' => e = .returned (.int .i64 (if left < n then -1 else left - n)) ∧ w = w' := by
  by_cases h : left < n
  · have h' : left - n < 0 := by omega
    rw [if_pos h]
    go_enter Try.func24, Try.ntmps24
    go_wp2
    go_ret
    exact ⟨rfl, rfl⟩
  · have h' : ¬ left - n < 0 := by omega
    rw [if_neg h]
    go_enter Try.func24, Try.ntmps24
    go_wp2
    go_ret
    exact ⟨rfl, rfl⟩

theorem toRoad_any (x y : Int) (w : World) :
    Calls Try.prog 57 #[.agg #[.int .i64 x, .int .i64 y]] w fun e w' => e = .returned (.agg #[.int .i64 x, .int .i64 y]) ∧ Below w.heap.size w w' := by
  go_enter Try.func57, Try.ntmps57
  go_wp2
  exact bodyPost_ret (v := .agg #[.int .i64 x, .int .i64 y]) (by simp [results, Try.results57, go_sem]) rfl ⟨rfl, (((Below.refl _ _).alloc (Nat.le_refl _) _).alloc (by simp [go_sem]) _).alloc (by simp [go_sem]; omega) _⟩

theorem eqRoad_any (x y x' y' : Int) (w : World) :
    Calls Try.prog 58 #[.agg #[.int .i64 x, .int .i64 y], .agg #[.int .i64 x', .int .i64 y']] w fun e w' => e = .returned (.bool (decide (x = x') && decide (y = y'))) ∧ Below w.heap.size w w' := by
  by_cases h1 : x = x' <;> by_cases h2 : y = y'
  all_goals
    have g1 : (x != x') = !(decide (x = x')) := by by_cases h : x = x' <;> simp [h]
    have g2 : (y != y') = !(decide (y = y')) := by by_cases h : y = y' <;> simp [h]
    simp only [h1, h2, decide_true, decide_false, Bool.not_true, Bool.not_false] at g1 g2
    go_enter Try.func58, Try.ntmps58
    go_wp2
    go_ret
    exact ⟨ret_bool (by simp [h1, h2]), ((Below.refl _ _).alloc (Nat.le_refl _) _).alloc (by simp [go_sem]) _⟩

theorem eqRoad_yes (x y x' y' : Int) (w : World) (h1 : x = x') (h2 : y = y') :
    Calls Try.prog 58 #[.agg #[.int .i64 x, .int .i64 y], .agg #[.int .i64 x', .int .i64 y']] w fun e w' => e = .returned (.bool true) ∧ Below w.heap.size w w' :=
  (eqRoad_any x y x' y' w).mono fun _ _ ⟨he, hw⟩ => ⟨by rw [he]; simp [h1, h2], hw⟩
theorem eqRoad_no (x y x' y' : Int) (w : World) (h : x ≠ x' ∨ y ≠ y') :
    Calls Try.prog 58 #[.agg #[.int .i64 x, .int .i64 y], .agg #[.int .i64 x', .int .i64 y']] w fun e w' => e = .returned (.bool false) ∧ Below w.heap.size w w' :=
  (eqRoad_any x y x' y' w).mono fun _ _ ⟨he, hw⟩ => ⟨by rw [he]; rcases h with h | h <;> simp [h], hw⟩
/-- A copy of roads in a new block. -/
def CopiedR (w : World) (ts : List (Int × Int)) (e : Ending) (w' : World) : Prop :=
  ∃ b, e = .returned (.slice (some ⟨b, 0, none⟩) ts.length ts.length) ∧ w.heap.size ≤ b ∧ RdR w' w'.heap.size (some ⟨b, 0, none⟩) ts ∧ Below w.heap.size w w' ∧ w'.ownsRow w.heap.size 34 2 (.slice (some ⟨b, 0, none⟩) ts.length ts.length) ts.length ((flat ts).map (Value.int .i64))
theorem roadInfo : (Try.prog.info? 34).map (fun i => (i.zero, i.size, i.bytes)) = some (some (.agg #[.int .i64 0, .int .i64 0]), 2, 16) := by kernel_rfl
theorem made_two (n : Nat) : (madeCells (Value.agg #[.int .i64 0, .int .i64 0]).cells (n * 2)).toList = List.replicate (n * 2) (Value.int .i64 0) := by
  apply List.ext_getElem?
  intro j
  by_cases hj : j < n * 2
  · have h2 : j % 2 = 0 ∨ j % 2 = 1 := by omega
    rcases h2 with h2 | h2 <;> simp [madeCells, Value.cells, hj, h2]
  · simp [madeCells, hj]
set_option maxHeartbeats 400000 in
theorem toR_any (A : Option Addr) (c : Nat) (n : Nat) (ts : List (Int × Int)) (w : World) (hr : RdR w w.heap.size A ts) (hn : ts.length = n) (hb : n ≤ 1048576) :
    Calls Try.prog 26 #[.slice A n c] w (CopiedR w ts) := by
  obtain ⟨i0, hi0, hz0, hz1, hz2⟩ := info_parts roadInfo
  have Hn := Lib.hid hn
  have HL := Lib.hid (show (flat ts).length = n * 2 by rw [flat_len, hn])
  clear hn
  go_enter Try.func26, Try.ntmps26
  go_wp2_with (at_make; refine wpList_make_full _ rfl _ _ 35 rfl w.heap.size 34 i0 _ 2 Try.underlying35 hi0 hz0 hz1 _ _ _ _ n rfl rfl rfl rfl (by rw [hz2]; omega) (by unfold maxLen; omega) (Nat.le_refl _) ?_; intro w1 hown1 hg1)
  have hs1 : w.heap.size < w1.heap.size := (hown1.lt w.heap.size rfl).2
  have hnx1 : Below w.heap.size w w1 := (Below.refl _ _).grown hg1 (Nat.le_refl _) (fun j hj => by cases hj)
  rw [made_two] at hown1
  go_loopw [4] (fun i wr => ∃ k : Nat, k ≤ n ∧ i = .int .i64 k ∧ wr.ownsRow w.heap.size 34 2 (.slice (some ⟨w.heap.size, 0, none⟩) n n) n (fillL (flat ts) (k * 2)) ∧ Below w.heap.size w wr)
    (fun i _ => n - (intOf i).toNat)
  case atStart => exact ⟨0, Nat.zero_le _, rfl, by simpa [fillL, HL.out] using hown1, hnx1⟩
  case round =>
    obtain ⟨k, hk, rfl, hown, hnx⟩ := hrel
    by_cases hlt : k < n
    · obtain ⟨b, off, x, y, rfl, hbw, Hx, hcx, hcy⟩ := (hr.below hnx).x (k := k) (by rw [Hn.out]; exact hlt)
      go_wp2_with fail
      refine (toRoad_any x y wr).mono ?_
      rintro e wr2 ⟨rfl, hnx2⟩
      have hnx3 := hnx.trans (hnx2.mono hnx.size)
      have hown2 : wr2.ownsRow w.heap.size 34 2 (.slice (some ⟨w.heap.size, 0, none⟩) n n) n (fillL (flat ts) (k * 2)) := ownN_below hown hnx2
      obtain ⟨v1, hv1⟩ := own_cell hown2 (j := k * 2) (by omega) (by rw [fillL_len _ (by rw [HL.out]; omega)]; exact HL.out)
      obtain ⟨v2, hv2⟩ := own_cell hown2 (j := k * 2 + 1) (by omega) (by rw [fillL_len _ (by rw [HL.out]; omega)]; exact HL.out)
      have hf1 := hown2.frozenAt (k * 2)
      have hf2 := hown2.frozenAt (k * 2 + 1)
      have HS := Lib.hid (fill_step (by rw [HL.out]; omega) (fill_step (by rw [HL.out]; omega) hown2))
      have HB := Lib.hid hnx3
      clear hown2 hnx3 hnx2 hown hnx hcx hcy
      go_wp2
      go_roundw
      case rel => exact ⟨k + 1, by omega, by go_num, by have h := HS.out; rw [flat_to _ _ (by rw [Hn.out]; omega), flat_long _ _ (by rw [Hn.out]; omega), Hx.out] at h; rw [show (k + 1) * 2 = k * 2 + 1 + 1 by omega]; exact h, (HB.out.setCell (Nat.le_refl _) _).setCell (Nat.le_refl _) _⟩
      case measure => simp [intOf]; omega
    · have HO := Lib.hid hown
      clear hown
      go_wp2
      go_ret
      have hkn : k = n := by omega
      subst hkn
      have ho := HO.out
      rw [fillL_all _ (by rw [HL.out]; omega)] at ho
      have hn := Hn.out
      subst hn
      exact ⟨w.heap.size, rfl, Nat.le_refl _, rdI_of_ownN ho HL.out, hnx, ho⟩

theorem eqRd_no {k : Nat} {ts ts' : List (Int × Int)} (e : ¬ ts.getD k (-1, 0) = ts'.getD k (-1, 0)) : (ts == ts') = false := by
  rw [beq_eq_false_iff_ne]
  rintro rfl
  exact e rfl
theorem eqRd_end {n k : Nat} {ts ts' : List (Int × Int)} (h : ∀ i, i < k → ts.getD i (-1, 0) = ts'.getD i (-1, 0)) (hn : ts.length = n) (hn' : ts'.length = n) (hk : n ≤ k) : (ts == ts') = true := by
  have e : ts = ts' := by
    apply List.ext_getElem (by omega)
    intro i h1 h2
    have := h i (by omega)
    simpa [List.getD, List.getElem?_eq_getElem h1, List.getElem?_eq_getElem h2] using this
  rw [e]; simp

set_option maxHeartbeats 800000 in
theorem eqR_any (A A' : Option Addr) (c c' n n' : Nat) (ts ts' : List (Int × Int)) (w : World) (B B' : Nat) (hr : RdR w B A ts) (hn : ts.length = n) (hr' : RdR w B' A' ts') (hn' : ts'.length = n') (hb : n ≤ 1048576) (hB : B ≤ w.heap.size) (hB' : B' ≤ w.heap.size) :
    Calls Try.prog 28 #[.slice A n c, .slice A' n' c'] w fun e w' => e = .returned (.bool (ts == ts')) ∧ Below w.heap.size w w' := by
  by_cases hnn : n = n'
  · subst hnn
    have Hn := Lib.hid hn
    have Hn' := Lib.hid hn'
    clear hn hn'
    go_enter Try.func28, Try.ntmps28
    go_wp2
    go_loopw [5] (fun i wr => ∃ k : Nat, k ≤ n ∧ Hid (∀ i, i < k → ts.getD i (-1, 0) = ts'.getD i (-1, 0)) ∧ i = .int .i64 k ∧ Below w.heap.size w wr) (fun i wr => n - (intOf i).toNat)
    case atStart => exact ⟨0, Nat.zero_le _, fun i hi => by omega, rfl, Below.refl _ _⟩
    case round =>
      obtain ⟨k, hk, Hk, rfl, hnx⟩ := hrel
      by_cases hlt : k < n
      · obtain ⟨b, off, x, y, rfl, hbw, Hx, hcx, hcy⟩ := (hr.below (hnx.mono hB)).x (k := k) (by rw [Hn.out]; exact hlt)
        obtain ⟨b', off', x', y', rfl, hbw', Hy, hcx', hcy'⟩ := (hr'.below (hnx.mono hB')).x (k := k) (by rw [Hn'.out]; exact hlt)
        go_wp2_with fail
        by_cases he : x = x' ∧ y = y'
        · have Hs := Lib.hid (show ∀ i, i < k + 1 → ts.getD i (-1, 0) = ts'.getD i (-1, 0) from fun i hi => by
            by_cases e : i = k
            · rw [e, Hx.out, Hy.out, he.1, he.2]
            · exact Hk.out i (by omega))
          obtain ⟨rfl, rfl⟩ := he
          go_region_with (go_at_call 58; refine (eqRoad_yes x y x y _ rfl rfl).mono ?_; rintro e wr2 ⟨rfl, hnx2⟩)
          all_goals
            have hnx3 := hnx.trans ((belowd hnx2).mono hnx.size)
            go_wp2
            go_roundw
            case rel => exact ⟨k + 1, by omega, Hs, by go_num, hnx3⟩
            case measure => simp [intOf]; omega
        · have Hs := Lib.hid (eqRd_no (ts := ts) (ts' := ts') (k := k) (by rw [Hx.out, Hy.out]; intro h; exact he ⟨congrArg Prod.fst h, congrArg Prod.snd h⟩))
          have he' := Lib.hid (show x ≠ x' ∨ y ≠ y' by omega)
          clear he
          go_region_with (go_at_call 58; refine (eqRoad_no x y x' y' _ he'.out).mono ?_; rintro e wr2 ⟨rfl, hnx2⟩)
          all_goals
            have hnx3 := hnx.trans ((belowd hnx2).mono hnx.size)
            go_wp2
            go_ret
            exact ⟨ret_bool Hs.out.symm, hnx3⟩
      · have hs := eqRd_end Hk.out Hn.out Hn'.out (by omega)
        have Hs := Lib.hid hs
        clear hs
        go_wp2
        go_ret
        exact ⟨ret_bool Hs.out.symm, hnx⟩
  · have hs : (ts == ts') = false := by
      rw [beq_eq_false_iff_ne]
      rintro rfl
      omega
    have hb1 : ((n : Int) != (n' : Int)) = true := by rw [bne_iff_ne]; omega
    have Hs := Lib.hid hs
    clear hs hn hn' hnn
    go_enter Try.func28, Try.ntmps28
    go_wp2
    go_ret
    exact ⟨ret_bool Hs.out.symm, Below.refl _ _⟩
end Go.Proofs.Ytoohfipicmdohac
namespace Go.Proofs.Ytoohfipicmdohac
open Go.ChangeShapes Go.WideShapes Go.ChangeAt Go.RowKit
set_option linter.unusedVariables false
set_option maxRecDepth 4000

def TreePost (B R k : Nat) (w : World) (e : Ending) (w' : World) : Prop :=
  ∃ v, ∃ ts : List (Int × Int), e = .returned v ∧ ts.length ≤ 7 ∧ w'.ownsRow w.heap.size 34 2 v ts.length ((flat ts).map (Value.int .i64)) ∧ GR w' B R (k + 40) ∧ w.grownBy w' (some R)
def TreeRel (B R k : Nat) (w : World) (v i : Value) (wr : World) : Prop :=
  ∃ ts : List (Int × Int), ∃ m : Int, ∃ q : Nat, i = .int .i64 m ∧ 0 ≤ m ∧ (ts.length : Int) + m ≤ 7 ∧ 1 ≤ ts.length ∧ (q : Int) + 3 * m ≤ k + 22 ∧
    wr.ownsRow w.heap.size 34 2 v ts.length ((flat ts).map (Value.int .i64)) ∧ GR wr B R q ∧ w.grownBy wr (some R)
theorem lit_two (w : World) (x y : Value) (t : TypeId) : ∀ j u, [x, y][j]? = some u → (w.alloc (.cells #[x, y] t)).cell? ((⟨w.heap.size, 0, none⟩ : Addr).add j) = some u := by
  intro j u hu
  rw [addr_add0, cell_of_row _ _ _ _ t (0, 0) (heap_alloc_new w _)]
  simpa using hu
set_option maxHeartbeats 1600000 in
theorem someTree_any (R B k : Nat) (w : World) (hg : GR w B R k) (hk : k ≤ 80000) :
    Calls Try.prog 45 #[.pointer (some ⟨R, 0, none⟩)] w (TreePost B R k w) := by
  obtain ⟨i0, hi0, hz0, hz1, hz2⟩ := info_parts roadInfo
  have hRlt := hg.lt
  go_enter Try.func45, Try.ntmps45
  go_wp2_with fail
  have hga : GR (w.alloc (.cells #[.int .i64 (-1), .int .i64 0] 34)) B R k := hg.kept (row := none) (World.grownBy_alloc _ _ _) (fun g h => by cases h)
  have hgba : w.grownBy (w.alloc (.cells #[.int .i64 (-1), .int .i64 0] 34)) (some R) := World.grownBy_alloc _ _ _
  have hown0 : (w.alloc (.cells #[.int .i64 (-1), .int .i64 0] 34)).ownsRow w.heap.size 34 2 (.slice (some ⟨w.heap.size, 0, none⟩) 1 1) 1 [.int .i64 (-1), .int .i64 0] :=
    World.ownsRow_lit w #[.int .i64 (-1), .int .i64 0] 1 (Nat.le_refl _) (by decide) rfl
  refine (oneLitAt _ R B k [4, 3, 5, 2, 6, 1, 0] 7 0 6 (w.alloc (.cells #[.int .i64 (-1), .int .i64 0] 34)) _ hga (by omega) rfl (by omega) (by omega) rfl (by decide) (size_alloc1 _ _)).mono ?_
  rintro e w1 ⟨m, rfl, hm0, hm1, hg1, hgr1⟩
  have hgb1 := gb_trans hgba hgr1 (.inl rfl)
  have hown1 := hown0.kept hgr1 (.inr (by simp [Value.ownBlock]; omega))
  have Hown1 := Lib.hid hown1
  clear hown1 hown0 hgba hga hgr1
  go_wp2_with fail
  go_loopw [3, 4] (fun v i wr => TreeRel B R k w v i wr) (fun _ i _ => (intOf i).toNat)
  case atStart => exact ⟨[(-1, 0)], m, k + 1, rfl, hm0, by simp; omega, by simp, by omega, Hown1.out, hg1, hgb1⟩
  case round =>
    clear hg1 Hown1 hgb1
    obtain ⟨ts, m', q, rfl, hm'0, hlm, hl1, hq1, hown, hgr, hgb⟩ := hrel
    have hws := hgb.size
    have hwo := hown.lt
    have Hwo := Lib.hid hwo
    have Hown := Lib.hid hown
    obtain ⟨A, c, rfl, hc1, hc2, -⟩ := own_sliceN hown
    clear hown hwo
    obtain ⟨n, Hn⟩ : ∃ n, Hid (ts.length = n) := ⟨_, rfl⟩
    by_cases hpos : 0 < m'
    · have hl0 : 0 ≤ ((ts.length : Nat) : Int) - 1 := by omega
      go_wp2_with fail
      refine (pick_any R B q ts.length wr hgr (by omega) (by omega) (by omega)).mono ?_
      rintro e w5 ⟨v, rfl, hv0, hv1, -, hgr5, hgw5⟩
      have hv2 := hv1 (by omega)
      clear hv1
      have hgb5 := gb_trans hgb hgw5 (.inl rfl)
      have hown5 := Hown.out.kept hgw5 (.inr (fun e => by have := (Hwo.out R e).1; omega))
      have Hown5 := Lib.hid hown5
      clear hown5 hgw5 Hown
      go_wp2_with fail
      refine (oneLitAt _ R B (q + 1) [v, ts.length - 1, 0] 3 0 7 w5 _ hgr5 (by omega) rfl (by omega) (by omega) rfl (by intro x hx; simp at hx; omega) rfl).mono ?_
      rintro e w6 ⟨x, rfl, hx0, hx1, hgr6, hgw6⟩
      have hgb6 := gb_trans hgb5 hgw6 (.inl rfl)
      have hown6 := Hown5.out.kept hgw6 (.inr (fun e => by have := (Hwo.out R e).1; omega))
      have Hown6 := Lib.hid hown6
      clear hown6 hgw6 Hown5 hgb5
      go_wp2_with fail
      refine (oneLitAt _ R B (q + 1 + 1) [1, 2, 3, 1, 5, 9] 6 1 9 w6 _ hgr6 (by omega) rfl (by omega) (by omega) rfl (by decide) rfl).mono ?_
      rintro e w7 ⟨y, rfl, hy0, hy1, hgr7, hgw7⟩
      have hgb7 := gb_trans hgb6 hgw7 (.inl rfl)
      have hown7 := Hown6.out.kept hgw7 (.inr (fun e => by have := (Hwo.out R e).1; omega))
      have hws7 := hgb7.size
      have Hn7 : Hid (ts.length + 1 ≤ 8) := by show ts.length + 1 ≤ 8; omega
      go_wp2_with (at_builtin; refine wpList_append_own _ rfl _ _ 35 rfl w.heap.size 34 i0 _ 2 16 Try.underlying35 hi0 hz0 hz1 hz2 rfl (by decide) _ _ _ rfl (hown7.alloc _) ⟨w7.heap.size, 0, none⟩ 1 1 [.int .i64 x, .int .i64 y] rfl rfl ?c1 ?c2 ?c3 ?c4 ?c5 ?_)
      case c1 => exact lit_two _ _ _ _
      case c2 => intro u hu; simp at hu; rcases hu with rfl | rfl <;> rfl
      case c3 => have := Hn7.out; unfold maxLen; omega
      case c4 => have := Hn7.out; omega
      case c5 => rw [size_alloc1]; omega
      intro v' w3 hown' hgrow _
      have hgr3 : GR w3 B R (q + 1 + 1 + 1) := (hgr7.kept (row := none) (World.grownBy_alloc _ _ _) (fun g h => by cases h)).kept hgrow (fun g h => by have := (hown7.lt g h).1; omega)
      have hgb3 : w.grownBy w3 (some R) := gb_trans (gb_trans hgb7 (World.grownBy_alloc w7 _ none) (.inr (fun g h => by cases h))) hgrow (.inr (fun g h => (hown7.lt g h).1))
      have Hown' := Lib.hid hown'
      clear hown' hgrow hown7 hgr7 hgb7 hws hgr hgb
      go_wp2
      go_roundw
      case rel => exact ⟨ts ++ [(x, y)], m' - 1, q + 1 + 1 + 1, rfl, by omega, by simp; omega, by simp, by omega, by simpa [flat_append, flat] using Hown'.out, hgr3, hgb3⟩
      case measure => simp [intOf]; omega
    · have hlen : (1 : Int) ≤ ((ts.length : Nat) : Int) := by omega
      go_wp2_with fail
      refine (pick_any R B q ts.length wr hgr (by omega) (by omega) (by omega)).mono ?_
      rintro e w5 ⟨j, rfl, hj0, hj1, -, hgr5, hgw5⟩
      have hj2 := hj1 (by omega)
      obtain ⟨j, rfl⟩ := Int.eq_ofNat_of_zero_le hj0
      clear hj1
      have hgb5 := gb_trans hgb hgw5 (.inl rfl)
      have hown5 := Hown.out.kept hgw5 (.inr (fun e => by have := (Hwo.out R e).1; omega))
      have Hown5 := Lib.hid hown5
      clear hown5 hgw5 Hown
      go_wp2_with fail
      refine (pick_any R B (q + 1) 30 w5 hgr5 (by omega) (by omega) (by omega)).mono ?_
      rintro e w6 ⟨v, rfl, hv0, hv1, -, hgr6, hgw6⟩
      have hgb6 := gb_trans hgb5 hgw6 (.inl rfl)
      have hown6 := Hown5.out.kept hgw6 (.inr (fun e => by have := (Hwo.out R e).1; omega))
      have Hown6 := Lib.hid hown6
      clear hown6 hgw6 Hown5 hgb5 hv1
      have hjl : j < ts.length := by omega
      by_cases hv : v = 0
      · subst hv
        go_wp2_with fail
        refine (oneLitAt _ R B (q + 1 + 1) [-1, j, 7] 3 (-1) 7 w6 _ hgr6 (by omega) rfl (by omega) (by omega) rfl (by intro x hx; simp at hx; omega) rfl).mono ?_
        rintro e w7 ⟨d, rfl, hd0, hd1, hgr7, hgw7⟩
        have hgb7 := gb_trans hgb6 hgw7 (.inl rfl)
        have hown7 := Hown6.out.kept hgw7 (.inr (fun e => by have := (Hwo.out R e).1; omega))
        obtain ⟨g, cap, he, hg1, hg2⟩ := hown7.form hl1
        injection he with he1 he2 he3
        subst he1 he3
        obtain ⟨v7, hv7⟩ := own_cell hown7 (j := j * 2) (by omega) (by simp [flat_len])
        have hf7 := hown7.frozenAt (j * 2)
        have hst := (hown7.stored (j * 2) (.int .i64 d)).1
        have hgs := (hown7.stored (j * 2) (.int .i64 d)).2
        have hgb8 := gb_trans hgb7 hgs (.inr (fun g' h' => by cases h'; exact hg1))
        have hgr8 := hgr7.kept hgs (fun g' h' => by cases h'; omega)
        have Hst := Lib.hid hst
        have Hgb8 := Lib.hid hgb8
        have Hgr8 := Lib.hid hgr8
        clear hst hgb8 hgr8 hown7 hgb7 hgb6 hgw7 hgs Hown6
        go_wp2
        go_ret
        exact ⟨_, ts.set j (d, (ts.getD j (-1, 0)).2), rfl, by rw [List.length_set]; omega, by rw [List.length_set, flat_set0 ts j hjl, List.map_set]; exact Hst.out, Hgr8.out.more (by omega), Hgb8.out⟩
      · have hvb : (v == 0) = false := by rw [beq_eq_false_iff_ne]; exact hv
        by_cases hv1 : v = 1
        · subst hv1
          clear hv hvb
          go_wp2_with fail
          refine (oneLitAt _ R B (q + 1 + 1) [0, 10, 1] 3 0 10 w6 _ hgr6 (by omega) rfl (by omega) (by omega) rfl (by decide) rfl).mono ?_
          rintro e w7 ⟨d, rfl, hd0, hd1, hgr7, hgw7⟩
          have hgb7 := gb_trans hgb6 hgw7 (.inl rfl)
          have hown7 := Hown6.out.kept hgw7 (.inr (fun e => by have := (Hwo.out R e).1; omega))
          obtain ⟨g, cap, he, hg1, hg2⟩ := hown7.form hl1
          injection he with he1 he2 he3
          subst he1 he3
          obtain ⟨v7, hv7⟩ := own_cell hown7 (j := j * 2 + 1) (by omega) (by simp [flat_len])
          have hf7 := hown7.frozenAt (j * 2 + 1)
          have hst := (hown7.stored (j * 2 + 1) (.int .i64 d)).1
          have hgs := (hown7.stored (j * 2 + 1) (.int .i64 d)).2
          have hgb8 := gb_trans hgb7 hgs (.inr (fun g' h' => by cases h'; exact hg1))
          have hgr8 := hgr7.kept hgs (fun g' h' => by cases h'; omega)
          have Hst := Lib.hid hst
          have Hgb8 := Lib.hid hgb8
          have Hgr8 := Lib.hid hgr8
          clear hst hgb8 hgr8 hown7 hgb7 hgb6 hgw7 hgs Hown6
          go_wp2
          go_ret
          exact ⟨_, ts.set j ((ts.getD j (-1, 0)).1, d), rfl, by rw [List.length_set]; omega, by rw [List.length_set, flat_set1 ts j hjl, List.map_set]; exact Hst.out, Hgr8.out.more (by omega), Hgb8.out⟩
        · have hvb1 : (v == 1) = false := by rw [beq_eq_false_iff_ne]; exact hv1
          by_cases hv2 : v = 2
          · subst hv2
            clear hv hvb hv1 hvb1
            have hgr8 : GR (w6.alloc (.cells #[] 34)) B R (k + 40) := (hgr6.kept (row := none) (World.grownBy_alloc _ _ _) (fun g h => by cases h)).more (by omega)
            have hgb8 := gb_trans hgb6 (World.grownBy_alloc w6 (.cells #[] 34) none) (.inr (fun g h => by cases h))
            have hown8 : (w6.alloc (.cells #[] 34)).ownsRow w.heap.size 34 2 (.slice (some ⟨w6.heap.size, 0, none⟩) 0 0) 0 [] :=
              World.ownsRow_lit w6 #[] 0 hgb6.size (by decide) rfl
            have Hown8 := Lib.hid hown8
            clear hown8
            go_wp2
            go_ret
            exact ⟨_, [], rfl, by simp, Hown8.out, hgr8, hgb8⟩
          · have hvb2 : (v == 2) = false := by rw [beq_eq_false_iff_ne]; exact hv2
            clear hv hv1 hv2
            go_wp2
            go_ret
            exact ⟨_, ts, rfl, by omega, Hown6.out, hgr6.more (by omega), hgb6⟩
end Go.Proofs.Ytoohfipicmdohac
