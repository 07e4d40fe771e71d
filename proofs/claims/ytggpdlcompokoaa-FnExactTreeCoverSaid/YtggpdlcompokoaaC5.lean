/-
  The program's order of the nodes: the library's insertion sort over pointers, by depth.
  Conditions: none beyond what each theorem states.
-/
import Derived.Test.YtggpdlcompokoaaN0
import Derived.Test.YtggpdlcompokoaaC1
import Derived.Deep.LoopGhost
import Derived.Laws.OwnMore
namespace Go.Proofs.Ytggpdlcompokoaa
open Go.ChangeShapes Go.WideShapes Go.ChangeAt Go.RowKit
set_option linter.unusedVariables false
set_option maxRecDepth 4000

/-- x stands ahead of y: farther from the node 0, or as far and of a smaller number. -/
def Bef (t : List (Int × Int)) (n x y : Nat) : Prop := dn t n 0 y < dn t n 0 x ∨ (dn t n 0 y = dn t n 0 x ∧ x < y)
theorem bef_trans {t : List (Int × Int)} {n x y z : Nat} (h1 : Bef t n x y) (h2 : Bef t n y z) : Bef t n x z := by
  unfold Bef at *
  omega
/-- All nodes, each once. -/
def AllO (n : Nat) (ord : List Nat) : Prop := ord.length = n ∧ (∀ j, j < n → ord.getD j 0 < n) ∧ (∀ i, i < n → ∃ j, j < n ∧ ord.getD j 0 = i)
/-- Sorted as far as i; behind it as it was. -/
structure SortO (t : List (Int × Int)) (n i : Nat) (ord : List Nat) : Prop where
  all : AllO n ord
  srt : ∀ j k, j < k → k < i → Bef t n (ord.getD j 0) (ord.getD k 0)
  low : ∀ j, j < i → ord.getD j 0 < i
  rst : ∀ j, i ≤ j → j < n → ord.getD j 0 = j
/-- The node i is on its way, at place j. -/
structure SortI (t : List (Int × Int)) (n i j : Nat) (ord : List Nat) : Prop where
  all : AllO n ord
  le : j ≤ i
  lt : i < n
  srt : ∀ a b, a < b → b ≤ i → a ≠ j → b ≠ j → Bef t n (ord.getD a 0) (ord.getD b 0)
  aft : ∀ b, j < b → b ≤ i → Bef t n (ord.getD j 0) (ord.getD b 0)
  its : ord.getD j 0 = i
  low : ∀ a, a ≤ i → a ≠ j → ord.getD a 0 < i
  rst : ∀ a, i < a → a < n → ord.getD a 0 = a
def swO (ord : List Nat) (m : Nat) : List Nat := (ord.set (m + 1) (ord.getD m 0)).set m (ord.getD (m + 1) 0)
theorem swO_len (ord : List Nat) (m : Nat) : (swO ord m).length = ord.length := by simp [swO]
theorem getD_set (l : List Nat) (i k x : Nat) (h : i < l.length) : (l.set i x).getD k 0 = if k = i then x else l.getD k 0 := by
  rw [List.getD_eq_getElem?_getD, List.getElem?_set, List.getD_eq_getElem?_getD]
  by_cases e : i = k
  · subst e; simp [h]
  · rw [if_neg e, if_neg (fun e' => e e'.symm)]
theorem swO_at {ord : List Nat} {m : Nat} (h : m + 1 < ord.length) (k : Nat) : (swO ord m).getD k 0 = if k = m then ord.getD (m + 1) 0 else if k = m + 1 then ord.getD m 0 else ord.getD k 0 := by
  unfold swO
  rw [getD_set _ _ _ _ (by simp; omega), getD_set _ _ _ _ h]
theorem allO_sw {n m : Nat} {ord : List Nat} (h : AllO n ord) (hm : m + 1 < n) : AllO n (swO ord m) := by
  obtain ⟨h1, h2, h3⟩ := h
  refine ⟨by rw [swO_len, h1], fun j hj => ?_, fun i hi => ?_⟩
  · rw [swO_at (by omega)]
    have a1 := h2 (m + 1) hm
    have a2 := h2 m (by omega)
    have a3 := h2 j hj
    split
    · exact a1
    · split
      · exact a2
      · exact a3
  · obtain ⟨j, hj, hji⟩ := h3 i hi
    by_cases e1 : j = m
    · subst e1
      exact ⟨j + 1, hm, by rw [swO_at (by omega), if_neg (by omega), if_pos rfl, hji]⟩
    · by_cases e2 : j = m + 1
      · subst e2
        exact ⟨m, by omega, by rw [swO_at (by omega), if_pos rfl, hji]⟩
      · exact ⟨j, hj, by rw [swO_at (by omega), if_neg e1, if_neg e2, hji]⟩
theorem sortI_start {t : List (Int × Int)} {n i : Nat} {ord : List Nat} (h : SortO t n i ord) (hi : i < n) : SortI t n i i ord where
  all := h.all
  le := Nat.le_refl _
  lt := hi
  srt a b hab hb ha hb' := h.srt a b hab (by omega)
  aft b h1 h2 := by omega
  its := h.rst i (Nat.le_refl _) hi
  low a ha hne := h.low a (by omega)
  rst a ha hn := h.rst a (by omega) hn
theorem sortI_step {t : List (Int × Int)} {n i m : Nat} {ord : List Nat} (h : SortI t n i (m + 1) ord) (hlt : dn t n 0 (ord.getD m 0) < dn t n 0 (ord.getD (m + 1) 0)) : SortI t n i m (swO ord m) := by
  have hle := h.le
  have hltn := h.lt
  have hl : m + 1 < ord.length := by rw [h.all.1]; omega
  have e1 : (swO ord m).getD m 0 = ord.getD (m + 1) 0 := by rw [swO_at hl, if_pos rfl]
  have e2 : (swO ord m).getD (m + 1) 0 = ord.getD m 0 := by rw [swO_at hl, if_neg (by omega), if_pos rfl]
  have e3 : ∀ k, k ≠ m → k ≠ m + 1 → (swO ord m).getD k 0 = ord.getD k 0 := fun k h1 h2 => by rw [swO_at hl, if_neg h1, if_neg h2]
  refine ⟨allO_sw h.all (by omega), by omega, hltn, fun a b hab hb ha hb' => ?_, fun b h1 h2 => ?_, by rw [e1]; exact h.its, fun a ha hne => ?_, fun a ha hn => ?_⟩
  · by_cases ea : a = m + 1
    · subst ea
      rw [e2, e3 b (by omega) (by omega)]
      exact h.srt m b (by omega) hb (by omega) (by omega)
    · by_cases eb : b = m + 1
      · subst eb
        rw [e2, e3 a ha ea]
        exact h.srt a m (by omega) (by omega) (by omega) (by omega)
      · rw [e3 a ha ea, e3 b hb' eb]
        exact h.srt a b hab hb ea eb
  · rw [e1]
    by_cases eb : b = m + 1
    · subst eb
      rw [e2]; exact .inl hlt
    · rw [e3 b (by omega) eb]
      exact h.aft b (by omega) h2
  · by_cases ea : a = m + 1
    · subst ea; rw [e2]; exact h.low m (by omega) (by omega)
    · rw [e3 a hne ea]; exact h.low a ha ea
  · rw [e3 a (by omega) (by omega)]; exact h.rst a ha hn
theorem sortI_stop {t : List (Int × Int)} {n i j : Nat} {ord : List Nat} (h : SortI t n i j ord) (hs : j = 0 ∨ ∃ m, j = m + 1 ∧ ¬ dn t n 0 (ord.getD m 0) < dn t n 0 (ord.getD (m + 1) 0)) : SortO t n (i + 1) ord := by
  have hle := h.le
  refine ⟨h.all, fun a b hab hb => ?_, fun a ha => ?_, fun a ha hn => h.rst a (by omega) hn⟩
  · by_cases ea : a = j
    · subst ea; exact h.aft b hab (by omega)
    · by_cases eb : b = j
      · subst eb
        rcases hs with e | ⟨m, rfl, hm⟩
        · omega
        · have hlast : Bef t n (ord.getD m 0) (ord.getD (m + 1) 0) := by
            have := h.low m (by omega) (by omega)
            have := h.its
            unfold Bef
            omega
          by_cases em : a = m
          · subst em; exact hlast
          · exact bef_trans (h.srt a m (by omega) (by omega) ea (by omega)) hlast
      · exact h.srt a b hab (by omega) ea eb
  · by_cases ea : a = j
    · subst ea; rw [h.its]; omega
    · have := h.low a (by omega) ea; omega
theorem range_at (n j : Nat) (h : j < n) : (List.range n).getD j 0 = j := by
  rw [List.getD_eq_getElem?_getD, List.getElem?_range h]; rfl
theorem sortO_start (t : List (Int × Int)) {n : Nat} (hn : 1 ≤ n) : SortO t n 1 (List.range n) where
  all := ⟨by simp, fun j hj => by rw [range_at n j hj]; exact hj, fun i hi => ⟨i, hi, range_at n i hi⟩⟩
  srt j k h1 h2 := by omega
  low j hj := by rw [range_at n j (by omega)]; exact hj
  rst j _ hj := range_at n j hj

def ptrsO (P : Nat → Nat) (ord : List Nat) : List Value := ord.map fun i => ptr (P i)
theorem ptrsO_at (P : Nat → Nat) {ord : List Nat} {j : Nat} (h : j < ord.length) : (ptrsO P ord)[j]? = some (.pointer (some ⟨P (ord.getD j 0), 0, none⟩)) := by
  unfold ptrsO
  rw [List.getElem?_map, List.getD_eq_getElem?_getD, List.getElem?_eq_getElem h]; rfl
theorem ptrsO_sw (P : Nat → Nat) {ord : List Nat} {m : Nat} : ((ptrsO P ord).set (m + 1) (ptr (P (ord.getD m 0)))).set m (ptr (P (ord.getD (m + 1) 0))) = ptrsO P (swO ord m) := by
  unfold ptrsO swO
  rw [List.map_set, List.map_set]

set_option maxHeartbeats 400000 in
theorem cmp_any (Pa Pb : Nat) (da db : Int) (W : World) (ca : W.cell? ⟨Pa, 1, none⟩ = some (.int .i64 da)) (cb : W.cell? ⟨Pb, 1, none⟩ = some (.int .i64 db)) (h1 : 0 ≤ da) (h2 : da ≤ 1000) (h3 : 0 ≤ db) (h4 : db ≤ 1000) :
    Calls Try.prog 82 #[.pointer (some ⟨Pa, 0, none⟩), .pointer (some ⟨Pb, 0, none⟩)] W fun e w' => e = .returned (.int .i64 (db - da)) ∧ ∃ q, w' = W.drewN q := by
  have w1 : IntKind.i64.wrap (db - da) = db - da := IntWalk.i64_in _ (by omega)
  go_enter Try.func82, Try.ntmps82
  go_wp2
  go_quiet (fail)
  go_wp2
  go_ret
  exact ⟨rfl, _, rfl⟩

/-- The row of pointers while it is sorted. -/
structure SRow (w wr : World) (P : Nat → Nat) (g n cap : Nat) (ord : List Nat) : Prop where
  own : wr.ownsRow w.heap.size 62 1 (.slice (some ⟨g, 0, none⟩) n cap) n (ptrsO P ord)
  bel : Below w.heap.size w wr
  ge : w.heap.size ≤ g
theorem SRow.drewN {w wr : World} {P : Nat → Nat} {g n cap : Nat} {ord : List Nat} (h : SRow w wr P g n cap ord) (q : Nat) : SRow w (wr.drewN q) P g n cap ord :=
  ⟨h.own, below_drewN h.bel q, h.ge⟩
theorem SRow.swap {w wr : World} {P : Nat → Nat} {g n cap m : Nat} {ord : List Nat} (h : SRow w wr P g n cap ord) :
    SRow w ((wr.setCell ⟨g, m + 1, none⟩ (ptr (P (ord.getD m 0)))).setCell ⟨g, m, none⟩ (ptr (P (ord.getD (m + 1) 0)))) P g n cap (swO ord m) := by
  have h1 := (h.own.stored (m + 1) (ptr (P (ord.getD m 0)))).1
  have h2 := (World.ownsRow.stored h1 m (ptr (P (ord.getD (m + 1) 0)))).1
  rw [ptrsO_sw] at h2
  exact ⟨h2, (h.bel.setCell (p := ⟨g, m + 1, none⟩) h.ge _).setCell (p := ⟨g, m, none⟩) h.ge _, h.ge⟩
end Go.Proofs.Ytggpdlcompokoaa
