/-
  Sets of nodes as numbers, as they are gone through one by one: the nearest of a set, the first of the farthest, the least over all sets of so many nodes.
  Conditions: at most seven nodes; ways are between -1 and 54.
  The copy of a slice of ints and the comparison of two slices, walked.
  Conditions: the slice is shorter than 2^20 elements.
  Small steps that the exact laws share.
  Conditions: none beyond what each theorem states.
  Rows in memory: words for slices that a call owns, and for tables of rows.
  Conditions: none beyond what each theorem states.
  Words for slices of streets: three cells an element, From, To and Long; what a valid net is.
  Conditions: none beyond what each theorem states.
-/
import Derived.Test.YtdhelapgdgekfaaZ1
import Derived.Test.YtdhelapgdgekfaaZ0
import Derived.Laws.Rows
import Derived.Laws.OwnMore
import Derived.Deep.Draws
import Derived.BigRegion
import Derived.Deep.AppendLies
namespace Go.Proofs.Ytdhelapgdgekfaa
open Go.ChangeShapes Go.WideShapes Go.ChangeAt Go.RowKit
set_option linter.unusedVariables false

theorem memL_succ (s m : Nat) : memL s (m + 1) = memL s m ++ (if s.testBit m = true then [m] else []) := by
  unfold memL
  rw [List.range_succ, List.filter_append]
  congr 1
  cases h : s.testBit m <;> simp [h]
/-- Whether a way is shorter than another, -1 longer than all. -/
def ShW (x y : Int) : Prop := ¬ x = -1 ∧ (y = -1 ∨ x < y)
instance (x y : Int) : Decidable (ShW x y) := by unfold ShW; infer_instance
theorem wyS_skip {d : Nat → Nat → Int} {s v m : Nat} (h : ¬ s.testBit m = true) : wy d v (memL s (m + 1)) = wy d v (memL s m) := by
  rw [memL_succ, if_neg h, List.append_nil]
theorem wyS_take {d : Nat → Nat → Int} {s v m : Nat} {x acc : Int} (h : s.testBit m = true) (ha : wy d v (memL s m) = acc) (hx : d v m = x) (h1 : -1 ≤ x) (h2 : -1 ≤ acc) : wy d v (memL s (m + 1)) = if ShW x acc then x else acc := by
  rw [memL_succ, if_pos h]
  unfold wy at ha ⊢
  rw [pkL_append, ha]
  simp only [pkL]
  rw [hx]
  by_cases hc : 0 ≤ x ∧ (acc < 0 ∨ x < acc)
  · have hs : ShW x acc := ⟨by omega, by omega⟩
    rw [if_pos hc, if_pos hs]
  · have hs : ¬ ShW x acc := fun hs => by
      have e1 := hs.1
      have e2 := hs.2
      omega
    rw [if_neg hc, if_neg hs]
theorem wy_low (d : Nat → Nat → Int) (v : Nat) (L : List Nat) : -1 ≤ wy d v L := by
  rcases pkL_cases (d v) L with ⟨h, _⟩ | ⟨h, _⟩ <;> (unfold wy; omega)
theorem wy_high {d : Nat → Nat → Int} {v : Nat} {L : List Nat} {b : Int} (hb : 0 ≤ b) (h : ∀ i ∈ L, d v i ≤ b) : wy d v L ≤ b := by
  rcases pkL_cases (d v) L with ⟨h1, _⟩ | ⟨_, ⟨x, hx, h1⟩, _⟩
  · unfold wy; omega
  · have := h x hx
    unfold wy; omega
theorem wy_mem {d : Nat → Nat → Int} {v : Nat} {L L' : List Nat} (h : ∀ i, i ∈ L ↔ i ∈ L') : wy d v L = wy d v L' := by
  unfold wy
  rcases pkL_cases (d v) L with ⟨h1, h2⟩ | ⟨h1, ⟨x, hx, h2⟩, h3⟩ <;> rcases pkL_cases (d v) L' with ⟨g1, g2⟩ | ⟨g1, ⟨y, hy, g2⟩, g3⟩
  · omega
  · have := h2 y ((h y).2 hy); omega
  · have := g2 x ((h x).1 hx); omega
  · have := h3 y ((h y).2 hy) (by omega)
    have := g3 x ((h x).1 hx) (by omega)
    omega
theorem radL_mem {d : Nat → Nat → Int} {L L' : List Nat} (h : ∀ i, i ∈ L ↔ i ∈ L') : ∀ m, radL d L m = radL d L' m
  | 0 => rfl
  | m + 1 => by simp only [radL]; rw [radL_mem h m, wy_mem h]
theorem memL_stO {n : Nat} {J : List Nat} (h : ∀ i ∈ J, i < n) (i : Nat) : i ∈ memL (stO J) n ↔ i ∈ J := by
  rw [memL_iff, stO_iff]
  exact ⟨fun h1 => h1.2, fun h1 => ⟨h i h1, h1⟩⟩

/-- The first one of the farthest below m, 0 for none. -/
def ffI (d : Nat → Nat → Int) (L : List Nat) : Nat → Nat
  | 0 => 0
  | m + 1 => if ShW (wy d (ffI d L m) L) (wy d m L) then m else ffI d L m
theorem ffI_lt (d : Nat → Nat → Int) (L : List Nat) {n : Nat} (hn : 1 ≤ n) : ∀ m, m ≤ n → ffI d L m < n
  | 0, _ => by show 0 < n; omega
  | m + 1, h => by
    have := ffI_lt d L hn m (by omega)
    simp only [ffI]; split <;> omega
theorem ffI_yes {d : Nat → Nat → Int} {L : List Nat} {m f : Nat} (hf : ffI d L m = f) (h : ShW (wy d f L) (wy d m L)) : ffI d L (m + 1) = m := by
  simp only [ffI]; rw [hf, if_pos h]
theorem ffI_no {d : Nat → Nat → Int} {L : List Nat} {m f : Nat} (hf : ffI d L m = f) (h : ¬ ShW (wy d f L) (wy d m L)) : ffI d L (m + 1) = f := by
  simp only [ffI]; rw [hf, if_neg h]
/-- Ways between -1 and 54. -/
def Bd54 (d : Nat → Nat → Int) (n : Nat) : Prop := ∀ a b, a < n → b < n → -1 ≤ d a b ∧ d a b ≤ 54
theorem wy_bd {d : Nat → Nat → Int} {n v : Nat} {L : List Nat} (hb : Bd54 d n) (hL : ∀ i ∈ L, i < n) (hv : v < n) : -1 ≤ wy d v L ∧ wy d v L ≤ 54 :=
  ⟨wy_low _ _ _, wy_high (by omega) fun i hi => (hb v i hv (hL i hi)).2⟩
theorem nrP_lt {d : Nat → Nat → Int} {n v u : Nat} {L : List Nat} (hb : Bd54 d n) (hL : ∀ i ∈ L, i < n) (hv : v < n) (hu : u < n) : ShW (wy d u L) (wy d v L) ↔ nrP d u L < nrP d v L := by
  have h1 := wy_bd hb hL hv
  have h2 := wy_bd hb hL hu
  unfold ShW nrP
  split <;> split <;> omega
theorem nrP_ge {d : Nat → Nat → Int} {v : Nat} {L : List Nat} : 0 ≤ nrP d v L := by
  unfold nrP; split <;> omega
theorem ffI_ffB {d : Nat → Nat → Int} {n : Nat} {L : List Nat} (hb : Bd54 d n) (hL : ∀ i ∈ L, i < n) : ∀ m, m ≤ n → (ffB d L m = (0, -1) ∧ ffI d L m = 0 ∧ (m = 0 ∨ nrP d 0 L = 0)) ∨ ∃ b : Nat, b < m ∧ ffB d L m = (nrP d b L, (b : Int)) ∧ ffI d L m = b
  | 0, _ => .inl ⟨rfl, rfl, .inl rfl⟩
  | m + 1, hm => by
    rcases ffI_ffB hb hL m (by omega) with ⟨h1, h2, h3⟩ | ⟨b, h1, h2, h3⟩
    · simp only [ffB, ffI]
      rw [h1, h2]
      have hi := nrP_lt (d := d) (L := L) (v := m) (u := 0) hb hL (by omega) (by omega)
      by_cases e : m = 0
      · subst e
        have hs : ¬ ShW (wy d 0 L) (wy d 0 L) := fun hs => by have := hi.1 hs; omega
        by_cases hc : 0 < nrP d 0 L
        · rw [if_pos hc, if_neg hs]
          exact .inr ⟨0, by omega, rfl, rfl⟩
        · rw [if_neg hc, if_neg hs]
          have := nrP_ge (d := d) (v := 0) (L := L)
          exact .inl ⟨rfl, rfl, .inr (by omega)⟩
      · have h0 : nrP d 0 L = 0 := by omega
        rw [h0] at hi
        by_cases hc : 0 < nrP d m L
        · rw [if_pos hc, if_pos (hi.2 hc)]
          exact .inr ⟨m, by omega, rfl, rfl⟩
        · rw [if_neg hc, if_neg (fun h => hc (hi.1 h))]
          exact .inl ⟨rfl, rfl, .inr h0⟩
    · simp only [ffB, ffI]
      rw [h2, h3]
      have hi := nrP_lt (d := d) (L := L) (v := m) (u := b) hb hL (by omega) (by omega)
      by_cases hc : nrP d b L < nrP d m L
      · rw [if_pos hc, if_pos (hi.2 hc)]
        exact .inr ⟨m, by omega, rfl, rfl⟩
      · rw [if_neg hc, if_neg (fun h => hc (hi.1 h))]
        exact .inr ⟨b, by omega, rfl, rfl⟩
theorem ffI_max {d : Nat → Nat → Int} {n : Nat} {L : List Nat} (hb : Bd54 d n) (hL : ∀ i ∈ L, i < n) (hn : 1 ≤ n) : ∀ m, m ≤ n → ∀ v, v < m → nrP d v L ≤ nrP d (ffI d L m) L
  | 0, _, v, hv => by omega
  | m + 1, hm, v, hv => by
    have ih := ffI_max hb hL hn m (by omega)
    have hlt := ffI_lt d L hn m (by omega)
    by_cases hc : ShW (wy d (ffI d L m) L) (wy d m L)
    · rw [ffI_yes rfl hc]
      rw [nrP_lt hb hL (by omega) hlt] at hc
      by_cases e : v = m
      · subst e; exact Int.le_refl _
      · have := ih v (by omega); omega
    · rw [ffI_no rfl hc]
      rw [nrP_lt hb hL (by omega) hlt] at hc
      by_cases e : v = m
      · subst e; omega
      · exact ih v (by omega)
/-- How far the first one of the farthest is, is how far the farthest is. -/
theorem wy_far {d : Nat → Nat → Int} {n : Nat} {L : List Nat} (hb : Bd54 d n) (hL : ∀ i ∈ L, i < n) (hn : 1 ≤ n) : wy d (ffI d L n) L = radL d L n := by
  have hlt := ffI_lt d L hn n (Nat.le_refl _)
  have hmx := ffI_max hb hL hn n (Nat.le_refl _)
  have hw := wy_bd hb hL hlt
  rcases rad_cases d L n with ⟨h1, v, hv, h2⟩ | ⟨h1, h2, h3⟩
  · have h4 := hmx v hv
    have h5 : wy d v L < 0 := by
      rcases pkL_cases (d v) L with ⟨e1, _⟩ | ⟨e1, ⟨y, hy, e2⟩, _⟩
      · unfold wy; omega
      · have := h2 y hy; omega
    unfold nrP at h4
    rw [if_pos h5] at h4
    split at h4 <;> omega
  · have h4 := h2 _ hlt
    rcases h3 with h3 | ⟨v, hv, h3⟩
    · omega
    · have h5 := hmx v hv
      have h6 := h2 v hv
      unfold nrP at h5
      rw [if_neg (by omega), if_neg (by omega)] at h5
      omega

/-- The sets below S with m nodes. -/
def setsM (m S : Nat) : List Nat := (List.range S).filter fun s => decide (bc 7 s = m)
theorem setsM_iff {m S s : Nat} : s ∈ setsM m S ↔ s < S ∧ bc 7 s = m := by simp [setsM]
/-- The least one over all of these. -/
def nfS (d : Nat → Nat → Int) (n m S : Nat) : Int := pkL (fun s => radL d (memL s n) n) (setsM m S) (-1)
theorem nfS_zero (d : Nat → Nat → Int) (n m : Nat) : nfS d n m 0 = -1 := rfl
theorem setsM_succ (m S : Nat) : setsM m (S + 1) = setsM m S ++ (if bc 7 S = m then [S] else []) := by
  unfold setsM
  rw [List.range_succ, List.filter_append]
  congr 1
  by_cases h : bc 7 S = m <;> simp [h]
theorem nfS_skip {d : Nat → Nat → Int} {n m S : Nat} (h : ¬ bc 7 S = m) : nfS d n m (S + 1) = nfS d n m S := by
  unfold nfS; rw [setsM_succ, if_neg h, List.append_nil]
theorem nfS_low (d : Nat → Nat → Int) (n m S : Nat) : -1 ≤ nfS d n m S := by
  unfold nfS
  rcases pkL_cases (fun s => radL d (memL s n) n) (setsM m S) with ⟨h, _⟩ | ⟨h, _⟩ <;> omega
theorem rad_bd {d : Nat → Nat → Int} {n : Nat} {L : List Nat} (hb : Bd54 d n) (hL : ∀ i ∈ L, i < n) (hn : 1 ≤ n) : -1 ≤ radL d L n ∧ radL d L n ≤ 54 := by
  rw [← wy_far hb hL hn]
  exact wy_bd hb hL (ffI_lt d L hn n (Nat.le_refl _))
theorem memL_lt {s n : Nat} : ∀ i ∈ memL s n, i < n := fun i hi => (memL_iff.1 hi).1
theorem nfS_take {d : Nat → Nat → Int} {n m S : Nat} {x acc : Int} (h : bc 7 S = m) (ha : nfS d n m S = acc) (hx : radL d (memL S n) n = x) (h1 : -1 ≤ x) : nfS d n m (S + 1) = if ShW x acc then x else acc := by
  have h2 := nfS_low d n m S
  rw [ha] at h2
  unfold nfS at ha ⊢
  rw [setsM_succ, if_pos h, pkL_append, ha]
  simp only [pkL]
  rw [hx]
  by_cases hc : 0 ≤ x ∧ (acc < 0 ∨ x < acc)
  · have hs : ShW x acc := ⟨by omega, by omega⟩
    rw [if_pos hc, if_pos hs]
  · have hs : ¬ ShW x acc := fun hs => by
      have e1 := hs.1
      have e2 := hs.2
      omega
    rw [if_neg hc, if_neg hs]
theorem nfS_high {d : Nat → Nat → Int} {n m S : Nat} (hb : Bd54 d n) (hn : 1 ≤ n) : nfS d n m S ≤ 54 := by
  unfold nfS
  rcases pkL_cases (fun s => radL d (memL s n) n) (setsM m S) with ⟨h, _⟩ | ⟨_, ⟨s, hs, h2⟩, _⟩
  · omega
  · have := rad_bd (d := d) (L := memL s n) hb memL_lt hn
    omega
theorem nfS_is {d : Nat → Nat → Int} {n m : Nat} (h7 : n ≤ 7) : NfIs d n m (nfS d n m (2 ^ n)) := by
  have hJ : ∀ J, Asc n m J → ∃ s, s ∈ setsM m (2 ^ n) ∧ radL d (memL s n) n = radL d J n := fun J h =>
    ⟨stO J, setsM_iff.2 ⟨stO_lt h.2.1, by rw [stO_nodup h7 h.2.1 (h.1.imp fun hlt e => by omega), h.2.2]⟩, radL_mem (memL_stO h.2.1) n⟩
  unfold nfS
  rcases pkL_cases (fun s => radL d (memL s n) n) (setsM m (2 ^ n)) with ⟨h1, h2⟩ | ⟨h1, ⟨s, hs, h2⟩, h3⟩
  · refine .inl ⟨h1, fun J h => ?_⟩
    obtain ⟨s, hs, e⟩ := hJ J h
    rw [← e]; exact h2 s hs
  · obtain ⟨hs1, hs2⟩ := setsM_iff.1 hs
    refine .inr ⟨h1, ⟨memL s n, ⟨memL_asc _ _, memL_lt, by rw [memL_len h7 hs1, hs2]⟩, h2⟩, fun J h h0 => ?_⟩
    obtain ⟨t, ht, e⟩ := hJ J h
    rw [← e] at h0 ⊢
    exact h3 t ht h0

/-- A set is fine just if the nodes near its nodes are apart; no way may be -1. -/
theorem fine_iffR {d : Nat → Nat → Int} {far : Int} {n s : Nat} {N : Nat → Nat} (hs : s < 2 ^ n) (hN : ∀ i, i < n → ∀ v, (N i).testBit v = true ↔ v < n ∧ 0 ≤ d v i ∧ d v i ≤ far) :
    fnB d far s n n = true ↔ FineN N s 0 0 := by
  have hlt : ∀ i, s.testBit i = true → i < n := fun i hi => bit_ltn hs hi
  rw [fnB_iff]
  constructor
  · intro h
    refine ⟨fun i _ _ v ⟨_, h2⟩ => by simp at h2, fun i j _ hij h1 h2 v ⟨h3, h4⟩ => ?_⟩
    obtain ⟨hv, h5⟩ := (hN i (hlt i h1) v).1 h3
    obtain ⟨_, h6⟩ := (hN j (hlt j h2) v).1 h4
    have := h v hv
    have := nrB_two (d := d) (far := far) (v := v) ⟨h1, h5⟩ ⟨h2, h6⟩ hij (m := n) (hlt j h2)
    omega
  · rintro ⟨_, h⟩ v hv
    refine nrB_one fun i k hik hk ⟨h1, h3⟩ ⟨h4, h6⟩ => ?_
    exact h i k (by omega) hik h1 h4 v ⟨(hN i (by omega) v).2 ⟨hv, h3⟩, (hN k hk v).2 ⟨hv, h6⟩⟩
theorem mw_pkR {d : Nat → Nat → Int} {far : Int} {n : Nat} {N : Nat → Nat} (h7 : n ≤ 7) (hN : ∀ i, i < n → ∀ v, (N i).testBit v = true ↔ v < n ∧ 0 ≤ d v i ∧ d v i ≤ far) : mw N n 0 0 = pkB d far n (2 ^ n) := by
  apply Nat.le_antisymm
  · obtain ⟨s, h1, _, h2, h3⟩ := mw_at N h7 n 0 0 (by omega)
    rw [← h3]
    exact le_pkB h1 ((fine_iffR h1 hN).2 h2)
  · refine pkB_le _ fun s hs hf => ?_
    rw [← cn_bc h7 hs]
    exact mw_ge N s n 0 0 ((fine_iffR hs hN).1 hf)
/-- Each node's near ones meet the set just if the set covers. -/
theorem cover_iff {d : Nat → Nat → Int} {far : Int} {n s : Nat} {N : Nat → Nat} (hN : ∀ i, i < n → ∀ v, (N i).testBit v = true ↔ v < n ∧ 0 ≤ d i v ∧ d i v ≤ far) : cvF d far s n n = true ↔ ∀ v, v < n → ¬ N v &&& s = 0 := by
  rw [cvF_iff]
  constructor
  · intro h v hv he
    obtain ⟨i, hi, hb, hn⟩ := h v hv
    exact dj_and.1 he i ⟨(hN v hv i).2 ⟨hi, hn⟩, hb⟩
  · intro h v hv
    by_cases hc : ∃ i, i < n ∧ s.testBit i = true ∧ Nr d far v i
    · exact hc
    · exfalso
      refine h v hv (dj_and.2 fun i ⟨h1, h2⟩ => hc ?_)
      obtain ⟨h3, h4⟩ := (hN v hv i).1 h1
      exact ⟨i, h3, h2, h4⟩
end Go.Proofs.Ytdhelapgdgekfaa
namespace Go.Proofs.Ytdhelapgdgekfaa
open Go.ChangeShapes Go.WideShapes Go.ChangeAt Go.RowKit
set_option linter.unusedVariables false

theorem made_ints (n : Nat) : (madeCells (Value.int .i64 0).cells (n * 1)).toList = List.replicate n (Value.int .i64 0) := by
  rw [Nat.mul_one]; exact toList_madeCells_one _ _

theorem rdI_of_own {w : World} {B b n cap : Nat} {zs : List Int} (h : w.ownsRow B 3 1 (.slice (some ⟨b, 0, none⟩) n cap) n (zs.map (Value.int .i64))) (hn : zs.length = n) : RdI w w.heap.size (some ⟨b, 0, none⟩) zs := fun _ =>
  ⟨b, 0, rfl, (h.lt b rfl).2, fun i hi => by
    rw [Nat.zero_add, h.cellAt i (by omega)]
    simp [List.getElem?_eq_getElem hi]⟩
def EqRel (n k : Nat) (zs zs' : List Int) : Prop := k ≤ n ∧ zs.take k = zs'.take k
theorem eqRel_step {n k : Nat} {zs zs' : List Int} (h : EqRel n k zs zs') (hn : zs.length = n) (hn' : zs'.length = n) (hk : k < n) (e : zs.getD k 0 = zs'.getD k 0) : EqRel n (k + 1) zs zs' := by
  refine ⟨hk, ?_⟩
  rw [List.take_succ_eq_append_getElem (by omega), List.take_succ_eq_append_getElem (by omega), h.2]
  have e1 : zs.getD k 0 = zs[k]'(by omega) := by simp [List.getD, List.getElem?_eq_getElem (show k < zs.length by omega)]
  have e2 : zs'.getD k 0 = zs'[k]'(by omega) := by simp [List.getD, List.getElem?_eq_getElem (show k < zs'.length by omega)]
  rw [e1, e2] at e
  rw [e]
theorem eqRel_no {k : Nat} {zs zs' : List Int} (e : ¬ zs.getD k 0 = zs'.getD k 0) : (zs == zs') = false := by
  rw [beq_eq_false_iff_ne]
  rintro rfl
  exact e rfl
theorem eqRel_end {n k : Nat} {zs zs' : List Int} (h : EqRel n k zs zs') (hn : zs.length = n) (hn' : zs'.length = n) (hk : n ≤ k) : (zs == zs') = true := by
  have := h.2
  rw [List.take_of_length_le (by omega), List.take_of_length_le (by omega)] at this
  rw [this]; simp

set_option maxHeartbeats 400000 in
theorem eqInt_any (A A' : Option Addr) (c c' n n' : Nat) (zs zs' : List Int) (w : World) (B B' : Nat) (hr : RdI w B A zs) (hn : zs.length = n) (hr' : RdI w B' A' zs') (hn' : zs'.length = n') (hb : n ≤ 1048576) :
    Calls Try.prog 86 #[.slice A n c, .slice A' n' c'] w fun e w' => e = .returned (.bool (zs == zs')) ∧ ∃ q, w' = w.drewN q := by
  by_cases hnn : n = n'
  · subst hnn
    have Hn := Lib.hid hn
    have Hn' := Lib.hid hn'
    clear hn hn'
    go_enter Try.func86, Try.ntmps86
    go_wp2
    go_loopw [5] (fun i wr => ∃ k : Nat, ∃ q, EqRel n k zs zs' ∧ i = .int .i64 k ∧ wr = w.drewN q) (fun i wr => n - (intOf i).toNat)
    case atStart => exact ⟨0, 0, ⟨Nat.zero_le _, rfl⟩, rfl, rfl⟩
    case round =>
      obtain ⟨k, q, hk, rfl, rfl⟩ := hrel
      by_cases hlt : k < n
      · obtain ⟨b, off, x, rfl, hbw, Hx, hc⟩ := hr.x (k := k) (by rw [Hn.out]; exact hlt)
        obtain ⟨b', off', y, rfl, hbw', Hy, hc'⟩ := hr'.x (k := k) (by rw [Hn'.out]; exact hlt)
        by_cases he : x = y
        · have hs := eqRel_step hk Hn.out Hn'.out hlt (Hx.out.trans (he.trans Hy.out.symm))
          subst he
          have hb1 : (x != x) = false := by simp
          have Hs := Lib.hid hs
          clear hs
          go_wp2
          go_quiet (fail)
          go_wp2
          go_roundw
          case rel => exact ⟨k + 1, _, Hs.out, by go_num, rfl⟩
          case measure => simp [intOf]; omega
        · have hs : (zs == zs') = false := eqRel_no (k := k) (by rw [Hx.out, Hy.out]; exact he)
          have hb1 : (x != y) = true := by rw [bne_iff_ne]; exact he
          have Hs := Lib.hid hs
          clear hs he
          go_wp2
          go_quiet (fail)
          go_wp2
          go_ret
          exact ⟨ret_bool Hs.out.symm, _, World.drewN_drewN _ _ _⟩
      · have hs := eqRel_end hk Hn.out Hn'.out (by omega)
        have Hs := Lib.hid hs
        clear hs
        go_wp2
        go_ret
        exact ⟨ret_bool Hs.out.symm, _, rfl⟩
  · have hs : (zs == zs') = false := by
      rw [beq_eq_false_iff_ne]
      rintro rfl
      omega
    have hb1 : ((n : Int) != (n' : Int)) = true := by rw [bne_iff_ne]; omega
    have Hs := Lib.hid hs
    clear hs hn hn' hnn
    go_enter Try.func86, Try.ntmps86
    go_wp2
    go_ret
    exact ⟨ret_bool Hs.out.symm, 0, rfl⟩
end Go.Proofs.Ytdhelapgdgekfaa
namespace Go.Proofs.Ytdhelapgdgekfaa
open Go.ChangeShapes Go.WideShapes Go.ChangeAt Go.RowKit
set_option linter.unusedVariables false

theorem eqInt_same (A A' : Option Addr) (c c' n n' : Nat) (zs : List Int) (w : World) (B B' : Nat) (hr : RdI w B A zs) (hn : zs.length = n) (hr' : RdI w B' A' zs) (hn' : zs.length = n') (hb : n ≤ 1048576) :
    Calls Try.prog 86 #[.slice A n c, .slice A' n' c'] w fun e w' => e = .returned (.bool true) ∧ ∃ q, w' = w.drewN q :=
  (eqInt_any A A' c c' n n' zs zs w B B' hr hn hr' hn' hb).mono fun _ _ ⟨he, hw⟩ => ⟨by rw [he]; simp, hw⟩

/-- A contract whose call only draws, as one that keeps what is below. -/
theorem calls_drawn {P : Program} {f : FuncId} {args : Array Value} {w : World} {v : Value}
    (h : Calls P f args w fun e w' => e = .returned v ∧ ∃ q, w' = w.drewN q) : Calls P f args w fun e w' => e = .returned v ∧ Below w.heap.size w w' :=
  h.mono fun _ _ ⟨he, q, hq⟩ => ⟨he, by rw [hq]; exact below_drewN (Below.refl _ _) _⟩
theorem calls_same {P : Program} {f : FuncId} {args : Array Value} {w : World} {v : Value}
    (h : Calls P f args w fun e w' => e = .returned v ∧ w = w') : Calls P f args w fun e w' => e = .returned v ∧ Below w.heap.size w w' :=
  h.mono fun _ _ ⟨he, hq⟩ => ⟨he, by rw [← hq]; exact Below.refl _ _⟩
end Go.Proofs.Ytdhelapgdgekfaa
namespace Go.Proofs.Ytdhelapgdgekfaa
open Go.ChangeShapes Go.WideShapes Go.ChangeAt Go.RowKit
set_option linter.unusedVariables false
set_option maxRecDepth 4000

theorem belowd {a w : World} (h : Below a.drew.heap.size a.drew w) : Below a.heap.size a w := ⟨h.os, h.tape, h.output, h.size, h.block⟩

/-- The first k numbers are there, then zeros. -/
def fillL (zs : List Int) (k : Nat) : List Value := (zs.take k).map (Value.int .i64) ++ List.replicate (zs.length - k) (Value.int .i64 0)
theorem fill_step {w : World} {B b n cap sz k : Nat} {t : TypeId} {zs : List Int} (hk : k < zs.length)
    (hown : w.ownsRow B t sz (.slice (some ⟨b, 0, none⟩) n cap) n (fillL zs k)) :
    (w.setCell ⟨b, k, none⟩ (Value.int .i64 (zs.getD k 0))).ownsRow B t sz (.slice (some ⟨b, 0, none⟩) n cap) n (fillL zs (k + 1)) := by
  have h := hown.stored k (Value.int .i64 (zs.getD k 0))
  have e : (fillL zs k).set k (Value.int .i64 (zs.getD k 0)) = fillL zs (k + 1) := by
    unfold fillL
    have hl : ((zs.take k).map (Value.int .i64)).length = k := by simp; omega
    rw [List.set_append_right _ _ (by omega), hl, Nat.sub_self]
    have hr : List.replicate (zs.length - k) (Value.int .i64 0) = Value.int .i64 0 :: List.replicate (zs.length - (k + 1)) (Value.int .i64 0) := by
      rw [show zs.length - k = (zs.length - (k + 1)) + 1 by omega]; rfl
    rw [hr, List.set_cons_zero, List.take_succ_eq_append_getElem (by omega), List.map_append]
    have hg : zs.getD k 0 = zs[k]'(by omega) := by simp [List.getD, List.getElem?_eq_getElem (show k < zs.length by omega)]
    rw [hg]; simp
  rw [e] at h
  exact h.1
theorem fillL_len (zs : List Int) {k : Nat} (hk : k ≤ zs.length) : (fillL zs k).length = zs.length := by unfold fillL; simp; omega
theorem fillL_all (zs : List Int) {k : Nat} (hk : zs.length ≤ k) : fillL zs k = zs.map (Value.int .i64) := by
  unfold fillL
  rw [List.take_of_length_le hk, show zs.length - k = 0 by omega]; simp
theorem rdI_of_ownN {w : World} {B b n cap sz : Nat} {t : TypeId} {zs : List Int} (h : w.ownsRow B t sz (.slice (some ⟨b, 0, none⟩) n cap) n (zs.map (Value.int .i64))) (hn : zs.length = n * sz) : RdI w w.heap.size (some ⟨b, 0, none⟩) zs := fun _ =>
  ⟨b, 0, rfl, (h.lt b rfl).2, fun i hi => by
    rw [Nat.zero_add, h.cellAt i (by omega)]
    simp [List.getElem?_eq_getElem hi]⟩
theorem ownN_below {w w' : World} {B s n : Nat} {e : TypeId} {v : Value} {xs : List Value} (h : w.ownsRow B e s v n xs) (hb : Below w.heap.size w w') : w'.ownsRow B e s v n xs := by
  refine ⟨h.1, ?_⟩
  rcases h.2 with h0 | ⟨g, cap, cur, h1, h2, hg, h3⟩
  · exact .inl h0
  · exact .inr ⟨g, cap, cur, h1, h2, (hb.block g (Array.getElem?_eq_some_iff.1 hg).1).trans hg, h3⟩
theorem own_sliceN {w : World} {B n sz : Nat} {t : TypeId} {v : Value} {xs : List Value} (h : w.ownsRow B t sz v n xs) : ∃ A c, v = .slice A n c ∧ n ≤ c ∧ c ≤ 9223372036854775807 ∧ (0 < n → ∃ g, A = some ⟨g, 0, none⟩ ∧ B ≤ g ∧ g < w.heap.size) := by
  have h0 := h
  rcases h.2 with ⟨rfl, rfl⟩ | ⟨g, cap, cur, rfl, _, _, hnc, hmx, _⟩
  · exact ⟨none, 0, rfl, Nat.le_refl _, by omega, fun hp => by omega⟩
  · exact ⟨_, cap, rfl, hnc, hmx, fun _ => ⟨g, rfl, h0.lt g rfl⟩⟩
theorem addr_add0 {b k : Nat} : (⟨b, 0, none⟩ : Addr).add k = ⟨b, k, none⟩ := by unfold Addr.add; split <;> simp_all
theorem own_cell {w : World} {B b n cap sz : Nat} {t : TypeId} {xs : List Value} (h : w.ownsRow B t sz (.slice (some ⟨b, 0, none⟩) n cap) n xs) {j : Nat} (hj : j < n * sz) (hl : xs.length = n * sz) : ∃ v, w.cell? ⟨b, j, none⟩ = some v := by
  rw [h.cellAt j hj]
  exact ⟨_, List.getElem?_eq_getElem (by omega)⟩
theorem gb_trans {R : Nat} {a b c : World} {row : Option Nat} (h : a.grownBy b (some R)) (k : b.grownBy c row) (hr : row = some R ∨ ∀ g, row = some g → a.heap.size ≤ g) : a.grownBy c (some R) :=
  ⟨k.os.trans h.os, k.tape.trans h.tape, k.output.trans h.output, Nat.le_trans h.size k.size, fun i hi hne => (k.block i (Nat.lt_of_lt_of_le hi h.size) (by
    rcases hr with hr | hr
    · rw [hr]; exact hne
    · intro e; have := hr i e.symm; omega)).trans (h.block i hi hne)⟩
theorem gb_below {R B : Nat} {a b : World} (h : a.grownBy b (some R)) (hB : B ≤ R) (hR : R ≤ a.heap.size) : Below B a b :=
  ⟨h.os, h.tape, h.output, h.size, fun i hi => h.block i (by omega) (by intro e; injection e with e; omega)⟩
theorem size_alloc1 (w : World) (o : Obj) : (w.alloc o).heap.size = w.heap.size + 1 := by show (w.heap.push o).size = _; simp
theorem grown_node {W w1 : World} {row : Option Nat} {Q : Nat} {o : Obj} (hg : W.grownBy w1 row) (hh : W.heap[Q]? = some o) (hne : row ≠ some Q) : w1.heap[Q]? = some o :=
  (hg.block Q (Array.getElem?_eq_some_iff.1 hh).1 (fun e => hne e.symm)).trans hh
theorem frozen_of_row (w : World) (g j : Nat) (cs : Array Value) (t : TypeId) (hh : w.heap[g]? = some (.cells cs t (0, 0))) : w.frozen? ⟨g, j, none⟩ = false := by simp [World.frozen?, hh]
theorem own_heap {w : World} {B s n : Nat} {e : TypeId} {v : Value} {xs : List Value} (h : w.ownsRow B e s v n xs) {g : Nat} (hg : v.ownBlock = some g) : (∃ cs, w.heap[g]? = some (.cells cs e (0, 0))) ∧ B ≤ g ∧ g < w.heap.size := by
  have hl := h.lt g hg
  rcases h.2 with ⟨rfl, _⟩ | ⟨g', cap, cur, rfl, h2, hb, h3⟩
  · simp [Value.ownBlock] at hg
  · have e : g' = g := by simpa [Value.ownBlock] using hg
    subst e
    exact ⟨⟨cur, hb⟩, hl⟩
theorem types_apart {w : World} {g g' : Nat} {cs cs' : Array Value} {ty ty' : TypeId} {fz fz' : Nat × Nat} (h : w.heap[g]? = some (.cells cs ty fz)) (h' : w.heap[g']? = some (.cells cs' ty' fz')) (hne : ty ≠ ty') : g ≠ g' := by
  rintro rfl
  rw [h] at h'
  injection h' with h'
  injection h' with _ e _
  exact hne e
theorem grown_refl (w : World) (row : Option Nat) : w.grownBy w row := ⟨rfl, rfl, rfl, Nat.le_refl _, fun _ _ _ => rfl⟩
theorem grown_trans {R : Nat} {a b c : World} (h : a.grownBy b (some R)) (k : b.grownBy c (some R)) : a.grownBy c (some R) := gb_trans h k (.inl rfl)
theorem own_blockN {w : World} {B b n : Nat} {t : TypeId} {xs : List Value} (h : w.ownsRow B t 1 (.slice (some ⟨b, 0, none⟩) n n) n xs) : w.heap[b]? = some (.cells xs.toArray t (0, 0)) := by
  rcases h.2 with ⟨h', _⟩ | ⟨g, cap, cur, h', _, hb, _, _, hs, ht⟩
  · simp at h'
  · injection h' with h1 h2 h3
    injection h1 with h1
    injection h1 with h1
    subst h1 h3
    rw [hb]
    congr 2
    rw [← ht]
    rw [List.take_of_length_le (by rw [Array.length_toList, hs]; omega)]
def upd {α : Type} (f : Nat → α) (r : Nat) (v : α) : Nat → α := fun i => if i = r then v else f i
theorem upd_at {α : Type} (f : Nat → α) (r : Nat) (v : α) : upd f r v r = v := if_pos rfl
theorem upd_other {α : Type} (f : Nat → α) {r i : Nat} (v : α) (h : i ≠ r) : upd f r v i = f i := if_neg h
/-- Rows of ints, each in a block of its own, from block B on. -/
structure TT (w : World) (B m : Nat) (VR : Nat → Value) (ls : Nat → List Int) : Prop where
  own : ∀ j, j < m → w.ownsRow B 3 1 (VR j) (ls j).length ((ls j).map (Value.int .i64))
  dis : ∀ i j g, i < m → j < m → (VR i).ownBlock = some g → (VR j).ownBlock = some g → i = j
theorem TT.below {w w' : World} {B m : Nat} {VR : Nat → Value} {ls : Nat → List Int} (h : TT w B m VR ls) (hb : Below w.heap.size w w') : TT w' B m VR ls :=
  ⟨fun j hj => ownN_below (h.own j hj) hb, h.dis⟩
theorem TT.congr {w : World} {B m : Nat} {VR : Nat → Value} {ls ls' : Nat → List Int} (h : TT w B m VR ls) (he : ∀ j, j < m → ls j = ls' j) : TT w B m VR ls' :=
  ⟨fun j hj => by rw [← he j hj]; exact h.own j hj, h.dis⟩
theorem TT.append {w W w2 : World} {B m r g2 l2 c2 : Nat} {d : Int} {VR : Nat → Value} {ls : Nat → List Int} (h : TT w B m VR ls) (hr : r < m) (hW : Below w.heap.size w W) (hg : W.grownBy w2 (VR r).ownBlock)
    (hown : w2.ownsRow B 3 1 (.slice (some ⟨g2, 0, none⟩) l2 c2) l2 ((ls r).map (Value.int .i64) ++ [Value.int .i64 d])) (hl2 : l2 = (ls r).length + 1) (hat : (VR r).ownBlock = some g2 ∨ g2 = W.heap.size) :
    TT w2 B m (upd VR r (.slice (some ⟨g2, 0, none⟩) l2 c2)) (upd ls r (ls r ++ [d])) := by
  have hTW := h.below hW
  have hlt : ∀ {i g}, i < m → (VR i).ownBlock = some g → g < w.heap.size := fun hi e => (own_heap (h.own _ hi) e).2.2
  constructor
  · intro j hj
    by_cases e : j = r
    · subst e
      rw [upd_at, upd_at]
      simp only [List.length_append, List.length_cons, List.length_nil, Nat.zero_add, ← hl2, List.map_append, List.map_cons, List.map_nil]
      exact hown
    · rw [upd_other _ _ e, upd_other _ _ e]
      exact (hTW.own j hj).kept hg (by
        rcases e' : (VR j).ownBlock with _ | g
        · exact .inl rfl
        · right; intro e2; exact e (h.dis j r g hj hr e' e2.symm))
  · intro i j g hi hj h1 h2
    have hs := hW.size
    by_cases e1 : i = r <;> by_cases e2 : j = r
    · omega
    · subst e1
      rw [upd_at] at h1; rw [upd_other _ _ e2] at h2
      have : g2 = g := by simpa [Value.ownBlock] using h1
      subst this
      rcases hat with ha | ha
      · exact h.dis i j _ hr hj ha h2
      · have := hlt hj h2; omega
    · subst e2
      rw [upd_at] at h2; rw [upd_other _ _ e1] at h1
      have : g2 = g := by simpa [Value.ownBlock] using h2
      subst this
      rcases hat with ha | ha
      · exact h.dis i j _ hi hr h1 ha
      · have := hlt hi h1; omega
    · rw [upd_other _ _ e1] at h1; rw [upd_other _ _ e2] at h2
      exact h.dis i j g hi hj h1 h2
theorem TT.store {w : World} {B m g k : Nat} {VR : Nat → Value} {ls : Nat → List Int} {v : Value} {cs : Array Value} {ty : TypeId} (h : TT w B m VR ls) (hc : w.heap[g]? = some (.cells cs ty (0, 0))) (hne : ty ≠ 3) : TT (w.setCell ⟨g, k, none⟩ v) B m VR ls :=
  ⟨fun j hj => ownsRow_setCell_other (h.own j hj) (fun e => by
    obtain ⟨⟨cs', hc'⟩, _⟩ := own_heap (h.own j hj) e
    exact types_apart hc hc' hne rfl) _, h.dis⟩
theorem TT.add {w : World} {B m : Nat} {VR : Nat → Value} {ls : Nat → List Int} (h : TT w B m VR ls) (hB : B ≤ w.heap.size) : TT (w.alloc (.cells #[] 3)) B (m + 1) (upd VR m (.slice (some ⟨w.heap.size, 0, none⟩) 0 0)) (upd ls m []) := by
  have hb := (Below.refl w.heap.size w).alloc (Nat.le_refl _) (.cells #[] 3)
  constructor
  · intro j hj
    by_cases e : j = m
    · subst e
      rw [upd_at, upd_at]
      exact World.ownsRow_lit w #[] 0 hB (by decide) rfl
    · rw [upd_other _ _ e, upd_other _ _ e]
      exact ownN_below (h.own j (by omega)) hb
  · intro i j g hi hj h1 h2
    by_cases e1 : i = m <;> by_cases e2 : j = m
    · omega
    · rw [e1, upd_at] at h1; rw [upd_other _ _ e2] at h2
      have : w.heap.size = g := by simpa [Value.ownBlock] using h1
      have := (own_heap (h.own j (by omega)) h2).2.2; omega
    · rw [e2, upd_at] at h2; rw [upd_other _ _ e1] at h1
      have : w.heap.size = g := by simpa [Value.ownBlock] using h2
      have := (own_heap (h.own i (by omega)) h1).2.2; omega
    · rw [upd_other _ _ e1] at h1; rw [upd_other _ _ e2] at h2
      exact h.dis i j g (by omega) (by omega) h1 h2
/-- The rows' outer slice. -/
def Outer (w : World) (B n : Nat) (v : Value) (VR : Nat → Value) : Prop := w.ownsRow B 37 1 v n ((List.range n).map VR)
theorem Outer.kept {w W w2 : World} {B n m r : Nat} {v : Value} {VR VR' : Nat → Value} {ls : Nat → List Int} (h : Outer w B n v VR) (ht : TT w B m VR' ls) (hr : r < m) (hW : Below w.heap.size w W) (hg : W.grownBy w2 (VR' r).ownBlock) : Outer w2 B n v VR :=
  (ownN_below h hW).kept hg (by
    rcases e : v.ownBlock with _ | g
    · exact .inl rfl
    · right
      intro e2
      obtain ⟨⟨cs, hc⟩, _⟩ := own_heap h e
      obtain ⟨⟨cs', hc'⟩, _⟩ := own_heap (ht.own r hr) e2.symm
      exact types_apart hc hc' (by decide) rfl)
theorem Outer.congr {w : World} {B n : Nat} {v : Value} {VR VR' : Nat → Value} (h : Outer w B n v VR) (he : ∀ j, j < n → VR j = VR' j) : Outer w B n v VR' := by
  unfold Outer at h ⊢
  rw [← List.map_congr_left (f := VR) fun i hi => he i (List.mem_range.1 hi)]; exact h
theorem Outer.cell {w : World} {B n g c : Nat} {VR : Nat → Value} (h : Outer w B n (.slice (some ⟨g, 0, none⟩) n c) VR) {j : Nat} (hj : j < n) : w.cell? ⟨g, j, none⟩ = some (VR j) := by
  rw [World.ownsRow.cellAt h j (by omega)]
  simp [hj]
theorem Outer.stored {w : World} {B n g c k : Nat} {VR : Nat → Value} {v : Value} (h : Outer w B n (.slice (some ⟨g, 0, none⟩) n c) VR) (hk : k < n) : Outer (w.setCell ⟨g, k, none⟩ v) B n (.slice (some ⟨g, 0, none⟩) n c) (upd VR k v) := by
  have h1 := (World.ownsRow.stored h k v).1
  unfold Outer
  have e : ((List.range n).map VR).set k v = (List.range n).map (upd VR k v) := by
    apply List.ext_getElem?
    intro i
    rw [List.getElem?_set]
    by_cases hi : i < n
    · by_cases e : k = i
      · subst e; simp [hi, upd_at]
      · simp [hi, e, upd_other VR v (fun h => e h.symm)]
    · simp [hi]; omega
  rw [← e]; exact h1
theorem TT.drewN {w : World} {B m : Nat} {VR : Nat → Value} {ls : Nat → List Int} (h : TT w B m VR ls) (q : Nat) : TT (w.drewN q) B m VR ls := ⟨fun j hj => h.own j hj, h.dis⟩
theorem Outer.drewN {w : World} {B n : Nat} {v : Value} {VR : Nat → Value} (h : Outer w B n v VR) (q : Nat) : Outer (w.drewN q) B n v VR := h
/-- A row's cells. -/
theorem TT.cells {w : World} {B m : Nat} {VR : Nat → Value} {ls : Nat → List Int} (h : TT w B m VR ls) {j k : Nat} (hj : j < m) (hk : k < (ls j).length) :
    ∃ g c, VR j = .slice (some ⟨g, 0, none⟩) (ls j).length c ∧ w.cell? ⟨g, k, none⟩ = some (.int .i64 ((ls j).getD k 0)) := by
  obtain ⟨A, c, e, _, _, h3⟩ := own_sliceN (h.own j hj)
  obtain ⟨g, rfl, _⟩ := h3 (by omega)
  have h1 := h.own j hj
  rw [e] at h1
  refine ⟨g, c, e, ?_⟩
  rw [h1.cellAt k (by omega)]
  simp [List.getElem?_eq_getElem hk]
theorem TT.keptBy {w w' : World} {B m : Nat} {VR : Nat → Value} {ls : Nat → List Int} {row : Option Nat} (h : TT w B m VR ls) (hg : w.grownBy w' row) (hr : ∀ g, row = some g → ∃ cs ty, w.heap[g]? = some (.cells cs ty (0, 0)) ∧ ty ≠ 3) : TT w' B m VR ls :=
  ⟨fun j hj => (h.own j hj).kept hg (by
    rcases e : (VR j).ownBlock with _ | g
    · exact .inl rfl
    · right
      intro e'
      obtain ⟨cs, ty, hc, hne⟩ := hr g e'.symm
      obtain ⟨⟨cs', hc'⟩, _⟩ := own_heap (h.own j hj) e
      exact types_apart hc hc' hne rfl), h.dis⟩
theorem slInfo2 : (Try.prog.info? 37).map (fun i => (i.zero, i.size, i.bytes)) = some (some (.slice none 0 0), 1, 24) := by kernel_rfl
theorem Outer.below {w w' : World} {B n : Nat} {v : Value} {VR : Nat → Value} (h : Outer w B n v VR) (hb : Below w.heap.size w w') : Outer w' B n v VR := ownN_below h hb
theorem Outer.keptRow {w w' : World} {B n b : Nat} {v : Value} {VR : Nat → Value} {cs : Array Value} {ty : TypeId} (h : Outer w B n v VR) (hg : w.grownBy w' (some b)) (hc : w.heap[b]? = some (.cells cs ty (0, 0))) (hne : ty ≠ 37) : Outer w' B n v VR :=
  World.ownsRow.kept h hg (by
    rcases e : v.ownBlock with _ | g
    · exact .inl rfl
    · right
      intro e2
      injection e2 with e2
      subst e2
      obtain ⟨⟨cs', hc'⟩, _⟩ := own_heap h e
      exact types_apart hc hc' hne rfl)
/-- A row of a table, as it is read. -/
theorem TT.row {w : World} {B m : Nat} {VR : Nat → Value} {ls : Nat → List Int} (h : TT w B m VR ls) {j : Nat} (hj : j < m) : ∃ A c, VR j = .slice A (ls j).length c ∧ RdI w w.heap.size A (ls j) := by
  have h1 := h.own j hj
  obtain ⟨A, c, e, _, _, h3⟩ := own_sliceN h1
  refine ⟨A, c, e, fun hp => ?_⟩
  obtain ⟨g, rfl, _, _⟩ := h3 hp
  rw [e] at h1
  exact rdI_of_own h1 rfl hp
end Go.Proofs.Ytdhelapgdgekfaa
namespace Go.Proofs.Ytdhelapgdgekfaa
open Go.ChangeShapes Go.WideShapes Go.ChangeAt Go.RowKit
set_option linter.unusedVariables false

abbrev Str := Int × Int × Int
abbrev str0 : Str := (0, 0, 0)
/-- The streets as the cells hold them. -/
def flat3 : List Str → List Int
  | [] => []
  | p :: r => p.1 :: p.2.1 :: p.2.2 :: flat3 r
theorem flat3_len : ∀ ss, (flat3 ss).length = ss.length * 3
  | [] => rfl
  | p :: r => by simp only [flat3, List.length_cons, flat3_len r]; omega
theorem flat3_0 : ∀ (ss : List Str) k, k < ss.length → (flat3 ss).getD (k * 3) 0 = (ss.getD k str0).1
  | [], k, h => by simp at h
  | p :: r, 0, h => rfl
  | p :: r, k + 1, h => by
    rw [show (k + 1) * 3 = k * 3 + 1 + 1 + 1 by omega]
    simp only [flat3, List.getD_cons_succ]
    exact flat3_0 r k (by simpa using h)
theorem flat3_1 : ∀ (ss : List Str) k, k < ss.length → (flat3 ss).getD (k * 3 + 1) 0 = (ss.getD k str0).2.1
  | [], k, h => by simp at h
  | p :: r, 0, h => rfl
  | p :: r, k + 1, h => by
    rw [show (k + 1) * 3 + 1 = k * 3 + 1 + 1 + 1 + 1 by omega]
    simp only [flat3, List.getD_cons_succ]
    exact flat3_1 r k (by simpa using h)
theorem flat3_2 : ∀ (ss : List Str) k, k < ss.length → (flat3 ss).getD (k * 3 + 2) 0 = (ss.getD k str0).2.2
  | [], k, h => by simp at h
  | p :: r, 0, h => rfl
  | p :: r, k + 1, h => by
    rw [show (k + 1) * 3 + 2 = k * 3 + 2 + 1 + 1 + 1 by omega]
    simp only [flat3, List.getD_cons_succ]
    exact flat3_2 r k (by simpa using h)
theorem flat3_append : ∀ a b, flat3 (a ++ b) = flat3 a ++ flat3 b
  | [], b => rfl
  | p :: r, b => by simp [flat3, flat3_append r b]
theorem flat3_take : ∀ (ss : List Str) k, flat3 (ss.take k) = (flat3 ss).take (k * 3)
  | [], k => by simp [flat3]
  | p :: r, 0 => by simp [flat3]
  | p :: r, k + 1 => by
    rw [show (k + 1) * 3 = k * 3 + 1 + 1 + 1 by omega]
    simp [flat3, flat3_take r k]
/-- The slice with address A reads as the streets ss, below block B. -/
def RdS (w : World) (B : Nat) (A : Option Addr) (ss : List Str) : Prop := RdI w B A (flat3 ss)
theorem RdS.x {w : World} {B : Nat} {A : Option Addr} {ss : List Str} (h : RdS w B A ss) {k : Nat} (hk : k < ss.length) :
    ∃ b off x y z, A = some ⟨b, off, none⟩ ∧ b < B ∧ Hid (ss.getD k str0 = (x, y, z)) ∧ w.cell? ⟨b, off + k * 3, none⟩ = some (.int .i64 x) ∧ w.cell? ⟨b, off + k * 3 + 1, none⟩ = some (.int .i64 y) ∧ w.cell? ⟨b, off + k * 3 + 2, none⟩ = some (.int .i64 z) := by
  have hl := flat3_len ss
  obtain ⟨b, off, e, hb, hc⟩ := h (by omega)
  refine ⟨b, off, (ss.getD k str0).1, (ss.getD k str0).2.1, (ss.getD k str0).2.2, e, hb, rfl, ?_, ?_, ?_⟩
  · rw [hc _ (by omega), flat3_0 _ _ hk]
  · rw [Nat.add_assoc, hc _ (by omega), flat3_1 _ _ hk]
  · rw [Nat.add_assoc, hc _ (by omega), flat3_2 _ _ hk]
theorem RdS.keep {w w' : World} {B : Nat} {A : Option Addr} {ss : List Str} (h : RdS w B A ss) (hk : ∀ p : Addr, p.block < B → w'.cell? p = w.cell? p) : RdS w' B A ss := RdI.keep h hk
theorem RdS.below {w w' : World} {B : Nat} {A : Option Addr} {ss : List Str} (h : RdS w B A ss) (hb : Below B w w') : RdS w' B A ss := RdI.below h hb
theorem RdS.more {w : World} {B B' : Nat} {A : Option Addr} {ss : List Str} (h : RdS w B A ss) (hB : B ≤ B') : RdS w B' A ss := RdI.more h hB
theorem RdS.drewN {w : World} {B : Nat} {A : Option Addr} {ss : List Str} (h : RdS w B A ss) (n : Nat) : RdS (w.drewN n) B A ss := h
theorem RdS.nil (w : World) (B : Nat) (A : Option Addr) : RdS w B A [] := RdI.nil w B A
theorem RdS.take {w : World} {B : Nat} {A : Option Addr} {ss : List Str} (h : RdS w B A ss) (k : Nat) : RdS w B A (ss.take k) := by
  intro hp
  rw [flat3_take] at hp ⊢
  rw [List.length_take] at hp
  obtain ⟨b, off, e, hb, hc⟩ := h (by omega)
  refine ⟨b, off, e, hb, fun i hi => ?_⟩
  rw [List.length_take] at hi
  rw [hc i (by omega)]
  congr 2
  simp only [List.getD, List.getElem?_take]
  rw [if_pos (by omega)]

/-- One street of a net of n nodes. -/
def OkS (n : Int) (p : Str) : Prop := (0 ≤ p.1 ∧ p.1 < n) ∧ (0 ≤ p.2.1 ∧ p.2.1 < n) ∧ 1 ≤ p.2.2 ∧ p.2.2 ≤ 9
instance (n : Int) (p : Str) : Decidable (OkS n p) := by unfold OkS; infer_instance
/-- ValidNet. -/
def vnet (n : Int) (ss : List Str) : Bool := decide ((1 ≤ n ∧ n ≤ 7) ∧ ss.length ≤ 12 ∧ ∀ p ∈ ss, OkS n p)
theorem vnet_iff (n : Int) (ss : List Str) : vnet n ss = true ↔ (1 ≤ n ∧ n ≤ 7) ∧ ss.length ≤ 12 ∧ ∀ p ∈ ss, OkS n p := by unfold vnet; rw [decide_eq_true_iff]
theorem getD_mem3 {ss : List Str} {k : Nat} (hk : k < ss.length) : ss.getD k str0 ∈ ss := by
  rw [List.getD_eq_getElem?_getD, List.getElem?_eq_getElem hk]
  exact List.getElem_mem hk
theorem mem_getD3 {ss : List Str} {p : Str} (h : p ∈ ss) : ∃ k, k < ss.length ∧ ss.getD k str0 = p := by
  obtain ⟨k, hk, e⟩ := List.getElem_of_mem h
  exact ⟨k, hk, by rw [List.getD_eq_getElem?_getD, List.getElem?_eq_getElem hk, ← e]; rfl⟩
theorem vnet_no_n {n : Int} {ss : List Str} (h : n < 1 ∨ 7 < n) : vnet n ss = false := by
  rw [Bool.eq_false_iff]; intro h'
  have := (vnet_iff n ss).1 h'
  omega
theorem vnet_no_len {n : Int} {ss : List Str} (h : 12 < ss.length) : vnet n ss = false := by
  rw [Bool.eq_false_iff]; intro h'
  have := (vnet_iff n ss).1 h'
  omega
theorem vnet_no_at {n : Int} {ss : List Str} {k : Nat} {x y z : Int} (hk : k < ss.length) (hx : ss.getD k str0 = (x, y, z)) (h : x < 0 ∨ n ≤ x ∨ y < 0 ∨ n ≤ y ∨ z < 1 ∨ 9 < z) : vnet n ss = false := by
  rw [Bool.eq_false_iff]; intro h'
  have := ((vnet_iff n ss).1 h').2.2 _ (getD_mem3 hk)
  rw [hx] at this
  unfold OkS at this
  simp only at this
  omega
/-- So far, all streets are fine. -/
def OkN (n : Int) (ss : List Str) (k : Nat) : Prop := ∀ i, i < k → OkS n (ss.getD i str0)
theorem OkN.zero (n : Int) (ss : List Str) : OkN n ss 0 := fun i hi => by omega
theorem OkN.step {n : Int} {ss : List Str} {k : Nat} {x y z : Int} (h : OkN n ss k) (hx : ss.getD k str0 = (x, y, z)) (h0 : 0 ≤ x) (h1 : x < n) (h2 : 0 ≤ y) (h3 : y < n) (h4 : 1 ≤ z) (h5 : z ≤ 9) : OkN n ss (k + 1) := fun i hi => by
  by_cases e : i = k
  · subst e; rw [hx]; exact ⟨⟨h0, h1⟩, ⟨h2, h3⟩, h4, h5⟩
  · exact h i (by omega)
theorem vnet_yes {n : Int} {ss : List Str} {k : Nat} (h : OkN n ss k) (h1 : 1 ≤ n) (h7 : n ≤ 7) (h12 : ss.length ≤ 12) (hk : ss.length ≤ k) : vnet n ss = true :=
  (vnet_iff n ss).2 ⟨⟨h1, h7⟩, h12, fun p hp => by
    obtain ⟨i, hi, e⟩ := mem_getD3 hp
    rw [← e]; exact h i (by omega)⟩
/-- Fewer streets are a net. -/
theorem vnet_take {n : Int} {ss : List Str} (h : vnet n ss = true) (k : Nat) : vnet n (ss.take k) = true := by
  obtain ⟨h1, h2, h3⟩ := (vnet_iff n ss).1 h
  exact (vnet_iff _ _).2 ⟨h1, by rw [List.length_take]; omega, fun p hp => h3 p (List.mem_of_mem_take hp)⟩
end Go.Proofs.Ytdhelapgdgekfaa
