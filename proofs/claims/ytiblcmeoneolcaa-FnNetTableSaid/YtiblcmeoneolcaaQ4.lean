/-
  Sets of nodes as numbers, as they are gone through one by one: the nearest of a set, the first of the farthest, the least over all sets of so many nodes.
  Conditions: at most seven nodes; ways are between -1 and 54.
-/
import Derived.Test.YtiblcmeoneolcaaQ2
namespace Go.Proofs.Ytiblcmeoneolcaa
open Go.ChangeShapes Go.WideShapes Go.ChangeAt Go.RowKit
set_option linter.unusedVariables false

theorem memL_succ (s m : Nat) : memL s (m + 1) = memL s m ++ (if s.testBit m = true then [m] else []) := by
  unfold memL
  rw [List.range_succ, List.filter_append]
  congr 1
  cases h : s.testBit m <;> simp [h]
/-- Whether a way is shorter than another, -1 longer than all. -/
def ShW (x y : Int) : Prop := ¬ x = -1 ∧ (y = -1 ∨ x < y)
instance (x y : Int) : Decidable (ShW x y) := by unfold ShW; infer_instance
theorem wyS_skip {d : Nat → Nat → Int} {s v m : Nat} (h : ¬ s.testBit m = true) : wy d v (memL s (m + 1)) = wy d v (memL s m) := by
  rw [memL_succ, if_neg h, List.append_nil]
theorem wyS_take {d : Nat → Nat → Int} {s v m : Nat} {x acc : Int} (h : s.testBit m = true) (ha : wy d v (memL s m) = acc) (hx : d v m = x) (h1 : -1 ≤ x) (h2 : -1 ≤ acc) : wy d v (memL s (m + 1)) = if ShW x acc then x else acc := by
  rw [memL_succ, if_pos h]
  unfold wy at ha ⊢
  rw [pkL_append, ha]
  simp only [pkL]
  rw [hx]
  by_cases hc : 0 ≤ x ∧ (acc < 0 ∨ x < acc)
  · have hs : ShW x acc := ⟨by omega, by omega⟩
    rw [if_pos hc, if_pos hs]
  · have hs : ¬ ShW x acc := fun hs => by
      have e1 := hs.1
      have e2 := hs.2
      omega
    rw [if_neg hc, if_neg hs]
theorem wy_low (d : Nat → Nat → Int) (v : Nat) (L : List Nat) : -1 ≤ wy d v L := by
  rcases pkL_cases (d v) L with ⟨h, _⟩ | ⟨h, _⟩ <;> (unfold wy; omega)
theorem wy_high {d : Nat → Nat → Int} {v : Nat} {L : List Nat} {b : Int} (hb : 0 ≤ b) (h : ∀ i ∈ L, d v i ≤ b) : wy d v L ≤ b := by
  rcases pkL_cases (d v) L with ⟨h1, _⟩ | ⟨_, ⟨x, hx, h1⟩, _⟩
  · unfold wy; omega
  · have := h x hx
    unfold wy; omega
theorem wy_mem {d : Nat → Nat → Int} {v : Nat} {L L' : List Nat} (h : ∀ i, i ∈ L ↔ i ∈ L') : wy d v L = wy d v L' := by
  unfold wy
  rcases pkL_cases (d v) L with ⟨h1, h2⟩ | ⟨h1, ⟨x, hx, h2⟩, h3⟩ <;> rcases pkL_cases (d v) L' with ⟨g1, g2⟩ | ⟨g1, ⟨y, hy, g2⟩, g3⟩
  · omega
  · have := h2 y ((h y).2 hy); omega
  · have := g2 x ((h x).1 hx); omega
  · have := h3 y ((h y).2 hy) (by omega)
    have := g3 x ((h x).1 hx) (by omega)
    omega
theorem radL_mem {d : Nat → Nat → Int} {L L' : List Nat} (h : ∀ i, i ∈ L ↔ i ∈ L') : ∀ m, radL d L m = radL d L' m
  | 0 => rfl
  | m + 1 => by simp only [radL]; rw [radL_mem h m, wy_mem h]
theorem memL_stO {n : Nat} {J : List Nat} (h : ∀ i ∈ J, i < n) (i : Nat) : i ∈ memL (stO J) n ↔ i ∈ J := by
  rw [memL_iff, stO_iff]
  exact ⟨fun h1 => h1.2, fun h1 => ⟨h i h1, h1⟩⟩

/-- The first one of the farthest below m, 0 for none. -/
def ffI (d : Nat → Nat → Int) (L : List Nat) : Nat → Nat
  | 0 => 0
  | m + 1 => if ShW (wy d (ffI d L m) L) (wy d m L) then m else ffI d L m
theorem ffI_lt (d : Nat → Nat → Int) (L : List Nat) {n : Nat} (hn : 1 ≤ n) : ∀ m, m ≤ n → ffI d L m < n
  | 0, _ => by show 0 < n; omega
  | m + 1, h => by
    have := ffI_lt d L hn m (by omega)
    simp only [ffI]; split <;> omega
theorem ffI_yes {d : Nat → Nat → Int} {L : List Nat} {m f : Nat} (hf : ffI d L m = f) (h : ShW (wy d f L) (wy d m L)) : ffI d L (m + 1) = m := by
  simp only [ffI]; rw [hf, if_pos h]
theorem ffI_no {d : Nat → Nat → Int} {L : List Nat} {m f : Nat} (hf : ffI d L m = f) (h : ¬ ShW (wy d f L) (wy d m L)) : ffI d L (m + 1) = f := by
  simp only [ffI]; rw [hf, if_neg h]
/-- Ways between -1 and 54. -/
def Bd54 (d : Nat → Nat → Int) (n : Nat) : Prop := ∀ a b, a < n → b < n → -1 ≤ d a b ∧ d a b ≤ 54
theorem wy_bd {d : Nat → Nat → Int} {n v : Nat} {L : List Nat} (hb : Bd54 d n) (hL : ∀ i ∈ L, i < n) (hv : v < n) : -1 ≤ wy d v L ∧ wy d v L ≤ 54 :=
  ⟨wy_low _ _ _, wy_high (by omega) fun i hi => (hb v i hv (hL i hi)).2⟩
theorem nrP_lt {d : Nat → Nat → Int} {n v u : Nat} {L : List Nat} (hb : Bd54 d n) (hL : ∀ i ∈ L, i < n) (hv : v < n) (hu : u < n) : ShW (wy d u L) (wy d v L) ↔ nrP d u L < nrP d v L := by
  have h1 := wy_bd hb hL hv
  have h2 := wy_bd hb hL hu
  unfold ShW nrP
  split <;> split <;> omega
theorem nrP_ge {d : Nat → Nat → Int} {v : Nat} {L : List Nat} : 0 ≤ nrP d v L := by
  unfold nrP; split <;> omega
theorem ffI_ffB {d : Nat → Nat → Int} {n : Nat} {L : List Nat} (hb : Bd54 d n) (hL : ∀ i ∈ L, i < n) : ∀ m, m ≤ n → (ffB d L m = (0, -1) ∧ ffI d L m = 0 ∧ (m = 0 ∨ nrP d 0 L = 0)) ∨ ∃ b : Nat, b < m ∧ ffB d L m = (nrP d b L, (b : Int)) ∧ ffI d L m = b
  | 0, _ => .inl ⟨rfl, rfl, .inl rfl⟩
  | m + 1, hm => by
    rcases ffI_ffB hb hL m (by omega) with ⟨h1, h2, h3⟩ | ⟨b, h1, h2, h3⟩
    · simp only [ffB, ffI]
      rw [h1, h2]
      have hi := nrP_lt (d := d) (L := L) (v := m) (u := 0) hb hL (by omega) (by omega)
      by_cases e : m = 0
      · subst e
        have hs : ¬ ShW (wy d 0 L) (wy d 0 L) := fun hs => by have := hi.1 hs; omega
        by_cases hc : 0 < nrP d 0 L
        · rw [if_pos hc, if_neg hs]
          exact .inr ⟨0, by omega, rfl, rfl⟩
        · rw [if_neg hc, if_neg hs]
          have := nrP_ge (d := d) (v := 0) (L := L)
          exact .inl ⟨rfl, rfl, .inr (by omega)⟩
      · have h0 : nrP d 0 L = 0 := by omega
        rw [h0] at hi
        by_cases hc : 0 < nrP d m L
        · rw [if_pos hc, if_pos (hi.2 hc)]
          exact .inr ⟨m, by omega, rfl, rfl⟩
        · rw [if_neg hc, if_neg (fun h => hc (hi.1 h))]
          exact .inl ⟨rfl, rfl, .inr h0⟩
    · simp only [ffB, ffI]
      rw [h2, h3]
      have hi := nrP_lt (d := d) (L := L) (v := m) (u := b) hb hL (by omega) (by omega)
      by_cases hc : nrP d b L < nrP d m L
      · rw [if_pos hc, if_pos (hi.2 hc)]
        exact .inr ⟨m, by omega, rfl, rfl⟩
      · rw [if_neg hc, if_neg (fun h => hc (hi.1 h))]
        exact .inr ⟨b, by omega, rfl, rfl⟩
theorem ffI_max {d : Nat → Nat → Int} {n : Nat} {L : List Nat} (hb : Bd54 d n) (hL : ∀ i ∈ L, i < n) (hn : 1 ≤ n) : ∀ m, m ≤ n → ∀ v, v < m → nrP d v L ≤ nrP d (ffI d L m) L
  | 0, _, v, hv => by omega
  | m + 1, hm, v, hv => by
    have ih := ffI_max hb hL hn m (by omega)
    have hlt := ffI_lt d L hn m (by omega)
    by_cases hc : ShW (wy d (ffI d L m) L) (wy d m L)
    · rw [ffI_yes rfl hc]
      rw [nrP_lt hb hL (by omega) hlt] at hc
      by_cases e : v = m
      · subst e; exact Int.le_refl _
      · have := ih v (by omega); omega
    · rw [ffI_no rfl hc]
      rw [nrP_lt hb hL (by omega) hlt] at hc
      by_cases e : v = m
      · subst e; omega
      · exact ih v (by omega)
/-- How far the first one of the farthest is, is how far the farthest is. -/
theorem wy_far {d : Nat → Nat → Int} {n : Nat} {L : List Nat} (hb : Bd54 d n) (hL : ∀ i ∈ L, i < n) (hn : 1 ≤ n) : wy d (ffI d L n) L = radL d L n := by
  have hlt := ffI_lt d L hn n (Nat.le_refl _)
  have hmx := ffI_max hb hL hn n (Nat.le_refl _)
  have hw := wy_bd hb hL hlt
  rcases rad_cases d L n with ⟨h1, v, hv, h2⟩ | ⟨h1, h2, h3⟩
  · have h4 := hmx v hv
    have h5 : wy d v L < 0 := by
      rcases pkL_cases (d v) L with ⟨e1, _⟩ | ⟨e1, ⟨y, hy, e2⟩, _⟩
      · unfold wy; omega
      · have := h2 y hy; omega
    unfold nrP at h4
    rw [if_pos h5] at h4
    split at h4 <;> omega
  · have h4 := h2 _ hlt
    rcases h3 with h3 | ⟨v, hv, h3⟩
    · omega
    · have h5 := hmx v hv
      have h6 := h2 v hv
      unfold nrP at h5
      rw [if_neg (by omega), if_neg (by omega)] at h5
      omega

/-- The sets below S with m nodes. -/
def setsM (m S : Nat) : List Nat := (List.range S).filter fun s => decide (bc 7 s = m)
theorem setsM_iff {m S s : Nat} : s ∈ setsM m S ↔ s < S ∧ bc 7 s = m := by simp [setsM]
/-- The least one over all of these. -/
def nfS (d : Nat → Nat → Int) (n m S : Nat) : Int := pkL (fun s => radL d (memL s n) n) (setsM m S) (-1)
theorem nfS_zero (d : Nat → Nat → Int) (n m : Nat) : nfS d n m 0 = -1 := rfl
theorem setsM_succ (m S : Nat) : setsM m (S + 1) = setsM m S ++ (if bc 7 S = m then [S] else []) := by
  unfold setsM
  rw [List.range_succ, List.filter_append]
  congr 1
  by_cases h : bc 7 S = m <;> simp [h]
theorem nfS_skip {d : Nat → Nat → Int} {n m S : Nat} (h : ¬ bc 7 S = m) : nfS d n m (S + 1) = nfS d n m S := by
  unfold nfS; rw [setsM_succ, if_neg h, List.append_nil]
theorem nfS_low (d : Nat → Nat → Int) (n m S : Nat) : -1 ≤ nfS d n m S := by
  unfold nfS
  rcases pkL_cases (fun s => radL d (memL s n) n) (setsM m S) with ⟨h, _⟩ | ⟨h, _⟩ <;> omega
theorem rad_bd {d : Nat → Nat → Int} {n : Nat} {L : List Nat} (hb : Bd54 d n) (hL : ∀ i ∈ L, i < n) (hn : 1 ≤ n) : -1 ≤ radL d L n ∧ radL d L n ≤ 54 := by
  rw [← wy_far hb hL hn]
  exact wy_bd hb hL (ffI_lt d L hn n (Nat.le_refl _))
theorem memL_lt {s n : Nat} : ∀ i ∈ memL s n, i < n := fun i hi => (memL_iff.1 hi).1
theorem nfS_take {d : Nat → Nat → Int} {n m S : Nat} {x acc : Int} (h : bc 7 S = m) (ha : nfS d n m S = acc) (hx : radL d (memL S n) n = x) (h1 : -1 ≤ x) : nfS d n m (S + 1) = if ShW x acc then x else acc := by
  have h2 := nfS_low d n m S
  rw [ha] at h2
  unfold nfS at ha ⊢
  rw [setsM_succ, if_pos h, pkL_append, ha]
  simp only [pkL]
  rw [hx]
  by_cases hc : 0 ≤ x ∧ (acc < 0 ∨ x < acc)
  · have hs : ShW x acc := ⟨by omega, by omega⟩
    rw [if_pos hc, if_pos hs]
  · have hs : ¬ ShW x acc := fun hs => by
      have e1 := hs.1
      have e2 := hs.2
      omega
    rw [if_neg hc, if_neg hs]
theorem nfS_high {d : Nat → Nat → Int} {n m S : Nat} (hb : Bd54 d n) (hn : 1 ≤ n) : nfS d n m S ≤ 54 := by
  unfold nfS
  rcases pkL_cases (fun s => radL d (memL s n) n) (setsM m S) with ⟨h, _⟩ | ⟨_, ⟨s, hs, h2⟩, _⟩
  · omega
  · have := rad_bd (d := d) (L := memL s n) hb memL_lt hn
    omega
theorem nfS_is {d : Nat → Nat → Int} {n m : Nat} (h7 : n ≤ 7) : NfIs d n m (nfS d n m (2 ^ n)) := by
  have hJ : ∀ J, Asc n m J → ∃ s, s ∈ setsM m (2 ^ n) ∧ radL d (memL s n) n = radL d J n := fun J h =>
    ⟨stO J, setsM_iff.2 ⟨stO_lt h.2.1, by rw [stO_nodup h7 h.2.1 (h.1.imp fun hlt e => by omega), h.2.2]⟩, radL_mem (memL_stO h.2.1) n⟩
  unfold nfS
  rcases pkL_cases (fun s => radL d (memL s n) n) (setsM m (2 ^ n)) with ⟨h1, h2⟩ | ⟨h1, ⟨s, hs, h2⟩, h3⟩
  · refine .inl ⟨h1, fun J h => ?_⟩
    obtain ⟨s, hs, e⟩ := hJ J h
    rw [← e]; exact h2 s hs
  · obtain ⟨hs1, hs2⟩ := setsM_iff.1 hs
    refine .inr ⟨h1, ⟨memL s n, ⟨memL_asc _ _, memL_lt, by rw [memL_len h7 hs1, hs2]⟩, h2⟩, fun J h h0 => ?_⟩
    obtain ⟨t, ht, e⟩ := hJ J h
    rw [← e] at h0 ⊢
    exact h3 t ht h0

/-- A set is fine just if the nodes near its nodes are apart; no way may be -1. -/
theorem fine_iffR {d : Nat → Nat → Int} {far : Int} {n s : Nat} {N : Nat → Nat} (hs : s < 2 ^ n) (hN : ∀ i, i < n → ∀ v, (N i).testBit v = true ↔ v < n ∧ 0 ≤ d v i ∧ d v i ≤ far) :
    fnB d far s n n = true ↔ FineN N s 0 0 := by
  have hlt : ∀ i, s.testBit i = true → i < n := fun i hi => bit_ltn hs hi
  rw [fnB_iff]
  constructor
  · intro h
    refine ⟨fun i _ _ v ⟨_, h2⟩ => by simp at h2, fun i j _ hij h1 h2 v ⟨h3, h4⟩ => ?_⟩
    obtain ⟨hv, h5⟩ := (hN i (hlt i h1) v).1 h3
    obtain ⟨_, h6⟩ := (hN j (hlt j h2) v).1 h4
    have := h v hv
    have := nrB_two (d := d) (far := far) (v := v) ⟨h1, h5⟩ ⟨h2, h6⟩ hij (m := n) (hlt j h2)
    omega
  · rintro ⟨_, h⟩ v hv
    refine nrB_one fun i k hik hk ⟨h1, h3⟩ ⟨h4, h6⟩ => ?_
    exact h i k (by omega) hik h1 h4 v ⟨(hN i (by omega) v).2 ⟨hv, h3⟩, (hN k hk v).2 ⟨hv, h6⟩⟩
theorem mw_pkR {d : Nat → Nat → Int} {far : Int} {n : Nat} {N : Nat → Nat} (h7 : n ≤ 7) (hN : ∀ i, i < n → ∀ v, (N i).testBit v = true ↔ v < n ∧ 0 ≤ d v i ∧ d v i ≤ far) : mw N n 0 0 = pkB d far n (2 ^ n) := by
  apply Nat.le_antisymm
  · obtain ⟨s, h1, _, h2, h3⟩ := mw_at N h7 n 0 0 (by omega)
    rw [← h3]
    exact le_pkB h1 ((fine_iffR h1 hN).2 h2)
  · refine pkB_le _ fun s hs hf => ?_
    rw [← cn_bc h7 hs]
    exact mw_ge N s n 0 0 ((fine_iffR hs hN).1 hf)
/-- Each node's near ones meet the set just if the set covers. -/
theorem cover_iff {d : Nat → Nat → Int} {far : Int} {n s : Nat} {N : Nat → Nat} (hN : ∀ i, i < n → ∀ v, (N i).testBit v = true ↔ v < n ∧ 0 ≤ d i v ∧ d i v ≤ far) : cvF d far s n n = true ↔ ∀ v, v < n → ¬ N v &&& s = 0 := by
  rw [cvF_iff]
  constructor
  · intro h v hv he
    obtain ⟨i, hi, hb, hn⟩ := h v hv
    exact dj_and.1 he i ⟨(hN v hv i).2 ⟨hi, hn⟩, hb⟩
  · intro h v hv
    by_cases hc : ∃ i, i < n ∧ s.testBit i = true ∧ Nr d far v i
    · exact hc
    · exfalso
      refine h v hv (dj_and.2 fun i ⟨h1, h2⟩ => hc ?_)
      obtain ⟨h3, h4⟩ := (hN v hv i).1 h1
      exact ⟨i, h3, h2, h4⟩
end Go.Proofs.Ytiblcmeoneolcaa
