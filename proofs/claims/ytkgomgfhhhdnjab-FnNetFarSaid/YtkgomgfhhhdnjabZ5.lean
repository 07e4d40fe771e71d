/-
  The least one of how far the farthest is, over sets of nodes; farthest first is at most twice as far.
  Conditions: at most seven nodes; ways are as a table of shortest ways has them.
  Nets: what their tables of shortest ways have; trees as nets.
  Conditions: as each theorem states.
  Small steps that the exact laws share.
  Conditions: none beyond what each theorem states.
  Lists of lists of ints in memory.
  Conditions: none beyond what each theorem states.
  Lists of lists of ints in memory; all choices of so many numbers, as a list.
  Conditions: none beyond what each theorem states.
  The model's choices are the ascending lists; what NetFar answers over them.
  Conditions: as each theorem states.
  What chapter 3's functions answer, as numbers, and what the program's functions must answer, as propositions; the facts on them.
  Conditions: at most 2^20 streets in each function's contract.
  Whether a number is in a range, and calls inside a region that draws its order.
  Conditions: none beyond what each theorem states.
  The model's powers of two, bits of a set, and how many there are.
  Conditions: at most seven, sets below 128.
-/
import Derived.Test.YtkgomgfhhhdnjabZ4
import Derived.Test.YtkgomgfhhhdnjabZ2
import Derived.Test.YtkgomgfhhhdnjabZ0
import Derived.Below
import Derived.Deep.AppendLies
import Derived.Maps.AppendAt
namespace Go.Proofs.Ytkgomgfhhhdnjab
open Go.ChangeShapes Go.WideShapes Go.ChangeAt Go.RowKit
set_option linter.unusedVariables false

/-- The least one that is not negative; -1 for none. -/
def pkL {α : Type} (f : α → Int) : List α → Int → Int
  | [], acc => acc
  | x :: r, acc => pkL f r (if 0 ≤ f x ∧ (acc < 0 ∨ f x < acc) then f x else acc)
theorem pkL_from {α : Type} (f : α → Int) : ∀ (L : List α) (acc : Int), 0 ≤ acc → 0 ≤ pkL f L acc ∧ (pkL f L acc = acc ∨ ∃ x ∈ L, f x = pkL f L acc) ∧ pkL f L acc ≤ acc ∧ ∀ x ∈ L, 0 ≤ f x → pkL f L acc ≤ f x
  | [], acc, h => ⟨h, .inl rfl, Int.le_refl _, fun x hx => by cases hx⟩
  | y :: L, acc, h => by
    simp only [pkL]
    by_cases hc : 0 ≤ f y ∧ (acc < 0 ∨ f y < acc)
    · rw [if_pos hc]
      obtain ⟨h1, h2, h3, h4⟩ := pkL_from f L (f y) hc.1
      refine ⟨h1, .inr ?_, by omega, fun x hx h0 => ?_⟩
      · rcases h2 with h2 | ⟨x, hx, h2⟩
        · exact ⟨y, by simp, h2.symm⟩
        · exact ⟨x, by simp [hx], h2⟩
      · rcases List.mem_cons.1 hx with rfl | hx
        · exact h3
        · exact h4 x hx h0
    · rw [if_neg hc]
      obtain ⟨h1, h2, h3, h4⟩ := pkL_from f L acc h
      refine ⟨h1, ?_, h3, fun x hx h0 => ?_⟩
      · rcases h2 with h2 | ⟨x, hx, h2⟩
        · exact .inl h2
        · exact .inr ⟨x, by simp [hx], h2⟩
      · rcases List.mem_cons.1 hx with rfl | hx
        · omega
        · exact h4 x hx h0
theorem pkL_cases {α : Type} (f : α → Int) : ∀ (L : List α), (pkL f L (-1) = -1 ∧ ∀ x ∈ L, f x < 0) ∨ (0 ≤ pkL f L (-1) ∧ (∃ x ∈ L, f x = pkL f L (-1)) ∧ ∀ x ∈ L, 0 ≤ f x → pkL f L (-1) ≤ f x)
  | [] => .inl ⟨rfl, fun x hx => by cases hx⟩
  | y :: L => by
    simp only [pkL]
    by_cases h0 : 0 ≤ f y
    · rw [if_pos ⟨h0, .inl (by omega)⟩]
      obtain ⟨h1, h2, h3, h4⟩ := pkL_from f L (f y) h0
      refine .inr ⟨h1, ?_, fun x hx h0 => ?_⟩
      · rcases h2 with h2 | ⟨x, hx, h2⟩
        · exact ⟨y, by simp, h2.symm⟩
        · exact ⟨x, by simp [hx], h2⟩
      · rcases List.mem_cons.1 hx with rfl | hx
        · exact h3
        · exact h4 x hx h0
    · rw [if_neg (by omega)]
      rcases pkL_cases f L with ⟨h1, h2⟩ | ⟨h1, ⟨x, hx, h2⟩, h3⟩
      · refine .inl ⟨h1, fun x hx => ?_⟩
        rcases List.mem_cons.1 hx with rfl | hx
        · omega
        · exact h2 x hx
      · refine .inr ⟨h1, ⟨x, by simp [hx], h2⟩, fun z hz hz0 => ?_⟩
        rcases List.mem_cons.1 hz with rfl | hz
        · omega
        · exact h3 z hz hz0
theorem pkL_append {α : Type} (f : α → Int) : ∀ (A B : List α) (acc : Int), pkL f (A ++ B) acc = pkL f B (pkL f A acc)
  | [], B, acc => rfl
  | x :: A, B, acc => by simp only [List.cons_append, pkL]; rw [pkL_append f A B]

/-- How far the nearest of a list is. -/
def wy (d : Nat → Nat → Int) (v : Nat) (L : List Nat) : Int := pkL (d v) L (-1)
/-- How far the farthest of the nodes below m is from the nearest of a list; -1 if one has no way. -/
def radL (d : Nat → Nat → Int) (L : List Nat) : Nat → Int
  | 0 => 0
  | v + 1 => if radL d L v < 0 then radL d L v else if wy d v L < 0 then -1 else max (radL d L v) (wy d v L)
theorem rad_cases (d : Nat → Nat → Int) (L : List Nat) : ∀ m, (radL d L m = -1 ∧ ∃ v, v < m ∧ ∀ j ∈ L, d v j < 0) ∨ (0 ≤ radL d L m ∧ (∀ v, v < m → 0 ≤ wy d v L ∧ wy d v L ≤ radL d L m) ∧ (radL d L m = 0 ∨ ∃ v, v < m ∧ wy d v L = radL d L m))
  | 0 => .inr ⟨Int.le_refl _, fun v hv => by omega, .inl rfl⟩
  | m + 1 => by
    simp only [radL]
    rcases rad_cases d L m with ⟨h1, v, hv, h2⟩ | ⟨h1, h2, h3⟩
    · rw [if_pos (by omega)]
      exact .inl ⟨h1, v, by omega, h2⟩
    · rw [if_neg (by omega)]
      rcases pkL_cases (d m) L with ⟨e1, e2⟩ | ⟨e1, e2, e3⟩
      · have : wy d m L < 0 := by unfold wy; omega
        rw [if_pos this]
        exact .inl ⟨rfl, m, by omega, e2⟩
      · have e1' : 0 ≤ wy d m L := e1
        rw [if_neg (by omega)]
        refine .inr ⟨by omega, fun v hv => ?_, ?_⟩
        · by_cases e : v = m
          · subst e; omega
          · have := h2 v (by omega); omega
        · by_cases hm : wy d m L ≤ radL d L m
          · rw [Int.max_eq_left hm]
            rcases h3 with h3 | ⟨v, hv, h3⟩
            · exact .inl h3
            · exact .inr ⟨v, by omega, h3⟩
          · rw [Int.max_eq_right (by omega)]
            exact .inr ⟨m, by omega, rfl⟩
theorem wy_cov {d : Nat → Nat → Int} {v : Nat} {L : List Nat} (h : 0 ≤ wy d v L) : ∃ j ∈ L, d v j = wy d v L := by
  rcases pkL_cases (d v) L with ⟨e1, _⟩ | ⟨_, e2, _⟩
  · unfold wy at h; omega
  · exact e2
/-- A list is near enough just if it covers. -/
theorem rad_cov {d : Nat → Nat → Int} {n : Nat} {L : List Nat} {r : Int} (hr : 0 ≤ r) (hL : ∀ i ∈ L, i < n) : (0 ≤ radL d L n ∧ radL d L n ≤ r) ↔ Cov d r n L := by
  constructor
  · rintro ⟨h1, h2⟩
    refine ⟨hL, fun v hv => ?_⟩
    rcases rad_cases d L n with ⟨h3, _⟩ | ⟨_, h3, _⟩
    · omega
    · obtain ⟨h4, h5⟩ := h3 v hv
      obtain ⟨j, hj, e⟩ := wy_cov h4
      exact ⟨j, hj, by omega, by omega⟩
  · rintro ⟨_, h⟩
    rcases rad_cases d L n with ⟨h3, v, hv, h4⟩ | ⟨h3, h4, h5⟩
    · obtain ⟨j, hj, hn⟩ := h v hv
      have := h4 j hj
      unfold Nr at hn; omega
    · refine ⟨h3, ?_⟩
      rcases h5 with h5 | ⟨v, hv, h5⟩
      · omega
      · obtain ⟨j, hj, hn⟩ := h v hv
        rcases pkL_cases (d v) L with ⟨_, e2⟩ | ⟨_, _, e3⟩
        · have := e2 j hj
          unfold Nr at hn; omega
        · have h6 := e3 j hj hn.1
          have h7 : pkL (d v) L (-1) = wy d v L := rfl
          unfold Nr at hn; omega

/-- Lists of k nodes below n, ascending. -/
def Asc (n k : Nat) (J : List Nat) : Prop := J.Pairwise (· < ·) ∧ (∀ i ∈ J, i < n) ∧ J.length = k
theorem memL_asc (s m : Nat) : (memL s m).Pairwise (· < ·) := List.Pairwise.filter _ (List.pairwise_lt_range)
theorem more_node {n : Nat} {P : List Nat} (h : P.length < n) : ∃ x, x < n ∧ x ∉ P := by
  by_cases hc : ∃ x, x < n ∧ x ∉ P
  · exact hc
  · exfalso
    have := List.Nodup.length_le_of_subset (List.nodup_range (n := n)) (l₂ := P) (fun x hx => by
      by_cases hx' : x ∈ P
      · exact hx'
      · exact absurd ⟨x, List.mem_range.1 hx, hx'⟩ hc)
    rw [List.length_range] at this
    omega
theorem more_nodes {n : Nat} : ∀ (t : Nat) {P : List Nat}, (∀ i ∈ P, i < n) → P.Nodup → P.length + t ≤ n → ∃ J : List Nat, (∀ i ∈ P, i ∈ J) ∧ (∀ i ∈ J, i < n) ∧ J.Nodup ∧ J.length = P.length + t
  | 0, P, h1, h2, _ => ⟨P, fun i hi => hi, h1, h2, rfl⟩
  | t + 1, P, h1, h2, h3 => by
    obtain ⟨x, hx, hxP⟩ := more_node (n := n) (P := P) (by omega)
    obtain ⟨J, a1, a2, a3, a4⟩ := more_nodes t (P := x :: P) (fun i hi => by rcases List.mem_cons.1 hi with rfl | hi; exact hx; exact h1 i hi) (List.nodup_cons.2 ⟨hxP, h2⟩) (by rw [List.length_cons]; omega)
    exact ⟨J, fun i hi => a1 i (by simp [hi]), a2, a3, by rw [a4, List.length_cons]; omega⟩
/-- A cover of few nodes is within one of just m nodes, ascending. -/
theorem cov_asc {d : Nat → Nat → Int} {r : Int} {n m : Nat} (h7 : n ≤ 7) {P : List Nat} (h : Cov d r n P) (hd : P.Nodup) (hm : P.length ≤ m) (hmn : m ≤ n) : ∃ J, Asc n m J ∧ Cov d r n J := by
  obtain ⟨J, a1, a2, a3, a4⟩ := more_nodes (m - P.length) h.1 hd (by omega)
  have hlt := stO_lt a2
  refine ⟨memL (stO J) n, ⟨memL_asc _ _, fun i hi => (memL_iff.1 hi).1, by rw [memL_len h7 hlt, stO_nodup h7 a2 a3]; omega⟩, fun i hi => (memL_iff.1 hi).1, fun v hv => ?_⟩
  obtain ⟨i, hi, hn⟩ := h.2 v hv
  exact ⟨i, memL_iff.2 ⟨h.1 i hi, stO_iff.2 (a1 i hi)⟩, hn⟩
/-- x is what NetFar answers, over all lists of m nodes. -/
def NfIs (d : Nat → Nat → Int) (n m : Nat) (x : Int) : Prop := (x = -1 ∧ ∀ J, Asc n m J → radL d J n < 0) ∨ (0 ≤ x ∧ (∃ J, Asc n m J ∧ radL d J n = x) ∧ ∀ J, Asc n m J → 0 ≤ radL d J n → x ≤ radL d J n)
/-- With that far, a cover needs at most so many nodes, and with less it needs more. -/
theorem nf_cv {d : Nat → Nat → Int} {n k : Nat} {x r : Int} (h7 : n ≤ 7) (h0 : ∀ a, a < n → d a a = 0) (hx : NfIs d n (min k n) x) (hr : 0 ≤ r) : cvN d r n (2 ^ n) ≤ k ↔ 0 ≤ x ∧ x ≤ r := by
  constructor
  · intro h
    obtain ⟨P, hP, hPd, hPl⟩ := cov_least (d := d) h7 h0 hr
    have hle : P.length ≤ n := by
      have := List.Nodup.length_le_of_subset hPd (l₂ := List.range n) (fun i hi => List.mem_range.2 (hP.1 i hi))
      rwa [List.length_range] at this
    obtain ⟨J, hJ, hJc⟩ := cov_asc h7 hP hPd (m := min k n) (by omega) (by omega)
    have hrad := (rad_cov hr hJ.2.1).2 hJc
    rcases hx with ⟨_, h2⟩ | ⟨h1, _, h2⟩
    · have := h2 J hJ; omega
    · have := h2 J hJ hrad.1; omega
  · rintro ⟨h1, h2⟩
    rcases hx with ⟨h3, _⟩ | ⟨_, ⟨J, hJ, h3⟩, _⟩
    · omega
    · have hc := (rad_cov (d := d) (n := n) (L := J) (r := r) hr hJ.2.1).1 ⟨by omega, by omega⟩
      have := cvN_le_cov h7 hc
      rw [hJ.2.2] at this
      omega
theorem nf_unique {d : Nat → Nat → Int} {n m : Nat} {x y : Int} (hx : NfIs d n m x) (hy : NfIs d n m y) : x = y := by
  rcases hx with ⟨h1, h2⟩ | ⟨h1, ⟨J, hJ, h2⟩, h3⟩ <;> rcases hy with ⟨h4, h5⟩ | ⟨h4, ⟨K, hK, h5⟩, h6⟩
  · omega
  · have := h2 K hK; omega
  · have := h5 J hJ; omega
  · have := h3 K hK (by omega)
    have := h6 J hJ (by omega)
    omega

/-- What is asked of a table of ways. -/
structure Met (d : Nat → Nat → Int) (n : Nat) : Prop where
  zero : ∀ a, a < n → d a a = 0
  symm : ∀ a b, a < n → b < n → d a b = d b a
  pos : ∀ a b, a < n → b < n → a ≠ b → d a b < 0 ∨ 0 < d a b
  tri : ∀ a b c, a < n → b < n → c < n → 0 ≤ d a c → 0 ≤ d c b → 0 ≤ d a b ∧ d a b ≤ d a c + d c b
  bd : ∀ a b, a < n → b < n → -1 ≤ d a b ∧ d a b ≤ 54

/-- How far, no way as 63. -/
def nrP (d : Nat → Nat → Int) (v : Nat) (out : List Nat) : Int := if wy d v out < 0 then 63 else wy d v out
/-- The first one of the farthest below m, and how far. -/
def ffB (d : Nat → Nat → Int) (out : List Nat) : Nat → Int × Int
  | 0 => (0, -1)
  | v + 1 => if (ffB d out v).1 < nrP d v out then (nrP d v out, (v : Int)) else ffB d out v
theorem ffB_cases (d : Nat → Nat → Int) (out : List Nat) : ∀ m, (ffB d out m = (0, -1) ∧ ∀ v, v < m → nrP d v out ≤ 0) ∨ ∃ b : Nat, b < m ∧ ffB d out m = (nrP d b out, (b : Int)) ∧ 0 < nrP d b out ∧ ∀ v, v < m → nrP d v out ≤ nrP d b out
  | 0 => .inl ⟨rfl, fun v hv => by omega⟩
  | m + 1 => by
    simp only [ffB]
    rcases ffB_cases d out m with ⟨h1, h2⟩ | ⟨b, h1, h2, h3, h4⟩
    · rw [h1]
      by_cases hc : 0 < nrP d m out
      · rw [if_pos hc]
        refine .inr ⟨m, by omega, rfl, hc, fun v hv => ?_⟩
        by_cases e : v = m
        · subst e; exact Int.le_refl _
        · have := h2 v (by omega); omega
      · rw [if_neg hc]
        refine .inl ⟨rfl, fun v hv => ?_⟩
        by_cases e : v = m
        · subst e; omega
        · exact h2 v (by omega)
    · rw [h2]
      by_cases hc : nrP d b out < nrP d m out
      · rw [if_pos hc]
        refine .inr ⟨m, by omega, rfl, by omega, fun v hv => ?_⟩
        by_cases e : v = m
        · subst e; exact Int.le_refl _
        · have := h4 v (by omega); omega
      · rw [if_neg hc]
        refine .inr ⟨b, by omega, rfl, h3, fun v hv => ?_⟩
        by_cases e : v = m
        · subst e; omega
        · exact h4 v (by omega)
/-- The nodes, farthest first, after j more than the node 0. -/
def ffL (d : Nat → Nat → Int) (n : Nat) : Nat → List Nat
  | 0 => [0]
  | j + 1 => ffL d n j ++ [(ffB d (ffL d n j) n).2.toNat]
theorem ffL_len (d : Nat → Nat → Int) (n : Nat) : ∀ j, (ffL d n j).length = j + 1
  | 0 => rfl
  | j + 1 => by simp only [ffL, List.length_append, ffL_len d n j, List.length_singleton]
theorem nrP_zero {d : Nat → Nat → Int} {n v : Nat} {out : List Nat} (hM : Met d n) (hv : v < n) (h : v ∈ out) : nrP d v out ≤ 0 := by
  unfold nrP
  rcases pkL_cases (d v) out with ⟨_, e2⟩ | ⟨e1, _, e3⟩
  · have := e2 v h
    rw [hM.zero v hv] at this; omega
  · have := e3 v h (by rw [hM.zero v hv]; omega)
    rw [hM.zero v hv] at this
    have h7 : pkL (d v) out (-1) = wy d v out := rfl
    rw [if_neg (by omega)]; omega
theorem nrP_pos {d : Nat → Nat → Int} {n v : Nat} {out : List Nat} (hM : Met d n) (ho : ∀ i ∈ out, i < n) (hv : v < n) (h : v ∉ out) : 0 < nrP d v out := by
  unfold nrP
  split
  · omega
  · rename_i hw
    obtain ⟨j, hj, e⟩ := wy_cov (d := d) (v := v) (L := out) (by omega)
    have hne : v ≠ j := fun e' => h (by rw [e']; exact hj)
    have := hM.pos v j hv (ho j hj) hne
    omega
/-- Each one more is a new one. -/
theorem ffL_new {d : Nat → Nat → Int} {n : Nat} (hM : Met d n) (h1 : 1 ≤ n) : ∀ j, j + 1 ≤ n → (∀ i ∈ ffL d n j, i < n) ∧ (ffL d n j).Nodup
  | 0, _ => ⟨fun i hi => by simp [ffL] at hi; omega, by simp [ffL]⟩
  | j + 1, hj => by
    obtain ⟨a1, a2⟩ := ffL_new hM h1 j (by omega)
    obtain ⟨x, hx, hxo⟩ := more_node (n := n) (P := ffL d n j) (by rw [ffL_len]; omega)
    have hpos := nrP_pos hM a1 hx hxo
    rcases ffB_cases d (ffL d n j) n with ⟨_, h2⟩ | ⟨b, hb, h2, h3, h4⟩
    · have := h2 x hx; omega
    · have hbo : b ∉ ffL d n j := fun h => by have := nrP_zero hM hb h; omega
      simp only [ffL, h2]
      refine ⟨fun i hi => ?_, ?_⟩
      · rcases List.mem_append.1 hi with hi | hi
        · exact a1 i hi
        · simp at hi; omega
      · rw [List.nodup_append]
        refine ⟨a2, by simp, fun a ha c hc => ?_⟩
        simp at hc
        intro e
        exact hbo (by rw [← hc, ← e]; exact ha)
/-- If a node is not within R of any that is there, no two that are there are within R of each other. -/
theorem ff_apart {d : Nat → Nat → Int} {n v : Nat} {R : Int} (hM : Met d n) (h1 : 1 ≤ n) (hv : v < n) (hR : 0 ≤ R) : ∀ j, j + 1 ≤ n → (∀ i ∈ ffL d n j, ¬ Nr d R v i) → (ffL d n j).Pairwise fun a b => ¬ Nr d R b a
  | 0, _, _ => by simp [ffL]
  | j + 1, hj, h => by
    have hin : ∀ i ∈ ffL d n j, ¬ Nr d R v i := fun i hi => h i (by simp only [ffL]; exact List.mem_append_left _ hi)
    have ih := ff_apart hM h1 hv hR j (by omega) hin
    obtain ⟨a1, a2⟩ := ffL_new hM h1 j (by omega)
    -- v is as far from those there as what is taken, at most
    rcases ffB_cases d (ffL d n j) n with ⟨_, h2⟩ | ⟨b, hb, h2, h3, h4⟩
    · exfalso
      obtain ⟨x, hx, hxo⟩ := more_node (n := n) (P := ffL d n j) (by rw [ffL_len]; omega)
      have := nrP_pos hM a1 hx hxo
      have := h2 x hx; omega
    · simp only [ffL, h2]
      rw [List.pairwise_append]
      refine ⟨ih, by simp, fun a ha c hc hnr => ?_⟩
      simp at hc
      rw [hc] at hnr
      have hav := h4 v hv
      have hvP : R < nrP d v (ffL d n j) := by
        unfold nrP
        split
        · -- no way: more than any way
          rename_i hw
          have hbda := hM.bd b a hb (a1 a ha)
          unfold Nr at hnr
          rcases Int.lt_or_le R 63 with h5 | h5
          · exact h5
          · -- then b is near a, but v has no way; b was taken as farthest, so b has no way either
            exfalso
            have hbn : nrP d b (ffL d n j) = 63 → False := fun e => by
              unfold nrP at e
              rcases pkL_cases (d b) (ffL d n j) with ⟨_, e2⟩ | ⟨e1, ⟨y, hy, e2⟩, _⟩
              · have := e2 a ha; omega
              · have h7 : pkL (d b) (ffL d n j) (-1) = wy d b (ffL d n j) := rfl
                have := hM.bd b y hb (a1 y hy)
                rw [if_neg (by omega)] at e
                omega
            have hle : nrP d b (ffL d n j) ≤ 63 := by
              unfold nrP
              split
              · omega
              · rename_i hw2
                obtain ⟨y, hy, e2⟩ := wy_cov (d := d) (v := b) (L := ffL d n j) (by omega)
                have := hM.bd b y hb (a1 y hy)
                omega
            have hv63 : nrP d v (ffL d n j) = 63 := by unfold nrP; rw [if_pos hw]
            exact hbn (by omega)
        · rename_i hw
          obtain ⟨y, hy, e2⟩ := wy_cov (d := d) (v := v) (L := ffL d n j) (by omega)
          have := hin y hy
          unfold Nr at this
          omega
      -- so b is farther than R from a
      have hbR : R < nrP d b (ffL d n j) := by omega
      unfold nrP at hbR
      unfold Nr at hnr
      rcases pkL_cases (d b) (ffL d n j) with ⟨_, e2⟩ | ⟨e1, _, e3⟩
      · have := e2 a ha; omega
      · have h7 : pkL (d b) (ffL d n j) (-1) = wy d b (ffL d n j) := rfl
        have := e3 a ha hnr.1
        rw [if_neg (by omega)] at hbR
        omega
/-- Farthest first is at most twice as far. -/
theorem ff_twice {d : Nat → Nat → Int} {n k v : Nat} {x : Int} (hM : Met d n) (h7 : n ≤ 7) (h1 : 1 ≤ n) (hk : 1 ≤ k) (hx : NfIs d n (min k n) x) (hx0 : 0 ≤ x) (hv : v < n) : ∃ i ∈ ffL d n (min k n - 1), Nr d (2 * x) v i := by
  by_cases hc : ∃ i ∈ ffL d n (min k n - 1), Nr d (2 * x) v i
  · exact hc
  exfalso
  have hall : ∀ i ∈ ffL d n (min k n - 1), ¬ Nr d (2 * x) v i := fun i hi h => hc ⟨i, hi, h⟩
  have hap := ff_apart hM h1 hv (show 0 ≤ 2 * x by omega) _ (by omega) hall
  obtain ⟨a1, a2⟩ := ffL_new hM h1 (min k n - 1) (by omega)
  rcases hx with ⟨h3, _⟩ | ⟨_, ⟨J, hJ, h3⟩, _⟩
  · omega
  have hcov := (rad_cov (d := d) (n := n) (L := J) (r := x) hx0 hJ.2.1).1 ⟨by omega, by omega⟩
  have hfar : ∀ a b c, a < n → b < n → c < n → Nr d x c a → Nr d x c b → Nr d (2 * x) a b := fun a b c ha hb hc' h4 h5 => by
    unfold Nr at h4 h5 ⊢
    have e1 := hM.symm a c ha hc'
    have := hM.tri a b c ha hb hc' (by omega) (by omega)
    omega
  have hsym : ∀ a b, a < n → b < n → Nr d (2 * x) a b → Nr d (2 * x) b a := fun a b ha hb h4 => by
    unfold Nr at h4 ⊢
    rw [hM.symm b a hb ha]; exact h4
  have hvo : v ∉ ffL d n (min k n - 1) := fun h => hall v h (by unfold Nr; rw [hM.zero v hv]; omega)
  have hpair : ∀ {L : List Nat}, L.Pairwise (fun a b => ¬ Nr d (2 * x) b a) → (∀ i ∈ L, i < n) → ∀ a ∈ L, ∀ b ∈ L, a ≠ b → ¬ Nr d (2 * x) a b := by
    intro L hL
    induction hL with
    | nil => intro _ a ha; cases ha
    | @cons y L h5 h6 ih =>
      intro hlt a ha b hb hne
      rcases List.mem_cons.1 ha with e1 | ha2 <;> rcases List.mem_cons.1 hb with e2 | hb2
      · exact absurd (e1.trans e2.symm) hne
      · rw [e1]; exact fun h => h5 b hb2 (hsym _ _ (hlt _ (by simp)) (hlt _ (by simp [hb2])) h)
      · rw [e2]; exact h5 a ha2
      · exact ih (fun i hi => hlt i (by simp [hi])) a ha2 b hb2 hne
  have hA : Apt d x n (v :: ffL d n (min k n - 1)) := by
    refine ⟨fun i hi => ?_, List.nodup_cons.2 ⟨hvo, a2⟩, fun i hi m hm hne c hc' ⟨h4, h5⟩ => ?_⟩
    · rcases List.mem_cons.1 hi with rfl | hi
      · exact hv
      · exact a1 i hi
    · rcases List.mem_cons.1 hi with e1 | hi2 <;> rcases List.mem_cons.1 hm with e2 | hm2
      · exact absurd (e1.trans e2.symm) hne
      · exact hall m hm2 (hfar _ _ c hv (a1 m hm2) hc' (by rw [← e1]; exact h4) h5)
      · exact hall i hi2 (hfar _ _ c hv (a1 i hi2) hc' (by rw [← e2]; exact h5) h4)
      · exact hpair hap a1 i hi2 m hm2 hne (hfar _ _ c (a1 i hi2) (a1 m hm2) hc' h4 h5)
  have := apt_le_cov (d := d) (far := x) hM.symm hJ.2.1 hA (fun i hi => hcov.2 i (hA.1 i hi))
  rw [List.length_cons, ffL_len, hJ.2.2] at this
  omega
theorem ffL_take (d : Nat → Nat → Int) (n : Nat) : ∀ j i, i ≤ j → (ffL d n j).take (i + 1) = ffL d n i
  | 0, i, h => by
    obtain rfl : i = 0 := by omega
    rfl
  | j + 1, i, h => by
    by_cases e : i = j + 1
    · subst e
      exact List.take_of_length_le (by rw [ffL_len]; exact Nat.le_refl _)
    · simp only [ffL]
      rw [List.take_append_of_le_length (by rw [ffL_len]; omega)]
      exact ffL_take d n j i (by omega)
end Go.Proofs.Ytkgomgfhhhdnjab
namespace Go.Proofs.Ytkgomgfhhhdnjab
open Go.ChangeShapes Go.WideShapes Go.ChangeAt Go.RowKit
set_option linter.unusedVariables false

theorem wk_pos {E : Nat → Nat → Int → Prop} {n a b : Nat} {x : Int} (hE : ∀ u v L, E u v L → 1 ≤ L) (h : Wk E n a b x) : (x = 0 ∧ a = b) ∨ 1 ≤ x := by
  induction h with
  | nil ha => exact .inl ⟨rfl, rfl⟩
  | snoc u v x L h1 h2 h3 ih =>
    have := hE u v L h2
    right
    omega
theorem Wk.mono {E E' : Nat → Nat → Int → Prop} {n a b : Nat} {x : Int} (hE : ∀ u v L, E u v L → E' u v L) (h : Wk E n a b x) : Wk E' n a b x := by
  induction h with
  | nil ha => exact Wk.nil ha
  | snoc u v x L h1 h2 h3 ih => exact Wk.snoc u v x L ih (hE u v L h2) h3
theorem sht_met {n : Nat} {ss : List Str} (hv : vnet n ss = true) : Met (sht n ss) n := by
  obtain ⟨h1, h2⟩ := sht_spec hv
  refine ⟨h1.zero, fun a b ha hb => h1.symm (fun u v L h => h.symm) ha hb, fun a b ha hb hne => ?_, fun a b c ha hb hc h3 h4 => h1.tri ha hb hc h3 h4, h2⟩
  rcases h1.way a b ha hb with h | ⟨h, hw⟩
  · omega
  · rcases wk_pos (fun u v L h => (SE.pos hv h).1) hw with ⟨_, e⟩ | h5
    · exact absurd e hne
    · omega

/-- A tree's roads as streets. -/
def strOf (ts : List (Int × Int)) : List Str := (List.range (ts.length - 1)).map fun i => (((i + 1 : Nat) : Int), (ts.getD (i + 1) (-1, 0)).1, (ts.getD (i + 1) (-1, 0)).2)
theorem strOf_len (ts : List (Int × Int)) : (strOf ts).length = ts.length - 1 := by simp [strOf]
theorem strOf_mem {ts : List (Int × Int)} {p : Str} : p ∈ strOf ts ↔ ∃ i, 1 ≤ i ∧ i < ts.length ∧ p = ((i : Int), (ts.getD i (-1, 0)).1, (ts.getD i (-1, 0)).2) := by
  unfold strOf
  rw [List.mem_map]
  constructor
  · rintro ⟨i, hi, rfl⟩
    have := List.mem_range.1 hi
    exact ⟨i + 1, by omega, by omega, rfl⟩
  · rintro ⟨i, h1, h2, rfl⟩
    obtain ⟨j, rfl⟩ : ∃ j, i = j + 1 := ⟨i - 1, by omega⟩
    exact ⟨j, List.mem_range.2 (by omega), rfl⟩
theorem strOf_step {ts : List (Int × Int)} {k : Nat} (hk : 1 ≤ k) (hl : k < ts.length) : strOf (ts.take (k + 1)) = strOf (ts.take k) ++ [((k : Int), (ts.getD k (-1, 0)).1, (ts.getD k (-1, 0)).2)] := by
  have g : ∀ m i, i < m → (ts.take m).getD i (-1, 0) = ts.getD i (-1, 0) := fun m i hi => by
    simp only [List.getD, List.getElem?_take]; rw [if_pos hi]
  unfold strOf
  rw [List.length_take, List.length_take, show min (k + 1) ts.length - 1 = (k - 1) + 1 by omega, show min k ts.length - 1 = k - 1 by omega, List.range_succ, List.map_append]
  congr 1
  · apply List.map_congr_left
    intro i hi
    have := List.mem_range.1 hi
    rw [g _ _ (by omega), g _ _ (by omega)]
  · simp only [List.map_cons, List.map_nil]
    rw [show k - 1 + 1 = k by omega, g _ _ (by omega)]
theorem strOf_net {ts : List (Int × Int)} (hv : vt ts = true) : vnet ts.length (strOf ts) = true := by
  obtain ⟨h1, h7, h3, h4, h5⟩ := (vt_iff ts).1 hv
  refine (vnet_iff _ _).2 ⟨by omega, by rw [strOf_len]; omega, fun p hp => ?_⟩
  obtain ⟨i, hi, hl, rfl⟩ := strOf_mem.1 hp
  have := h5 i hi hl
  simp only [okRoad, Bool.and_eq_true, decide_eq_true_eq] at this
  unfold OkS
  simp only
  omega
theorem strOf_edge {ts : List (Int × Int)} (hv : vt ts = true) {u v : Nat} {L : Int} : SE (strOf ts) u v L ↔ TE ts ts.length u v L := by
  constructor
  · rintro ⟨p, hp, rfl, h⟩
    obtain ⟨i, hi, hl, rfl⟩ := strOf_mem.1 hp
    have ht := vt_to hv hi hl
    refine ⟨i, hi, hl, rfl, ?_⟩
    simp only at h
    rcases h with ⟨h1, h2⟩ | ⟨h1, h2⟩
    · right; omega
    · left; omega
  · rintro ⟨i, hi, hl, rfl, h⟩
    have ht := vt_to hv hi hl
    refine ⟨_, strOf_mem.2 ⟨i, hi, hl, rfl⟩, rfl, ?_⟩
    simp only
    rcases h with ⟨h1, h2⟩ | ⟨h1, h2⟩
    · right; omega
    · left; omega
/-- The table of a tree is that of its roads as streets. -/
theorem strOf_dn {ts : List (Int × Int)} (hv : vt ts = true) {a b : Nat} (ha : a < ts.length) (hb : b < ts.length) : sht ts.length (strOf ts) a b = dn ts ts.length a b := by
  have h := dn_short (vt_ahead hv) (Nat.le_refl ts.length)
  have hS : Short (SE (strOf ts)) ts.length (dn ts ts.length) := by
    refine ⟨h.zero, fun a u v L ha he hv' h0 => h.step a u v L ha ((strOf_edge hv).1 he) hv' h0, fun a b ha hb => ?_⟩
    rcases h.way a b ha hb with h1 | ⟨h1, h2⟩
    · exact .inl h1
    · exact .inr ⟨h1, h2.mono fun u v L h => (strOf_edge hv).2 h⟩
  exact (sht_is (strOf_net hv) hS ha hb).symm
/-- Answers depend on the table below n alone. -/
theorem fnB_congr {d d' : Nat → Nat → Int} {far : Int} {s n : Nat} (h : ∀ a b, a < n → b < n → d a b = d' a b) : ∀ m, m ≤ n → fnB d far s n m = fnB d' far s n m
  | 0, _ => rfl
  | m + 1, hm => by
    have hn : ∀ k, k ≤ n → nrB d far s m k = nrB d' far s m k := by
      intro k
      induction k with
      | zero => intro _; rfl
      | succ k ih => intro hk; simp only [nrB]; rw [ih (by omega), h m k (by omega) (by omega)]
    simp only [fnB]
    rw [fnB_congr h m (by omega), hn n (Nat.le_refl _)]
theorem pkB_congr {d d' : Nat → Nat → Int} {far : Int} {n : Nat} (h : ∀ a b, a < n → b < n → d a b = d' a b) : ∀ S, pkB d far n S = pkB d' far n S
  | 0 => rfl
  | S + 1 => by simp only [pkB]; rw [fnB_congr h n (Nat.le_refl _), pkB_congr h S]
theorem cvF_congr {d d' : Nat → Nat → Int} {far : Int} {s n : Nat} (h : ∀ a b, a < n → b < n → d a b = d' a b) : ∀ m, m ≤ n → cvF d far s n m = cvF d' far s n m
  | 0, _ => rfl
  | m + 1, hm => by
    have hn : ∀ k, k ≤ n → nbB d far s m k = nbB d' far s m k := by
      intro k
      induction k with
      | zero => intro _; rfl
      | succ k ih => intro hk; simp only [nbB]; rw [ih (by omega), h m k (by omega) (by omega)]
    simp only [cvF]
    rw [cvF_congr h m (by omega), hn n (Nat.le_refl _)]
theorem cvN_congr {d d' : Nat → Nat → Int} {far : Int} {n : Nat} (h : ∀ a b, a < n → b < n → d a b = d' a b) : ∀ S, cvN d far n S = cvN d' far n S
  | 0 => rfl
  | S + 1 => by simp only [cvN]; rw [cvF_congr h n (Nat.le_refl _), cvN_congr h S]
end Go.Proofs.Ytkgomgfhhhdnjab
namespace Go.Proofs.Ytkgomgfhhhdnjab
open Go.ChangeShapes Go.WideShapes Go.ChangeAt Go.RowKit
set_option linter.unusedVariables false

theorem eqInt_same (A A' : Option Addr) (c c' n n' : Nat) (zs : List Int) (w : World) (B B' : Nat) (hr : RdI w B A zs) (hn : zs.length = n) (hr' : RdI w B' A' zs) (hn' : zs.length = n') (hb : n ≤ 1048576) :
    Calls Try.prog 99 #[.slice A n c, .slice A' n' c'] w fun e w' => e = .returned (.bool true) ∧ ∃ q, w' = w.drewN q :=
  (eqInt_any A A' c c' n n' zs zs w B B' hr hn hr' hn' hb).mono fun _ _ ⟨he, hw⟩ => ⟨by rw [he]; simp, hw⟩

/-- A contract whose call only draws, as one that keeps what is below. -/
theorem calls_drawn {P : Program} {f : FuncId} {args : Array Value} {w : World} {v : Value}
    (h : Calls P f args w fun e w' => e = .returned v ∧ ∃ q, w' = w.drewN q) : Calls P f args w fun e w' => e = .returned v ∧ Below w.heap.size w w' :=
  h.mono fun _ _ ⟨he, q, hq⟩ => ⟨he, by rw [hq]; exact below_drewN (Below.refl _ _) _⟩
theorem calls_same {P : Program} {f : FuncId} {args : Array Value} {w : World} {v : Value}
    (h : Calls P f args w fun e w' => e = .returned v ∧ w = w') : Calls P f args w fun e w' => e = .returned v ∧ Below w.heap.size w w' :=
  h.mono fun _ _ ⟨he, hq⟩ => ⟨he, by rw [← hq]; exact Below.refl _ _⟩
end Go.Proofs.Ytkgomgfhhhdnjab
namespace Go.Proofs.Ytkgomgfhhhdnjab
open Go.ChangeShapes Go.WideShapes Go.ChangeAt Go.RowKit
set_option linter.unusedVariables false

/-- A slice that is not nil, in a block of ints. -/
def RdL (w : World) (A : Option Addr) (l : List Int) : Prop :=
  ∃ b cs, A = some ⟨b, 0, none⟩ ∧ w.heap[b]? = some (Obj.cells cs 3 (0, 0)) ∧ ∀ i, i < l.length → cs[i]? = some (.int .i64 (l.getD i 0))
theorem RdL.rd {w : World} {A : Option Addr} {l : List Int} (h : RdL w A l) : RdI w w.heap.size A l := fun _ => by
  obtain ⟨b, cs, e, hb, hc⟩ := h
  exact ⟨b, 0, e, (Array.getElem?_eq_some_iff.1 hb).1, fun i hi => by rw [Nat.zero_add, cell_of_row _ _ _ _ _ _ hb]; exact hc i hi⟩
theorem RdL.block {w w' : World} {A : Option Addr} {l : List Int} (h : RdL w A l) (hk : ∀ (b : Nat) (cs : Array Value), w.heap[b]? = some (Obj.cells cs 3 (0, 0)) → w'.heap[b]? = w.heap[b]?) : RdL w' A l := by
  obtain ⟨b, cs, e, hb, hc⟩ := h
  exact ⟨b, cs, e, (hk b cs hb).trans hb, hc⟩
theorem RdL.below {w w' : World} {A : Option Addr} {l : List Int} (h : RdL w A l) (hb : Below w.heap.size w w') : RdL w' A l :=
  h.block fun b cs hbc => hb.block b (Array.getElem?_eq_some_iff.1 hbc).1
theorem RdL.alloc {w : World} {A : Option Addr} {l : List Int} (h : RdL w A l) (o : Obj) : RdL (w.alloc o) A l := h.below ((Below.refl _ _).alloc (Nat.le_refl _) o)
/-- A write into a row of other elements, or into a new block, leaves it. -/
theorem RdL.grown {w w' : World} {row : Option Nat} {A : Option Addr} {l : List Int} (h : RdL w A l) (hg : w.grownBy w' row) (hr : ∀ g, row = some g → ∀ cs, w.heap[g]? ≠ some (Obj.cells cs 3 (0, 0))) : RdL w' A l :=
  h.block fun b cs hbc => hg.block b (Array.getElem?_eq_some_iff.1 hbc).1 (fun e => hr b e.symm cs hbc)
theorem RdL.new {w w' : World} {A : Option Addr} {l : List Int} {o : Obj} (h : RdL w A l) (hg : (w.alloc o).grownBy w' (some w.heap.size)) : RdL w' A l :=
  h.block fun b cs hbc => by
    have hlt := (Array.getElem?_eq_some_iff.1 hbc).1
    rw [hg.block b (by simp; omega) (by intro e; injection e; omega), Below.heap_alloc w o b hlt]
theorem RdL.own {w : World} {B n : Nat} {v : Value} {l : List Int} (h : w.ownsRow B 3 1 v n (l.map (Value.int .i64))) (hl : l.length = n) (hn : 0 < n) : ∃ A c, v = .slice A n c ∧ n ≤ c ∧ RdL w A l := by
  rcases h.2 with ⟨_, h0⟩ | ⟨g, cap, cur, rfl, _, hb, hnc, _, hs, ht⟩
  · omega
  · refine ⟨_, cap, rfl, hnc, g, cur, rfl, hb, fun i hi => ?_⟩
    have h1 : (List.take (n * 1) cur.toList)[i]? = (l.map (Value.int .i64))[i]? := by rw [ht]
    rw [List.getElem?_take, if_pos (by omega), List.getElem?_map, List.getElem?_eq_getElem hi] at h1
    rw [← Array.getElem?_toList, h1]
    simp [List.getD, List.getElem?_eq_getElem hi]
def RdLL (w : World) (vs : List Value) (L : List (List Int)) : Prop :=
  vs.length = L.length ∧ ∀ (i : Nat) (l : List Int), L[i]? = some l → ∃ A c, vs[i]? = some (Value.slice A l.length c) ∧ l.length ≤ c ∧ RdL w A l
theorem RdLL.map {w w' : World} {vs : List Value} {L : List (List Int)} (h : RdLL w vs L) (hk : ∀ A l, RdL w A l → RdL w' A l) : RdLL w' vs L :=
  ⟨h.1, fun i l hl => by obtain ⟨A, c, h1, h2, h3⟩ := h.2 i l hl; exact ⟨A, c, h1, h2, hk A l h3⟩⟩
theorem RdLL.snoc {w : World} {vs : List Value} {L : List (List Int)} {A : Option Addr} {l : List Int} {c : Nat} (h : RdLL w vs L) (hc : l.length ≤ c) (hl : RdL w A l) : RdLL w (vs ++ [Value.slice A l.length c]) (L ++ [l]) := by
  refine ⟨by simp [h.1], fun i l' hi => ?_⟩
  rcases Nat.lt_or_ge i L.length with hlt | hge
  · rw [List.getElem?_append_left hlt] at hi
    obtain ⟨A', c', h1, h2, h3⟩ := h.2 i l' hi
    exact ⟨A', c', by rw [List.getElem?_append_left (by rw [h.1]; exact hlt)]; exact h1, h2, h3⟩
  · rw [List.getElem?_append_right hge] at hi
    have h0 : i - L.length = 0 := by
      have := (List.getElem?_eq_some_iff.1 hi).1
      simpa using this
    rw [h0] at hi
    simp at hi
    subst hi
    exact ⟨A, c, by rw [List.getElem?_append_right (by rw [h.1]; exact hge), h.1, h0]; rfl, hc, hl⟩
theorem RdLL.nil (w : World) : RdLL w [] [] := ⟨rfl, fun i l h => by simp at h⟩

end Go.Proofs.Ytkgomgfhhhdnjab
namespace Go.Proofs.Ytkgomgfhhhdnjab
open Go.ChangeShapes Go.WideShapes Go.ChangeAt Go.RowKit
set_option linter.unusedVariables false

def chs (prev : Nat → List (List Int)) (to : Nat) : Nat → List (List Int)
  | 0 => []
  | d + 1 => (prev d).map (fun l => ((to - (d + 1) : Nat) : Int) :: l) ++ chs prev to d
def chd (to : Nat) : Nat → Nat → List (List Int)
  | 0 => fun _ => [[]]
  | k + 1 => chs (chd to k) to
theorem chd_len_all : ∀ to : Fin 8, ∀ k : Fin 5, ∀ d : Fin 8, (chd to.val k.val d.val).length ≤ 128 := by decide +kernel
theorem chd_len {to k d : Nat} (h1 : to ≤ 7) (h2 : k ≤ 4) (h3 : d ≤ 7) : (chd to k d).length ≤ 128 := chd_len_all ⟨to, by omega⟩ ⟨k, by omega⟩ ⟨d, by omega⟩
theorem chd_each : ∀ (k to d : Nat), ∀ l ∈ chd to k d, l.length = k
  | 0, to, d, l, h => by simp [chd] at h; subst h; rfl
  | k + 1, to, d, l, h => by
    have hrec : ∀ d, ∀ l ∈ chs (chd to k) to d, l.length = k + 1 := by
      intro d
      induction d with
      | zero => intro l h; simp [chs] at h
      | succ d ih =>
        intro l h
        simp only [chs, List.mem_append, List.mem_map] at h
        rcases h with ⟨l', h1, rfl⟩ | h
        · simp [chd_each k to d l' h1]
        · exact ih l h
    exact hrec d l h
end Go.Proofs.Ytkgomgfhhhdnjab
namespace Go.Proofs.Ytkgomgfhhhdnjab
open Go.ChangeShapes Go.WideShapes Go.ChangeAt Go.RowKit
set_option linter.unusedVariables false

/-- Ascending lists of k numbers from f on, below to. -/
def AscI (f to k : Nat) (J : List Nat) : Prop := J.Pairwise (· < ·) ∧ (∀ i ∈ J, f ≤ i ∧ i < to) ∧ J.length = k
theorem chd_mem (to : Nat) : ∀ k d, d ≤ to → ∀ l, l ∈ chd to k d ↔ ∃ J, l = J.map Int.ofNat ∧ AscI (to - d) to k J
  | 0, d, hd, l => by
    simp only [chd, List.mem_singleton]
    constructor
    · rintro rfl
      exact ⟨[], rfl, List.Pairwise.nil, (fun i hi => by cases hi), rfl⟩
    · rintro ⟨J, rfl, _, _, h⟩
      rw [List.length_eq_zero_iff.1 h]; rfl
  | k + 1, d, hd, l => by
    show l ∈ chs (chd to k) to d ↔ _
    induction d with
    | zero =>
      simp only [chs, List.not_mem_nil, false_iff]
      rintro ⟨J, _, _, h2, h3⟩
      cases J with
      | nil => simp at h3
      | cons j J => have := h2 j (by simp); omega
    | succ d ih =>
      simp only [chs, List.mem_append, List.mem_map]
      rw [ih (by omega)]
      constructor
      · rintro (⟨l', h1, rfl⟩ | ⟨J, rfl, h1, h2, h3⟩)
        · obtain ⟨J, rfl, h2, h3, h4⟩ := (chd_mem to k d (by omega) l').1 h1
          refine ⟨(to - (d + 1)) :: J, rfl, List.pairwise_cons.2 ⟨fun i hi => by have := h3 i hi; omega, h2⟩, fun i hi => ?_, by simp [h4]⟩
          rcases List.mem_cons.1 hi with rfl | hi
          · omega
          · have := h3 i hi; omega
        · exact ⟨J, rfl, h1, fun i hi => by have := h2 i hi; omega, h3⟩
      · rintro ⟨J, rfl, h1, h2, h3⟩
        cases J with
        | nil => simp at h3
        | cons j J =>
          obtain ⟨h4, h5⟩ := List.pairwise_cons.1 h1
          have hj := h2 j (by simp)
          by_cases e : j = to - (d + 1)
          · subst e
            refine .inl ⟨J.map Int.ofNat, (chd_mem to k d (by omega) _).2 ⟨J, rfl, h5, fun i hi => ?_, by simpa using h3⟩, rfl⟩
            have := h4 i hi
            have := h2 i (by simp [hi])
            omega
          · refine .inr ⟨j :: J, rfl, h1, fun i hi => ?_, h3⟩
            rcases List.mem_cons.1 hi with rfl | hi
            · omega
            · have := h4 i hi
              have := h2 i (by simp [hi])
              omega
theorem toNat_ofNat (J : List Nat) : (J.map Int.ofNat).map Int.toNat = J := by
  rw [List.map_map]
  have : Int.toNat ∘ Int.ofNat = id := by funext i; rfl
  rw [this, List.map_id]
theorem ascI_zero {to k : Nat} {J : List Nat} : AscI (to - to) to k J ↔ Asc to k J := by
  unfold AscI Asc
  rw [Nat.sub_self]
  exact ⟨fun ⟨h1, h2, h3⟩ => ⟨h1, fun i hi => (h2 i hi).2, h3⟩, fun ⟨h1, h2, h3⟩ => ⟨h1, fun i hi => ⟨Nat.zero_le _, h2 i hi⟩, h3⟩⟩
/-- How far it is with a choice. -/
def radI (d : Nat → Nat → Int) (n : Nat) (l : List Int) : Int := radL d (l.map Int.toNat) n
def nfar (d : Nat → Nat → Int) (n m : Nat) : Int := pkL (radI d n) (chd n m n) (-1)
theorem nfar_is (d : Nat → Nat → Int) (n m : Nat) : NfIs d n m (nfar d n m) := by
  have hmem : ∀ l, l ∈ chd n m n ↔ ∃ J, l = J.map Int.ofNat ∧ Asc n m J := fun l => by
    rw [chd_mem n m n (Nat.le_refl _)]
    constructor
    · rintro ⟨J, h1, h2⟩; exact ⟨J, h1, ascI_zero.1 h2⟩
    · rintro ⟨J, h1, h2⟩; exact ⟨J, h1, ascI_zero.2 h2⟩
  rcases pkL_cases (radI d n) (chd n m n) with ⟨h1, h2⟩ | ⟨h1, ⟨l, hl, h2⟩, h3⟩
  · refine .inl ⟨h1, fun J hJ => ?_⟩
    have := h2 _ ((hmem _).2 ⟨J, rfl, hJ⟩)
    unfold radI at this
    rwa [toNat_ofNat] at this
  · refine .inr ⟨h1, ?_, fun J hJ h0 => ?_⟩
    · obtain ⟨J, rfl, hJ⟩ := (hmem l).1 hl
      refine ⟨J, hJ, ?_⟩
      have : radI d n (J.map Int.ofNat) = nfar d n m := h2
      unfold radI at this
      rwa [toNat_ofNat] at this
    · have := h3 _ ((hmem _).2 ⟨J, rfl, hJ⟩)
      unfold radI at this
      rw [toNat_ofNat] at this
      exact this h0
/-- One step of a loop that picks the least one. -/
theorem pkL_take {α : Type} (f : α → Int) {L : List α} {t : Nat} {x : α} (h : L[t]? = some x) (acc : Int) : pkL f (L.take (t + 1)) acc = if 0 ≤ f x ∧ (pkL f (L.take t) acc < 0 ∨ f x < pkL f (L.take t) acc) then f x else pkL f (L.take t) acc := by
  obtain ⟨hlt, e⟩ := List.getElem?_eq_some_iff.1 h
  rw [List.take_succ_eq_append_getElem hlt, pkL_append, e]
  rfl
theorem pkL_yes {α : Type} {f : α → Int} {L : List α} {t : Nat} {x : α} {acc p y : Int} (h : L[t]? = some x) (hp : pkL f (L.take t) acc = p) (hy : f x = y) (h0 : 0 ≤ y) (hc : p < 0 ∨ y < p) : pkL f (L.take (t + 1)) acc = y := by
  rw [pkL_take f h, hp, hy, if_pos ⟨h0, hc⟩]
theorem pkL_no {α : Type} {f : α → Int} {L : List α} {t : Nat} {x : α} {acc p y : Int} (h : L[t]? = some x) (hp : pkL f (L.take t) acc = p) (hy : f x = y) (hc : ¬ (0 ≤ y ∧ (p < 0 ∨ y < p))) : pkL f (L.take (t + 1)) acc = p := by
  rw [pkL_take f h, hp, hy, if_neg hc]
theorem rad_stay {d : Nat → Nat → Int} {L : List Nat} {v : Nat} (h : radL d L v < 0) : ∀ m, v ≤ m → radL d L m = radL d L v := by
  intro m hm
  induction m with
  | zero => have : v = 0 := by omega
            subst this; rfl
  | succ m ih =>
    by_cases e : v = m + 1
    · subst e; rfl
    · have := ih (by omega)
      simp only [radL]
      rw [this, if_pos h]
theorem rad_none {d : Nat → Nat → Int} {L : List Nat} {v : Nat} {f y : Int} (h : radL d L v = f) (h0 : 0 ≤ f) (hy : wy d v L = y) (hn : y < 0) : radL d L (v + 1) = -1 := by
  simp only [radL]
  rw [h, if_neg (by omega), hy, if_pos hn]
theorem rad_some {d : Nat → Nat → Int} {L : List Nat} {v : Nat} {f y : Int} (h : radL d L v = f) (h0 : 0 ≤ f) (hy : wy d v L = y) (hn : 0 ≤ y) : radL d L (v + 1) = max f y := by
  simp only [radL]
  rw [h, if_neg (by omega), hy, if_neg (by omega)]
theorem pkL_low {α : Type} (f : α → Int) {L : List α} : -1 ≤ pkL f L (-1) := by
  rcases pkL_cases f L with ⟨h, _⟩ | ⟨h, _⟩ <;> omega
theorem pkL_high {α : Type} {f : α → Int} {L : List α} {b : Int} (hb : 0 ≤ b) (h : ∀ x ∈ L, f x ≤ b) : pkL f L (-1) ≤ b := by
  rcases pkL_cases f L with ⟨h1, _⟩ | ⟨_, ⟨x, hx, h1⟩, _⟩
  · omega
  · have := h x hx; omega
end Go.Proofs.Ytkgomgfhhhdnjab
namespace Go.Proofs.Ytkgomgfhhhdnjab
open Go.ChangeShapes Go.WideShapes Go.ChangeAt Go.RowKit
set_option linter.unusedVariables false
set_option maxRecDepth 4000

/-- NetApart's and NetCover's answers. -/
noncomputable def nap (n : Int) (ss : List Str) (far : Int) : Int := if vnet n ss = true ∧ 0 ≤ far ∧ far ≤ 50 then ((pkB (sht n.toNat ss) far n.toNat (2 ^ n.toNat) : Nat) : Int) else -1
noncomputable def ncv (n : Int) (ss : List Str) (far : Int) : Int := if vnet n ss = true ∧ 0 ≤ far ∧ far ≤ 50 then ((cvN (sht n.toNat ss) far n.toNat (2 ^ n.toNat) : Nat) : Int) else -1
theorem nap_no {n : Int} {ss : List Str} {far : Int} (h : vnet n ss = false ∨ far < 0 ∨ 50 < far) : nap n ss far = -1 := by
  unfold nap
  rw [if_neg]
  rintro ⟨h1, h2, h3⟩
  rcases h with h | h | h
  · rw [h1] at h; cases h
  · omega
  · omega
theorem ncv_no {n : Int} {ss : List Str} {far : Int} (h : vnet n ss = false ∨ far < 0 ∨ 50 < far) : ncv n ss far = -1 := by
  unfold ncv
  rw [if_neg]
  rintro ⟨h1, h2, h3⟩
  rcases h with h | h | h
  · rw [h1] at h; cases h
  · omega
  · omega
theorem nap_yes {n : Nat} {ss : List Str} {far : Int} (h : vnet n ss = true) (h1 : 0 ≤ far) (h2 : far ≤ 50) : nap n ss far = ((pkB (sht n ss) far n (2 ^ n) : Nat) : Int) := by
  unfold nap; rw [if_pos ⟨h, h1, h2⟩]; rfl
theorem ncv_yes {n : Nat} {ss : List Str} {far : Int} (h : vnet n ss = true) (h1 : 0 ≤ far) (h2 : far ≤ 50) : ncv n ss far = ((cvN (sht n ss) far n (2 ^ n) : Nat) : Int) := by
  unfold ncv; rw [if_pos ⟨h, h1, h2⟩]; rfl
/-- NetFar's answer. -/
noncomputable def nfr (n : Int) (ss : List Str) (k : Int) : Int := if vnet n ss = true ∧ 1 ≤ k ∧ k ≤ 4 then nfar (sht n.toNat ss) n.toNat (min k.toNat n.toNat) else -1
theorem nfr_no {n : Int} {ss : List Str} {k : Int} (h : vnet n ss = false ∨ k < 1 ∨ 4 < k) : nfr n ss k = -1 := by
  unfold nfr
  rw [if_neg]
  rintro ⟨h1, h2, h3⟩
  rcases h with h | h | h
  · rw [h1] at h; cases h
  · omega
  · omega
theorem nfr_yes {n k : Nat} {ss : List Str} (h : vnet n ss = true) (h1 : 1 ≤ k) (h2 : k ≤ 4) : nfr n ss k = nfar (sht n ss) n (min k n) := by
  unfold nfr; rw [if_pos ⟨h, by omega, by omega⟩]; rfl
/-- The arguments of a function over a net. -/
structure NetIn (w : World) (A : Option Addr) (c m : Nat) (n : Int) (ss : List Str) : Prop where
  rd : RdS w w.heap.size A ss
  len : ss.length = m
  cap : m ≤ c ∧ c ≤ 9223372036854775807
  most : m ≤ 1048576
  wf : (Lit.int .i64 n).wf = true
def INum (F : Nat) (ans : Int → List Str → Int → Int) : Prop := ∀ (A : Option Addr) (c m : Nat) (n : Int) (ss : List Str) (k : Int) (w : World), NetIn w A c m n ss → (Lit.int .i64 k).wf = true →
  Calls Try.prog F #[.int .i64 n, .slice A m c, .int .i64 k] w fun e w' => e = .returned (.int .i64 (ans n ss k)) ∧ Below w.heap.size w w'
def IBool (F : Nat) : Prop := ∀ (A : Option Addr) (c m : Nat) (n : Int) (ss : List Str) (w : World), NetIn w A c m n ss →
  Calls Try.prog F #[.int .i64 n, .slice A m c] w fun e w' => e = .returned (.bool (vnet n ss)) ∧ Below w.heap.size w w'
def IRows (F : Nat) : Prop := ∀ (A : Option Addr) (c m : Nat) (n : Int) (ss : List Str) (w : World), NetIn w A c m n ss →
  Calls Try.prog F #[.int .i64 n, .slice A m c] w (NetAns w n ss)
theorem NetIn.later {w w' : World} {A : Option Addr} {c m : Nat} {n : Int} {ss : List Str} (h : NetIn w A c m n ss) (hb : Below w.heap.size w w') : NetIn w' A c m n ss :=
  ⟨(h.rd.below hb).more hb.size, h.len, h.cap, h.most, h.wf⟩
theorem wf_small {n : Int} (h : -1000 ≤ n ∧ n ≤ 1000) : (Lit.int .i64 n).wf = true := WalkArith.wf_i64 (by omega)
theorem ncv_is {n : Int} {ss : List Str} {far : Int} (h : vnet n ss = true) (h0 : 0 ≤ far) (h1 : far ≤ 50) : ncv n ss far = ((cvN (sht n.toNat ss) far n.toNat (2 ^ n.toNat) : Nat) : Int) := by unfold ncv; rw [if_pos ⟨h, h0, h1⟩]
theorem nap_is {n : Int} {ss : List Str} {far : Int} (h : vnet n ss = true) (h0 : 0 ≤ far) (h1 : far ≤ 50) : nap n ss far = ((pkB (sht n.toNat ss) far n.toNat (2 ^ n.toNat) : Nat) : Int) := by unfold nap; rw [if_pos ⟨h, h0, h1⟩]
theorem ncv_has {n : Int} {ss : List Str} {far : Int} (h : 0 ≤ ncv n ss far) : vnet n ss = true ∧ 0 ≤ far ∧ far ≤ 50 := by
  unfold ncv at h
  split at h
  · assumption
  · omega
theorem nap_has {n : Int} {ss : List Str} {far : Int} (h : 0 ≤ nap n ss far) : vnet n ss = true ∧ 0 ≤ far ∧ far ≤ 50 := by
  unfold nap at h
  split at h
  · assumption
  · omega
theorem cover_facts {n : Int} {ss : List Str} {far : Int} (h : 0 ≤ ncv n ss far) : nap n ss far ≤ ncv n ss far ∧ (ncv n ss (far + 1) < 0 ∨ ncv n ss (far + 1) ≤ ncv n ss far) ∧ 1 ≤ ncv n ss far ∧ 0 ≤ far ∧ far ≤ 50 := by
  obtain ⟨hv, h0, h1⟩ := ncv_has h
  obtain ⟨k, rfl, hk1, hk7⟩ := vnet_nat hv
  have hM := sht_met (n := k) hv
  rw [ncv_is hv h0 h1, nap_is hv h0 h1, Int.toNat_natCast]
  have e1 := pk_le_cv (far := far) hk7 hM.symm hM.zero h0
  have e2 := cvN_pos (far := far) hk7 hk1 hM.zero h0
  refine ⟨by omega, ?_, by omega, h0, h1⟩
  by_cases h2 : far + 1 ≤ 50
  · right
    rw [ncv_is hv (by omega) h2, Int.toNat_natCast]
    have e3 := cvN_mono (far := far) (far' := far + 1) hk7 hM.zero h0 (by omega)
    omega
  · left
    rw [ncv_no (.inr (by omega))]; omega
theorem apart_facts {n : Int} {ss : List Str} {far : Int} (h : 0 ≤ nap n ss far) : 1 ≤ nap n ss far ∧ nap n ss far ≤ ncv n ss far ∧ nap n ss 0 = n := by
  obtain ⟨hv, h0, h1⟩ := nap_has h
  obtain ⟨k, rfl, hk1, hk7⟩ := vnet_nat hv
  have hM := sht_met (n := k) hv
  rw [ncv_is hv h0 h1, nap_is hv h0 h1, nap_is hv (by omega) (by omega), Int.toNat_natCast]
  have e1 := pk_le_cv (far := far) hk7 hM.symm hM.zero h0
  have e2 := pkB_pos (d := sht k ss) (far := far) hk7 hk1
  have e3 := pkB_zero (d := sht k ss) hk7 hM.pos
  have e4 := pkB_le_n (sht k ss) 0 hk7
  exact ⟨by omega, by omega, by omega⟩
theorem far_facts {n : Int} {ss : List Str} {k : Int} (hv : vnet n ss = true) (h1 : 1 ≤ k) (h4 : k ≤ 4) : ∀ r : Int, 0 ≤ r → r ≤ 50 → (ncv n ss r ≤ k ↔ 0 ≤ nfr n ss k ∧ nfr n ss k ≤ r) := by
  intro r hr0 hr1
  obtain ⟨j, rfl, hj1, hj7⟩ := vnet_nat hv
  obtain ⟨k, rfl⟩ := Int.eq_ofNat_of_zero_le (show 0 ≤ k by omega)
  have hM := sht_met (n := j) hv
  have := nf_cv (k := k) hj7 hM.zero (nfar_is (sht j ss) j (min k j)) hr0
  rw [ncv_is hv hr0 hr1]
  unfold nfr
  rw [if_pos ⟨hv, h1, h4⟩, Int.toNat_natCast, Int.toNat_natCast]
  omega
def nm (n : Int) (ss : List Str) : Nat := if vnet n ss = true then n.toNat else 0
def nL (n : Int) (ss : List Str) : Nat := if vnet n ss = true then n.toNat else 1
theorem rowX_length (X : Nat → Nat → Int) (n j : Nat) : (rowX X n j).length = n := by simp [rowX]
theorem nm_bd (n : Int) (ss : List Str) : nm n ss ≤ 7 ∧ 1 ≤ nL n ss ∧ nL n ss ≤ 7 ∧ ∀ j, j < nm n ss → (rowX (sht n.toNat ss) n.toNat j).length = nL n ss := by
  unfold nm nL
  by_cases h : vnet n ss = true
  · obtain ⟨k, rfl, h1, h7⟩ := vnet_nat h
    rw [if_pos h, if_pos h]
    exact ⟨h7, h1, h7, fun j _ => rowX_length _ _ _⟩
  · rw [if_neg h, if_neg h]
    exact ⟨by omega, by omega, by omega, fun j hj => by omega⟩
/-- What both tables are. -/
def NabUni (w : World) (n : Int) (ss : List Str) (e : Ending) (w' : World) : Prop :=
  ∃ A c VR, e = .returned (.slice A (nm n ss) c) ∧ Outer w' w.heap.size (nm n ss) (.slice A (nm n ss) c) VR ∧ TT w' w.heap.size (nm n ss) VR (rowX (sht n.toNat ss) n.toNat) ∧ Below w.heap.size w w'
theorem nab_uni {w w' : World} {n : Int} {ss : List Str} {e : Ending} (h : NetAns w n ss e w') : NabUni w n ss e w' := by
  unfold NabUni nm
  rcases h with ⟨hv, rfl, hb⟩ | ⟨hv, v, VR, rfl, hO, hT, hb⟩
  · rw [hv]
    simp only [Bool.false_eq_true, if_false]
    exact ⟨none, 0, fun _ => .nilIface, rfl, World.ownsRow_nil _ _ _ _, ⟨fun j hj => by omega, fun i j g hi => by omega⟩, hb⟩
  · rw [if_pos hv]
    obtain ⟨A, c, e, _⟩ := own_sliceN hO
    subst e
    exact ⟨A, c, VR, rfl, hO, hT, hb⟩
theorem nfr_bd (n : Int) (ss : List Str) (k : Int) : -1 ≤ nfr n ss k ∧ nfr n ss k ≤ 54 := by
  unfold nfr
  split
  · rename_i h
    obtain ⟨j, rfl, hj1, hj7⟩ := vnet_nat h.1
    have hM := sht_met (n := j) h.1
    rw [Int.toNat_natCast]
    rcases nfar_is (sht j ss) j (min k.toNat j) with ⟨h1, -⟩ | ⟨h1, ⟨J, hJ, h2⟩, -⟩
    · omega
    · refine ⟨by omega, ?_⟩
      rw [← h2] at h1 ⊢
      rcases rad_cases (sht j ss) J j with ⟨h3, -⟩ | ⟨h3, h4, h5⟩
      · omega
      · rcases h5 with h5 | ⟨v, hv, h5⟩
        · omega
        · rw [← h5]
          exact pkL_high (by omega) (fun x hx => (hM.bd v x hv (hJ.2.1 x hx)).2)
  · omega
end Go.Proofs.Ytkgomgfhhhdnjab
namespace Go.Proofs.Ytkgomgfhhhdnjab
open Go.ChangeShapes Go.WideShapes Go.ChangeAt Go.RowKit
set_option linter.unusedVariables false

/-- A quiet call inside a region that draws its order, whatever has been drawn before it. -/
theorem quiet_gen {P : Program} {f : FuncId} {args : Array Value} {W : World} {v : Value} {R : Nat → World}
    (h : Calls P f args W fun e w' => e = .returned v ∧ W = w') (hW : ∃ m, W = R m) : Calls P f args W fun e w'' => e = .returned v ∧ ∃ m, w'' = R m :=
  h.mono fun _ _ ⟨he, hm⟩ => ⟨he, by obtain ⟨m, e⟩ := hW; exact ⟨m, hm.symm.trans e⟩⟩
theorem inRange_yes (n a b : Int) (w : World) (h1 : a ≤ n) (h2 : n ≤ b) :
    Calls Try.prog 71 #[.int .i64 n, .int .i64 a, .int .i64 b] w fun e w' => e = .returned (.bool true) ∧ w = w' :=
  (inRange_any n a b w).mono fun _ _ ⟨he, hw⟩ => ⟨by rw [he]; simp [h1, h2], hw⟩
theorem inRange_no (n a b : Int) (w : World) (h : n < a ∨ b < n) :
    Calls Try.prog 71 #[.int .i64 n, .int .i64 a, .int .i64 b] w fun e w' => e = .returned (.bool false) ∧ w = w' :=
  (inRange_any n a b w).mono fun _ _ ⟨he, hw⟩ => ⟨by rw [he]; rcases h with h | h <;> simp <;> omega, hw⟩

end Go.Proofs.Ytkgomgfhhhdnjab
namespace Go.Proofs.Ytkgomgfhhhdnjab
open Go.ChangeShapes Go.WideShapes Go.ChangeAt Go.RowKit
set_option linter.unusedVariables false
set_option maxRecDepth 4000

theorem power_any (n : Nat) (w : World) (hn : n ≤ 7) : Calls Try.prog 83 #[.int .i64 n] w fun e w' => e = .returned (.int .i64 ((2 ^ n : Nat) : Int)) ∧ w = w' := by
  go_enter Try.func83, Try.ntmps83
  go_wp2
  go_loop [0, 3] (fun a o => ∃ k m : Nat, k + m = n ∧ a = .int .i64 m ∧ o = .int .i64 ((2 ^ k : Nat) : Int)) (fun a _ => (intOf a).toNat)
  case atStart => exact ⟨0, n, by omega, rfl, rfl⟩
  case round =>
    obtain ⟨k, m, hkm, rfl, rfl⟩ := hrel
    by_cases hm : 0 < m
    · have hp : 2 ^ k ≤ 2 ^ 7 := Nat.pow_le_pow_right (by omega) (by omega)
      have hs : Hid (2 ^ (k + 1) = 2 * 2 ^ k) := by show _ = _; rw [Nat.pow_succ]; omega
      obtain ⟨P, HP⟩ : ∃ P : Nat, Hid (2 ^ k = P) := ⟨2 ^ k, rfl⟩
      rw [HP.out] at hp hs ⊢
      go_wp2
      go_round
      case rel => exact ⟨k + 1, m - 1, by omega, by go_num, by rw [hs.out]; go_num⟩
      case measure => simp [intOf]; omega
    · have hkn : k = n := by omega
      subst hkn
      go_wp2
      go_ret
      exact ⟨rfl, rfl⟩
theorem bit_num : ∀ s : Fin 128, ∀ i : Fin 7, ((s.val : Int).tdiv ((2 ^ i.val : Nat) : Int)).tmod 2 = if s.val.testBit i.val = true then 1 else 0 := by decide +kernel
theorem bit_is (s i : Nat) (w : World) (hs : s < 128) (hi : i < 7) {z : Int} (hz : (if s.testBit i = true then (1 : Int) else 0) = z) : Calls Try.prog 84 #[.int .i64 s, .int .i64 i] w fun e w' => e = .returned (.int .i64 z) ∧ w = w' := by
  have hb := bit_num ⟨s, hs⟩ ⟨i, hi⟩
  simp only at hb
  rw [hz] at hb
  have hp : 0 < 2 ^ i := Nat.two_pow_pos i
  have Hp := Lib.hid (power_any i w (by omega))
  obtain ⟨P, HP⟩ : ∃ P : Nat, Hid (2 ^ i = P) := ⟨2 ^ i, rfl⟩
  have hd : s / P ≤ s := Nat.div_le_self _ _
  rw [HP.out] at hp hb Hp
  have hdv : (s : Int).tdiv (P : Int) = ((s / P : Nat) : Int) := (Int.ofNat_tdiv s P).symm
  have hdv2 : (s : Int) / (P : Int) = ((s / P : Nat) : Int) := (Int.natCast_ediv s P).symm
  rw [hdv] at hb
  obtain ⟨D, HD⟩ : ∃ D : Nat, Hid (s / P = D) := ⟨s / P, rfl⟩
  rw [HD.out] at hb hdv hdv2 hd
  have Hb := Lib.hid hb
  clear hb hz
  have hne : ¬ (P : Int) = 0 := by omega
  go_enter Try.func84, Try.ntmps84
  go_wp2_with fail
  refine Hp.out.mono ?_
  rintro e w' ⟨rfl, rfl⟩
  go_wp2
  go_ret
  exact ⟨ret_int Hb.out, rfl⟩
theorem bit_any (s i : Nat) (w : World) (hs : s < 128) (hi : i < 7) : Calls Try.prog 84 #[.int .i64 s, .int .i64 i] w fun e w' => e = .returned (.int .i64 (if s.testBit i = true then 1 else 0)) ∧ w = w' := bit_is s i w hs hi rfl
theorem bits_num : ∀ s : Fin 128, bc 7 s.val = s.val % 2 + bc 7 (s.val / 2) := by decide +kernel
theorem bits_any (s : Nat) (w : World) (hs : s < 128) : Calls Try.prog 85 #[.int .i64 s] w fun e w' => e = .returned (.int .i64 ((bc 7 s : Nat) : Int)) ∧ w = w' := by
  go_enter Try.func85, Try.ntmps85
  go_wp2
  go_loop [0, 3] (fun a o => ∃ r k : Nat, Hid (k + bc 7 r = bc 7 s) ∧ r ≤ s ∧ k ≤ 1000 - r ∧ a = .int .i64 r ∧ o = .int .i64 k) (fun a _ => (intOf a).toNat)
  case atStart => exact ⟨s, 0, Nat.zero_add _, Nat.le_refl _, Nat.zero_le _, rfl, rfl⟩
  case round =>
    obtain ⟨r, k, Hr, hrs, hk, rfl, rfl⟩ := hrel
    by_cases hr0 : 0 < r
    · have hn := bits_num ⟨r, by omega⟩
      simp only at hn
      have H2 : Hid (k + r % 2 + bc 7 (r / 2) = bc 7 s) := by show _ = _; rw [← Hr.out, hn]; omega
      clear hn
      have hm2 : r % 2 ≤ 1 := by omega
      have hd2 : r / 2 < r := by omega
      have e1 : (r : Int).tmod 2 = ((r % 2 : Nat) : Int) := (Int.ofNat_tmod r 2).symm
      have e2 : (r : Int).tdiv 2 = ((r / 2 : Nat) : Int) := (Int.ofNat_tdiv r 2).symm
      obtain ⟨a, Ha⟩ : ∃ a, Hid (r % 2 = a) := ⟨_, rfl⟩
      obtain ⟨b, Hb⟩ : ∃ b, Hid (r / 2 = b) := ⟨_, rfl⟩
      rw [Ha.out] at H2 hm2 e1
      rw [Hb.out] at H2 hd2 e2
      go_wp2
      go_round
      case rel => exact ⟨b, k + a, H2, by omega, by omega, by first | rfl | (congr 1; omega), by first | go_num | (congr 1; omega)⟩
      case measure => simp [intOf]; omega
    · have h0 : r = 0 := by omega
      subst h0
      have H2 : Hid (k = bc 7 s) := Hr.out
      go_wp2
      go_ret
      exact ⟨ret_int (by rw [← H2.out]), rfl⟩
end Go.Proofs.Ytkgomgfhhhdnjab
