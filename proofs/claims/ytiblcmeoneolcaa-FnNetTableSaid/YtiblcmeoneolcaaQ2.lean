/-
  The least one of how far the farthest is, over sets of nodes; farthest first is at most twice as far.
  Conditions: at most seven nodes; ways are as a table of shortest ways has them.
-/
import Derived.Test.YtiblcmeoneolcaaQ1
namespace Go.Proofs.Ytiblcmeoneolcaa
open Go.ChangeShapes Go.WideShapes Go.ChangeAt Go.RowKit
set_option linter.unusedVariables false

/-- The least one that is not negative; -1 for none. -/
def pkL {α : Type} (f : α → Int) : List α → Int → Int
  | [], acc => acc
  | x :: r, acc => pkL f r (if 0 ≤ f x ∧ (acc < 0 ∨ f x < acc) then f x else acc)
theorem pkL_from {α : Type} (f : α → Int) : ∀ (L : List α) (acc : Int), 0 ≤ acc → 0 ≤ pkL f L acc ∧ (pkL f L acc = acc ∨ ∃ x ∈ L, f x = pkL f L acc) ∧ pkL f L acc ≤ acc ∧ ∀ x ∈ L, 0 ≤ f x → pkL f L acc ≤ f x
  | [], acc, h => ⟨h, .inl rfl, Int.le_refl _, fun x hx => by cases hx⟩
  | y :: L, acc, h => by
    simp only [pkL]
    by_cases hc : 0 ≤ f y ∧ (acc < 0 ∨ f y < acc)
    · rw [if_pos hc]
      obtain ⟨h1, h2, h3, h4⟩ := pkL_from f L (f y) hc.1
      refine ⟨h1, .inr ?_, by omega, fun x hx h0 => ?_⟩
      · rcases h2 with h2 | ⟨x, hx, h2⟩
        · exact ⟨y, by simp, h2.symm⟩
        · exact ⟨x, by simp [hx], h2⟩
      · rcases List.mem_cons.1 hx with rfl | hx
        · exact h3
        · exact h4 x hx h0
    · rw [if_neg hc]
      obtain ⟨h1, h2, h3, h4⟩ := pkL_from f L acc h
      refine ⟨h1, ?_, h3, fun x hx h0 => ?_⟩
      · rcases h2 with h2 | ⟨x, hx, h2⟩
        · exact .inl h2
        · exact .inr ⟨x, by simp [hx], h2⟩
      · rcases List.mem_cons.1 hx with rfl | hx
        · omega
        · exact h4 x hx h0
theorem pkL_cases {α : Type} (f : α → Int) : ∀ (L : List α), (pkL f L (-1) = -1 ∧ ∀ x ∈ L, f x < 0) ∨ (0 ≤ pkL f L (-1) ∧ (∃ x ∈ L, f x = pkL f L (-1)) ∧ ∀ x ∈ L, 0 ≤ f x → pkL f L (-1) ≤ f x)
  | [] => .inl ⟨rfl, fun x hx => by cases hx⟩
  | y :: L => by
    simp only [pkL]
    by_cases h0 : 0 ≤ f y
    · rw [if_pos ⟨h0, .inl (by omega)⟩]
      obtain ⟨h1, h2, h3, h4⟩ := pkL_from f L (f y) h0
      refine .inr ⟨h1, ?_, fun x hx h0 => ?_⟩
      · rcases h2 with h2 | ⟨x, hx, h2⟩
        · exact ⟨y, by simp, h2.symm⟩
        · exact ⟨x, by simp [hx], h2⟩
      · rcases List.mem_cons.1 hx with rfl | hx
        · exact h3
        · exact h4 x hx h0
    · rw [if_neg (by omega)]
      rcases pkL_cases f L with ⟨h1, h2⟩ | ⟨h1, ⟨x, hx, h2⟩, h3⟩
      · refine .inl ⟨h1, fun x hx => ?_⟩
        rcases List.mem_cons.1 hx with rfl | hx
        · omega
        · exact h2 x hx
      · refine .inr ⟨h1, ⟨x, by simp [hx], h2⟩, fun z hz hz0 => ?_⟩
        rcases List.mem_cons.1 hz with rfl | hz
        · omega
        · exact h3 z hz hz0
theorem pkL_append {α : Type} (f : α → Int) : ∀ (A B : List α) (acc : Int), pkL f (A ++ B) acc = pkL f B (pkL f A acc)
  | [], B, acc => rfl
  | x :: A, B, acc => by simp only [List.cons_append, pkL]; rw [pkL_append f A B]

/-- How far the nearest of a list is. -/
def wy (d : Nat → Nat → Int) (v : Nat) (L : List Nat) : Int := pkL (d v) L (-1)
/-- How far the farthest of the nodes below m is from the nearest of a list; -1 if one has no way. -/
def radL (d : Nat → Nat → Int) (L : List Nat) : Nat → Int
  | 0 => 0
  | v + 1 => if radL d L v < 0 then radL d L v else if wy d v L < 0 then -1 else max (radL d L v) (wy d v L)
theorem rad_cases (d : Nat → Nat → Int) (L : List Nat) : ∀ m, (radL d L m = -1 ∧ ∃ v, v < m ∧ ∀ j ∈ L, d v j < 0) ∨ (0 ≤ radL d L m ∧ (∀ v, v < m → 0 ≤ wy d v L ∧ wy d v L ≤ radL d L m) ∧ (radL d L m = 0 ∨ ∃ v, v < m ∧ wy d v L = radL d L m))
  | 0 => .inr ⟨Int.le_refl _, fun v hv => by omega, .inl rfl⟩
  | m + 1 => by
    simp only [radL]
    rcases rad_cases d L m with ⟨h1, v, hv, h2⟩ | ⟨h1, h2, h3⟩
    · rw [if_pos (by omega)]
      exact .inl ⟨h1, v, by omega, h2⟩
    · rw [if_neg (by omega)]
      rcases pkL_cases (d m) L with ⟨e1, e2⟩ | ⟨e1, e2, e3⟩
      · have : wy d m L < 0 := by unfold wy; omega
        rw [if_pos this]
        exact .inl ⟨rfl, m, by omega, e2⟩
      · have e1' : 0 ≤ wy d m L := e1
        rw [if_neg (by omega)]
        refine .inr ⟨by omega, fun v hv => ?_, ?_⟩
        · by_cases e : v = m
          · subst e; omega
          · have := h2 v (by omega); omega
        · by_cases hm : wy d m L ≤ radL d L m
          · rw [Int.max_eq_left hm]
            rcases h3 with h3 | ⟨v, hv, h3⟩
            · exact .inl h3
            · exact .inr ⟨v, by omega, h3⟩
          · rw [Int.max_eq_right (by omega)]
            exact .inr ⟨m, by omega, rfl⟩
theorem wy_cov {d : Nat → Nat → Int} {v : Nat} {L : List Nat} (h : 0 ≤ wy d v L) : ∃ j ∈ L, d v j = wy d v L := by
  rcases pkL_cases (d v) L with ⟨e1, _⟩ | ⟨_, e2, _⟩
  · unfold wy at h; omega
  · exact e2
/-- A list is near enough just if it covers. -/
theorem rad_cov {d : Nat → Nat → Int} {n : Nat} {L : List Nat} {r : Int} (hr : 0 ≤ r) (hL : ∀ i ∈ L, i < n) : (0 ≤ radL d L n ∧ radL d L n ≤ r) ↔ Cov d r n L := by
  constructor
  · rintro ⟨h1, h2⟩
    refine ⟨hL, fun v hv => ?_⟩
    rcases rad_cases d L n with ⟨h3, _⟩ | ⟨_, h3, _⟩
    · omega
    · obtain ⟨h4, h5⟩ := h3 v hv
      obtain ⟨j, hj, e⟩ := wy_cov h4
      exact ⟨j, hj, by omega, by omega⟩
  · rintro ⟨_, h⟩
    rcases rad_cases d L n with ⟨h3, v, hv, h4⟩ | ⟨h3, h4, h5⟩
    · obtain ⟨j, hj, hn⟩ := h v hv
      have := h4 j hj
      unfold Nr at hn; omega
    · refine ⟨h3, ?_⟩
      rcases h5 with h5 | ⟨v, hv, h5⟩
      · omega
      · obtain ⟨j, hj, hn⟩ := h v hv
        rcases pkL_cases (d v) L with ⟨_, e2⟩ | ⟨_, _, e3⟩
        · have := e2 j hj
          unfold Nr at hn; omega
        · have h6 := e3 j hj hn.1
          have h7 : pkL (d v) L (-1) = wy d v L := rfl
          unfold Nr at hn; omega

/-- Lists of k nodes below n, ascending. -/
def Asc (n k : Nat) (J : List Nat) : Prop := J.Pairwise (· < ·) ∧ (∀ i ∈ J, i < n) ∧ J.length = k
theorem memL_asc (s m : Nat) : (memL s m).Pairwise (· < ·) := List.Pairwise.filter _ (List.pairwise_lt_range)
theorem more_node {n : Nat} {P : List Nat} (h : P.length < n) : ∃ x, x < n ∧ x ∉ P := by
  by_cases hc : ∃ x, x < n ∧ x ∉ P
  · exact hc
  · exfalso
    have := List.Nodup.length_le_of_subset (List.nodup_range (n := n)) (l₂ := P) (fun x hx => by
      by_cases hx' : x ∈ P
      · exact hx'
      · exact absurd ⟨x, List.mem_range.1 hx, hx'⟩ hc)
    rw [List.length_range] at this
    omega
theorem more_nodes {n : Nat} : ∀ (t : Nat) {P : List Nat}, (∀ i ∈ P, i < n) → P.Nodup → P.length + t ≤ n → ∃ J : List Nat, (∀ i ∈ P, i ∈ J) ∧ (∀ i ∈ J, i < n) ∧ J.Nodup ∧ J.length = P.length + t
  | 0, P, h1, h2, _ => ⟨P, fun i hi => hi, h1, h2, rfl⟩
  | t + 1, P, h1, h2, h3 => by
    obtain ⟨x, hx, hxP⟩ := more_node (n := n) (P := P) (by omega)
    obtain ⟨J, a1, a2, a3, a4⟩ := more_nodes t (P := x :: P) (fun i hi => by rcases List.mem_cons.1 hi with rfl | hi; exact hx; exact h1 i hi) (List.nodup_cons.2 ⟨hxP, h2⟩) (by rw [List.length_cons]; omega)
    exact ⟨J, fun i hi => a1 i (by simp [hi]), a2, a3, by rw [a4, List.length_cons]; omega⟩
/-- A cover of few nodes is within one of just m nodes, ascending. -/
theorem cov_asc {d : Nat → Nat → Int} {r : Int} {n m : Nat} (h7 : n ≤ 7) {P : List Nat} (h : Cov d r n P) (hd : P.Nodup) (hm : P.length ≤ m) (hmn : m ≤ n) : ∃ J, Asc n m J ∧ Cov d r n J := by
  obtain ⟨J, a1, a2, a3, a4⟩ := more_nodes (m - P.length) h.1 hd (by omega)
  have hlt := stO_lt a2
  refine ⟨memL (stO J) n, ⟨memL_asc _ _, fun i hi => (memL_iff.1 hi).1, by rw [memL_len h7 hlt, stO_nodup h7 a2 a3]; omega⟩, fun i hi => (memL_iff.1 hi).1, fun v hv => ?_⟩
  obtain ⟨i, hi, hn⟩ := h.2 v hv
  exact ⟨i, memL_iff.2 ⟨h.1 i hi, stO_iff.2 (a1 i hi)⟩, hn⟩
/-- x is what NetFar answers, over all lists of m nodes. -/
def NfIs (d : Nat → Nat → Int) (n m : Nat) (x : Int) : Prop := (x = -1 ∧ ∀ J, Asc n m J → radL d J n < 0) ∨ (0 ≤ x ∧ (∃ J, Asc n m J ∧ radL d J n = x) ∧ ∀ J, Asc n m J → 0 ≤ radL d J n → x ≤ radL d J n)
/-- With that far, a cover needs at most so many nodes, and with less it needs more. -/
theorem nf_cv {d : Nat → Nat → Int} {n k : Nat} {x r : Int} (h7 : n ≤ 7) (h0 : ∀ a, a < n → d a a = 0) (hx : NfIs d n (min k n) x) (hr : 0 ≤ r) : cvN d r n (2 ^ n) ≤ k ↔ 0 ≤ x ∧ x ≤ r := by
  constructor
  · intro h
    obtain ⟨P, hP, hPd, hPl⟩ := cov_least (d := d) h7 h0 hr
    have hle : P.length ≤ n := by
      have := List.Nodup.length_le_of_subset hPd (l₂ := List.range n) (fun i hi => List.mem_range.2 (hP.1 i hi))
      rwa [List.length_range] at this
    obtain ⟨J, hJ, hJc⟩ := cov_asc h7 hP hPd (m := min k n) (by omega) (by omega)
    have hrad := (rad_cov hr hJ.2.1).2 hJc
    rcases hx with ⟨_, h2⟩ | ⟨h1, _, h2⟩
    · have := h2 J hJ; omega
    · have := h2 J hJ hrad.1; omega
  · rintro ⟨h1, h2⟩
    rcases hx with ⟨h3, _⟩ | ⟨_, ⟨J, hJ, h3⟩, _⟩
    · omega
    · have hc := (rad_cov (d := d) (n := n) (L := J) (r := r) hr hJ.2.1).1 ⟨by omega, by omega⟩
      have := cvN_le_cov h7 hc
      rw [hJ.2.2] at this
      omega
theorem nf_unique {d : Nat → Nat → Int} {n m : Nat} {x y : Int} (hx : NfIs d n m x) (hy : NfIs d n m y) : x = y := by
  rcases hx with ⟨h1, h2⟩ | ⟨h1, ⟨J, hJ, h2⟩, h3⟩ <;> rcases hy with ⟨h4, h5⟩ | ⟨h4, ⟨K, hK, h5⟩, h6⟩
  · omega
  · have := h2 K hK; omega
  · have := h5 J hJ; omega
  · have := h3 K hK (by omega)
    have := h6 J hJ (by omega)
    omega

/-- What is asked of a table of ways. -/
structure Met (d : Nat → Nat → Int) (n : Nat) : Prop where
  zero : ∀ a, a < n → d a a = 0
  symm : ∀ a b, a < n → b < n → d a b = d b a
  pos : ∀ a b, a < n → b < n → a ≠ b → d a b < 0 ∨ 0 < d a b
  tri : ∀ a b c, a < n → b < n → c < n → 0 ≤ d a c → 0 ≤ d c b → 0 ≤ d a b ∧ d a b ≤ d a c + d c b
  bd : ∀ a b, a < n → b < n → -1 ≤ d a b ∧ d a b ≤ 54

/-- How far, no way as 63. -/
def nrP (d : Nat → Nat → Int) (v : Nat) (out : List Nat) : Int := if wy d v out < 0 then 63 else wy d v out
/-- The first one of the farthest below m, and how far. -/
def ffB (d : Nat → Nat → Int) (out : List Nat) : Nat → Int × Int
  | 0 => (0, -1)
  | v + 1 => if (ffB d out v).1 < nrP d v out then (nrP d v out, (v : Int)) else ffB d out v
theorem ffB_cases (d : Nat → Nat → Int) (out : List Nat) : ∀ m, (ffB d out m = (0, -1) ∧ ∀ v, v < m → nrP d v out ≤ 0) ∨ ∃ b : Nat, b < m ∧ ffB d out m = (nrP d b out, (b : Int)) ∧ 0 < nrP d b out ∧ ∀ v, v < m → nrP d v out ≤ nrP d b out
  | 0 => .inl ⟨rfl, fun v hv => by omega⟩
  | m + 1 => by
    simp only [ffB]
    rcases ffB_cases d out m with ⟨h1, h2⟩ | ⟨b, h1, h2, h3, h4⟩
    · rw [h1]
      by_cases hc : 0 < nrP d m out
      · rw [if_pos hc]
        refine .inr ⟨m, by omega, rfl, hc, fun v hv => ?_⟩
        by_cases e : v = m
        · subst e; exact Int.le_refl _
        · have := h2 v (by omega); omega
      · rw [if_neg hc]
        refine .inl ⟨rfl, fun v hv => ?_⟩
        by_cases e : v = m
        · subst e; omega
        · exact h2 v (by omega)
    · rw [h2]
      by_cases hc : nrP d b out < nrP d m out
      · rw [if_pos hc]
        refine .inr ⟨m, by omega, rfl, by omega, fun v hv => ?_⟩
        by_cases e : v = m
        · subst e; exact Int.le_refl _
        · have := h4 v (by omega); omega
      · rw [if_neg hc]
        refine .inr ⟨b, by omega, rfl, h3, fun v hv => ?_⟩
        by_cases e : v = m
        · subst e; omega
        · exact h4 v (by omega)
/-- The nodes, farthest first, after j more than the node 0. -/
def ffL (d : Nat → Nat → Int) (n : Nat) : Nat → List Nat
  | 0 => [0]
  | j + 1 => ffL d n j ++ [(ffB d (ffL d n j) n).2.toNat]
theorem ffL_len (d : Nat → Nat → Int) (n : Nat) : ∀ j, (ffL d n j).length = j + 1
  | 0 => rfl
  | j + 1 => by simp only [ffL, List.length_append, ffL_len d n j, List.length_singleton]
theorem nrP_zero {d : Nat → Nat → Int} {n v : Nat} {out : List Nat} (hM : Met d n) (hv : v < n) (h : v ∈ out) : nrP d v out ≤ 0 := by
  unfold nrP
  rcases pkL_cases (d v) out with ⟨_, e2⟩ | ⟨e1, _, e3⟩
  · have := e2 v h
    rw [hM.zero v hv] at this; omega
  · have := e3 v h (by rw [hM.zero v hv]; omega)
    rw [hM.zero v hv] at this
    have h7 : pkL (d v) out (-1) = wy d v out := rfl
    rw [if_neg (by omega)]; omega
theorem nrP_pos {d : Nat → Nat → Int} {n v : Nat} {out : List Nat} (hM : Met d n) (ho : ∀ i ∈ out, i < n) (hv : v < n) (h : v ∉ out) : 0 < nrP d v out := by
  unfold nrP
  split
  · omega
  · rename_i hw
    obtain ⟨j, hj, e⟩ := wy_cov (d := d) (v := v) (L := out) (by omega)
    have hne : v ≠ j := fun e' => h (by rw [e']; exact hj)
    have := hM.pos v j hv (ho j hj) hne
    omega
/-- Each one more is a new one. -/
theorem ffL_new {d : Nat → Nat → Int} {n : Nat} (hM : Met d n) (h1 : 1 ≤ n) : ∀ j, j + 1 ≤ n → (∀ i ∈ ffL d n j, i < n) ∧ (ffL d n j).Nodup
  | 0, _ => ⟨fun i hi => by simp [ffL] at hi; omega, by simp [ffL]⟩
  | j + 1, hj => by
    obtain ⟨a1, a2⟩ := ffL_new hM h1 j (by omega)
    obtain ⟨x, hx, hxo⟩ := more_node (n := n) (P := ffL d n j) (by rw [ffL_len]; omega)
    have hpos := nrP_pos hM a1 hx hxo
    rcases ffB_cases d (ffL d n j) n with ⟨_, h2⟩ | ⟨b, hb, h2, h3, h4⟩
    · have := h2 x hx; omega
    · have hbo : b ∉ ffL d n j := fun h => by have := nrP_zero hM hb h; omega
      simp only [ffL, h2]
      refine ⟨fun i hi => ?_, ?_⟩
      · rcases List.mem_append.1 hi with hi | hi
        · exact a1 i hi
        · simp at hi; omega
      · rw [List.nodup_append]
        refine ⟨a2, by simp, fun a ha c hc => ?_⟩
        simp at hc
        intro e
        exact hbo (by rw [← hc, ← e]; exact ha)
/-- If a node is not within R of any that is there, no two that are there are within R of each other. -/
theorem ff_apart {d : Nat → Nat → Int} {n v : Nat} {R : Int} (hM : Met d n) (h1 : 1 ≤ n) (hv : v < n) (hR : 0 ≤ R) : ∀ j, j + 1 ≤ n → (∀ i ∈ ffL d n j, ¬ Nr d R v i) → (ffL d n j).Pairwise fun a b => ¬ Nr d R b a
  | 0, _, _ => by simp [ffL]
  | j + 1, hj, h => by
    have hin : ∀ i ∈ ffL d n j, ¬ Nr d R v i := fun i hi => h i (by simp only [ffL]; exact List.mem_append_left _ hi)
    have ih := ff_apart hM h1 hv hR j (by omega) hin
    obtain ⟨a1, a2⟩ := ffL_new hM h1 j (by omega)
    -- v is as far from those there as what is taken, at most
    rcases ffB_cases d (ffL d n j) n with ⟨_, h2⟩ | ⟨b, hb, h2, h3, h4⟩
    · exfalso
      obtain ⟨x, hx, hxo⟩ := more_node (n := n) (P := ffL d n j) (by rw [ffL_len]; omega)
      have := nrP_pos hM a1 hx hxo
      have := h2 x hx; omega
    · simp only [ffL, h2]
      rw [List.pairwise_append]
      refine ⟨ih, by simp, fun a ha c hc hnr => ?_⟩
      simp at hc
      rw [hc] at hnr
      have hav := h4 v hv
      have hvP : R < nrP d v (ffL d n j) := by
        unfold nrP
        split
        · -- no way: more than any way
          rename_i hw
          have hbda := hM.bd b a hb (a1 a ha)
          unfold Nr at hnr
          rcases Int.lt_or_le R 63 with h5 | h5
          · exact h5
          · -- then b is near a, but v has no way; b was taken as farthest, so b has no way either
            exfalso
            have hbn : nrP d b (ffL d n j) = 63 → False := fun e => by
              unfold nrP at e
              rcases pkL_cases (d b) (ffL d n j) with ⟨_, e2⟩ | ⟨e1, ⟨y, hy, e2⟩, _⟩
              · have := e2 a ha; omega
              · have h7 : pkL (d b) (ffL d n j) (-1) = wy d b (ffL d n j) := rfl
                have := hM.bd b y hb (a1 y hy)
                rw [if_neg (by omega)] at e
                omega
            have hle : nrP d b (ffL d n j) ≤ 63 := by
              unfold nrP
              split
              · omega
              · rename_i hw2
                obtain ⟨y, hy, e2⟩ := wy_cov (d := d) (v := b) (L := ffL d n j) (by omega)
                have := hM.bd b y hb (a1 y hy)
                omega
            have hv63 : nrP d v (ffL d n j) = 63 := by unfold nrP; rw [if_pos hw]
            exact hbn (by omega)
        · rename_i hw
          obtain ⟨y, hy, e2⟩ := wy_cov (d := d) (v := v) (L := ffL d n j) (by omega)
          have := hin y hy
          unfold Nr at this
          omega
      -- so b is farther than R from a
      have hbR : R < nrP d b (ffL d n j) := by omega
      unfold nrP at hbR
      unfold Nr at hnr
      rcases pkL_cases (d b) (ffL d n j) with ⟨_, e2⟩ | ⟨e1, _, e3⟩
      · have := e2 a ha; omega
      · have h7 : pkL (d b) (ffL d n j) (-1) = wy d b (ffL d n j) := rfl
        have := e3 a ha hnr.1
        rw [if_neg (by omega)] at hbR
        omega
/-- Farthest first is at most twice as far. -/
theorem ff_twice {d : Nat → Nat → Int} {n k v : Nat} {x : Int} (hM : Met d n) (h7 : n ≤ 7) (h1 : 1 ≤ n) (hk : 1 ≤ k) (hx : NfIs d n (min k n) x) (hx0 : 0 ≤ x) (hv : v < n) : ∃ i ∈ ffL d n (min k n - 1), Nr d (2 * x) v i := by
  by_cases hc : ∃ i ∈ ffL d n (min k n - 1), Nr d (2 * x) v i
  · exact hc
  exfalso
  have hall : ∀ i ∈ ffL d n (min k n - 1), ¬ Nr d (2 * x) v i := fun i hi h => hc ⟨i, hi, h⟩
  have hap := ff_apart hM h1 hv (show 0 ≤ 2 * x by omega) _ (by omega) hall
  obtain ⟨a1, a2⟩ := ffL_new hM h1 (min k n - 1) (by omega)
  rcases hx with ⟨h3, _⟩ | ⟨_, ⟨J, hJ, h3⟩, _⟩
  · omega
  have hcov := (rad_cov (d := d) (n := n) (L := J) (r := x) hx0 hJ.2.1).1 ⟨by omega, by omega⟩
  have hfar : ∀ a b c, a < n → b < n → c < n → Nr d x c a → Nr d x c b → Nr d (2 * x) a b := fun a b c ha hb hc' h4 h5 => by
    unfold Nr at h4 h5 ⊢
    have e1 := hM.symm a c ha hc'
    have := hM.tri a b c ha hb hc' (by omega) (by omega)
    omega
  have hsym : ∀ a b, a < n → b < n → Nr d (2 * x) a b → Nr d (2 * x) b a := fun a b ha hb h4 => by
    unfold Nr at h4 ⊢
    rw [hM.symm b a hb ha]; exact h4
  have hvo : v ∉ ffL d n (min k n - 1) := fun h => hall v h (by unfold Nr; rw [hM.zero v hv]; omega)
  have hpair : ∀ {L : List Nat}, L.Pairwise (fun a b => ¬ Nr d (2 * x) b a) → (∀ i ∈ L, i < n) → ∀ a ∈ L, ∀ b ∈ L, a ≠ b → ¬ Nr d (2 * x) a b := by
    intro L hL
    induction hL with
    | nil => intro _ a ha; cases ha
    | @cons y L h5 h6 ih =>
      intro hlt a ha b hb hne
      rcases List.mem_cons.1 ha with e1 | ha2 <;> rcases List.mem_cons.1 hb with e2 | hb2
      · exact absurd (e1.trans e2.symm) hne
      · rw [e1]; exact fun h => h5 b hb2 (hsym _ _ (hlt _ (by simp)) (hlt _ (by simp [hb2])) h)
      · rw [e2]; exact h5 a ha2
      · exact ih (fun i hi => hlt i (by simp [hi])) a ha2 b hb2 hne
  have hA : Apt d x n (v :: ffL d n (min k n - 1)) := by
    refine ⟨fun i hi => ?_, List.nodup_cons.2 ⟨hvo, a2⟩, fun i hi m hm hne c hc' ⟨h4, h5⟩ => ?_⟩
    · rcases List.mem_cons.1 hi with rfl | hi
      · exact hv
      · exact a1 i hi
    · rcases List.mem_cons.1 hi with e1 | hi2 <;> rcases List.mem_cons.1 hm with e2 | hm2
      · exact absurd (e1.trans e2.symm) hne
      · exact hall m hm2 (hfar _ _ c hv (a1 m hm2) hc' (by rw [← e1]; exact h4) h5)
      · exact hall i hi2 (hfar _ _ c hv (a1 i hi2) hc' (by rw [← e2]; exact h5) h4)
      · exact hpair hap a1 i hi2 m hm2 hne (hfar _ _ c (a1 i hi2) (a1 m hm2) hc' h4 h5)
  have := apt_le_cov (d := d) (far := x) hM.symm hJ.2.1 hA (fun i hi => hcov.2 i (hA.1 i hi))
  rw [List.length_cons, ffL_len, hJ.2.2] at this
  omega
theorem ffL_take (d : Nat → Nat → Int) (n : Nat) : ∀ j i, i ≤ j → (ffL d n j).take (i + 1) = ffL d n i
  | 0, i, h => by
    obtain rfl : i = 0 := by omega
    rfl
  | j + 1, i, h => by
    by_cases e : i = j + 1
    · subst e
      exact List.take_of_length_le (by rw [ffL_len]; exact Nat.le_refl _)
    · simp only [ffL]
      rw [List.take_append_of_le_length (by rw [ffL_len]; omega)]
      exact ffL_take d n j i (by omega)
end Go.Proofs.Ytiblcmeoneolcaa
