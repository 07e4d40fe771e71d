/-
  A walk over a tree from node to node: which nodes it visits, with which way.
  Conditions: each node's road goes to a node ahead of it.
-/
import Derived.Test.YtoappopbjnlbdabT1
namespace Go.Proofs.Ytoappopbjnlbdab
open Go.ChangeShapes Go.WideShapes Go.ChangeAt Go.RowKit
set_option linter.unusedVariables false

/-- The nodes beside node i, among the first n nodes: the one to which its road goes, then those whose road goes to it. -/
def nb (t : List (Int × Int)) : Nat → Nat → List (Nat × Int)
  | 0, _ => []
  | n + 1, i => if i = n then (if n = 0 then [] else [(tto t n, tlg t n)]) else nb t n i ++ (if tto t n = i then [(n, tlg t n)] else [])
/-- What a walk visits behind a node a that it came to from f, by the branches bs that are left. -/
inductive VisL (N : Nat → List (Nat × Int)) : Nat → Option Nat → Int → List (Nat × Int) → List (Nat × Int) → Prop
  | nil (a f w) : VisL N a f w [] []
  | skip {a f w b l bs M} : f = some b → VisL N a f w bs M → VisL N a f w ((b, l) :: bs) M
  | go {a f w b l bs M M'} : f ≠ some b → VisL N b (some a) (w + l) (N b) M → VisL N a f w bs M' → VisL N a f w ((b, l) :: bs) ((b, w + l) :: (M ++ M'))
theorem VisL.append {N : Nat → List (Nat × Int)} {a : Nat} {f : Option Nat} {w : Int} {bs M : List (Nat × Int)} (h : VisL N a f w bs M) : ∀ {bs' M'}, VisL N a f w bs' M' → VisL N a f w (bs ++ bs') (M ++ M') := by
  induction h with
  | nil a f w => intro bs' M' h'; exact h'
  | skip h1 h2 ih => intro bs' M' h'; exact .skip h1 (ih h')
  | go h1 h2 h3 ih2 ih3 =>
    intro bs' M' h'
    have := VisL.go h1 h2 (ih3 h')
    simpa using this
def sumL (h : Nat → Int → Int) : List (Nat × Int) → Int
  | [] => 0
  | x :: r => h x.1 x.2 + sumL h r
theorem sumL_append (h : Nat → Int → Int) : ∀ a b, sumL h (a ++ b) = sumL h a + sumL h b
  | [], b => by simp [sumL]
  | x :: r, b => by simp only [List.cons_append, sumL, sumL_append h r b]; omega
theorem sumL_add (h g : Nat → Int → Int) : ∀ a, sumL (fun i x => h i x + g i x) a = sumL h a + sumL g a
  | [] => by simp [sumL]
  | x :: r => by simp only [sumL, sumL_add h g r]; omega
def sumN (F : Nat → Int) : Nat → Int
  | 0 => 0
  | n + 1 => sumN F n + F n
theorem sumN_congr {F G : Nat → Int} : ∀ {n}, (∀ i, i < n → F i = G i) → sumN F n = sumN G n
  | 0, _ => rfl
  | n + 1, h => by simp only [sumN, sumN_congr (n := n) fun i hi => h i (by omega), h n (by omega)]
theorem sumN_add (F G : Nat → Int) : ∀ n, sumN (fun i => F i + G i) n = sumN F n + sumN G n
  | 0 => rfl
  | n + 1 => by simp only [sumN, sumN_add F G n]; omega
theorem sumN_zero {F : Nat → Int} : ∀ {n}, (∀ i, i < n → F i = 0) → sumN F n = 0
  | 0, _ => rfl
  | n + 1, h => by simp only [sumN, sumN_zero (n := n) fun i hi => h i (by omega), h n (by omega)]; rfl
theorem sumN_one {p : Nat} {x : Int} : ∀ {n}, p < n → sumN (fun j => if j = p then x else 0) n = x
  | 0, h => by omega
  | n + 1, h => by
    simp only [sumN]
    by_cases e : p = n
    · subst e
      rw [sumN_zero (n := p) fun i hi => if_neg (by omega)]; simp
    · rw [sumN_one (n := n) (by omega), if_neg (by omega)]; omega

theorem nb_lt {t : List (Int × Int)} (ht : Ahead t) : ∀ n, n ≤ t.length → ∀ i, i < n → ∀ b l, (b, l) ∈ nb t n i → b < n
  | 0, _, i, hi, _, _, _ => by omega
  | n + 1, hn, i, hi, b, l, hm => by
    simp only [nb] at hm
    by_cases e : i = n
    · rw [if_pos e] at hm
      by_cases h0 : n = 0
      · rw [if_pos h0] at hm; cases hm
      · rw [if_neg h0] at hm
        simp at hm
        have := (ht n (by omega) (by omega)).1
        omega
    · rw [if_neg e] at hm
      rcases List.mem_append.1 hm with h | h
      · have := nb_lt ht n (by omega) i (by omega) b l h; omega
      · split at h
        · simp at h; omega
        · cases h
theorem nb_old {t : List (Int × Int)} {n i : Nat} (hi : i < n) : nb t (n + 1) i = nb t n i ++ (if tto t n = i then [(n, tlg t n)] else []) := by
  simp only [nb]; rw [if_neg (by omega)]
theorem nb_new {t : List (Int × Int)} {n : Nat} (hn : 1 ≤ n) : nb t (n + 1) n = [(tto t n, tlg t n)] := by
  simp only [nb, if_true]; rw [if_neg (by omega)]

/-- What the new node adds where its neighbour is visited. -/
def more (p n : Nat) (lg : Int) (h : Nat → Int → Int) : Nat → Int → Int := fun i x => if i = p then h n (x + lg) else 0
/-- A walk in a tree with one node more. -/
theorem vis_leaf {t : List (Int × Int)} (ht : Ahead t) {n : Nat} (h1 : 1 ≤ n) (hn : n + 1 ≤ t.length) {a : Nat} {f : Option Nat} {w : Int} {bs M : List (Nat × Int)} (h : VisL (nb t n) a f w bs M) :
    a < n → (∀ b l, (b, l) ∈ bs → b < n) → ∃ M', VisL (nb t (n + 1)) a f w bs M' ∧ ∀ h, sumL h M' = sumL h M + sumL (more (tto t n) n (tlg t n) h) M := by
  induction h with
  | nil a f w => intro _ _; exact ⟨[], .nil _ _ _, fun h => rfl⟩
  | @skip a f w b l bs M e _ ih =>
    intro ha hb
    obtain ⟨M', h1, h2⟩ := ih ha fun b' l' hm => hb b' l' (List.mem_cons_of_mem _ hm)
    exact ⟨M', .skip e h1, h2⟩
  | @go a f w b l bs M1 M2 e _ _ ih1 ih2 =>
    intro ha hb
    have hbn : b < n := hb b l (List.mem_cons_self ..)
    obtain ⟨M1', v1, s1⟩ := ih1 hbn fun b' l' hm => nb_lt ht n (by omega) b hbn b' l' hm
    obtain ⟨M2', v2, s2⟩ := ih2 ha fun b' l' hm => hb b' l' (List.mem_cons_of_mem _ hm)
    by_cases hp : tto t n = b
    · have hv : VisL (nb t (n + 1)) b (some a) (w + l) (nb t (n + 1) b) (M1' ++ [(n, w + l + tlg t n)]) := by
        rw [nb_old hbn, if_pos hp]
        refine v1.append (.go (M := []) (M' := []) (by simp; omega) ?_ (.nil _ _ _))
        rw [nb_new h1]
        exact .skip (by rw [hp]) (.nil _ _ _)
      refine ⟨_, .go e hv v2, fun h => ?_⟩
      simp only [sumL, sumL_append, s1 h, s2 h, more, if_pos hp.symm]
      omega
    · have hv : VisL (nb t (n + 1)) b (some a) (w + l) (nb t (n + 1) b) M1' := by
        rw [nb_old hbn, if_neg hp, List.append_nil]; exact v1
      refine ⟨_, .go e hv v2, fun h => ?_⟩
      simp only [sumL, sumL_append, s1 h, s2 h, more]
      rw [if_neg (fun e => hp e.symm)]
      omega
/-- To come from a node that is not there is to come from none. -/
theorem vis_from {N : Nat → List (Nat × Int)} {n a x : Nat} {f : Option Nat} {w : Int} {bs M : List (Nat × Int)} (h : VisL N a f w bs M) (hf : f = none) (hx : n ≤ x) : (∀ b l, (b, l) ∈ bs → b < n) → VisL N a (some x) w bs M := by
  induction h with
  | nil a f w => intro _; exact .nil _ _ _
  | skip e _ ih => subst hf; cases e
  | @go a f w b l bs M1 M2 e h1 _ _ ih2 =>
    intro hb
    exact .go (by have := hb b l (List.mem_cons_self ..); simp; omega) h1 (ih2 hf fun b' l' hm => hb b' l' (List.mem_cons_of_mem _ hm))

/-- A walk from a, come to from f: it visits those of the n nodes for which q holds, each once, with how far it is from a. -/
def Walks (t : List (Int × Int)) (n a : Nat) (f : Option Nat) (w : Int) (q : Nat → Prop) [DecidablePred q] : Prop :=
  ∃ M, VisL (nb t n) a f w (nb t n a) M ∧ ∀ h, h a w + sumL h M = sumN (fun j => if q j then h j (w + dn t n a j) else 0) n
/-- One node more. -/
theorem Walks.leaf {t : List (Int × Int)} (ht : Ahead t) {n a : Nat} {f : Option Nat} {w : Int} {q : Nat → Prop} [DecidablePred q] (h : Walks t n a f w q) (h1 : 1 ≤ n) (hn : n + 1 ≤ t.length) (ha : a < n) (hf : f ≠ some n)
    (hq : q n ↔ q (tto t n)) : Walks t (n + 1) a f w q := by
  obtain ⟨M, v, s⟩ := h
  obtain ⟨M', v', s'⟩ := vis_leaf ht h1 hn v ha fun b l hm => nb_lt ht n (by omega) a ha b l hm
  have hp := (ht n h1 (by omega)).1
  have hsum : ∀ h : Nat → Int → Int, (h a w + sumL h M) + (more (tto t n) n (tlg t n) h a w + sumL (more (tto t n) n (tlg t n) h) M) = sumN (fun j => if q j then h j (w + dn t (n + 1) a j) else 0) (n + 1) := fun h => by
    rw [s h, s (more (tto t n) n (tlg t n) h)]
    simp only [sumN]
    have e1 : sumN (fun j => if q j then h j (w + dn t n a j) else 0) n = sumN (fun j => if q j then h j (w + dn t (n + 1) a j) else 0) n :=
      sumN_congr fun i hi => by rw [dn_old ha hi]
    have e2 : sumN (fun j => if q j then more (tto t n) n (tlg t n) h j (w + dn t n a j) else 0) n = if q n then h n (w + dn t (n + 1) a n) else 0 := by
      by_cases hqn : q n
      · rw [if_pos hqn, dn_symm t (n + 1) a n, dn_new ha, dn_symm t n (tto t n) a]
        rw [← sumN_one (x := h n (w + (dn t n a (tto t n) + tlg t n))) hp]
        refine sumN_congr fun i hi => ?_
        unfold more
        by_cases e : i = tto t n
        · subst e; rw [if_pos (hq.1 hqn), if_pos rfl, if_pos rfl, Int.add_assoc]
        · rw [if_neg e, if_neg e]; split <;> rfl
      · rw [if_neg hqn]
        refine sumN_zero fun i hi => ?_
        unfold more
        by_cases e : i = tto t n
        · subst e; rw [if_neg (fun h => hqn (hq.2 h))]
        · rw [if_neg e]; split <;> rfl
    rw [e1, e2]
  by_cases hpa : tto t n = a
  · refine ⟨M' ++ [(n, w + tlg t n)], ?_, fun h => ?_⟩
    · rw [nb_old ha, if_pos hpa]
      refine v'.append (.go (M := []) (M' := []) hf ?_ (.nil _ _ _))
      rw [nb_new h1]
      exact .skip (by rw [hpa]) (.nil _ _ _)
    · rw [sumL_append, s' h, ← hsum h]
      simp only [sumL, more, if_pos hpa.symm]
      omega
  · refine ⟨M', ?_, fun h => ?_⟩
    · rw [nb_old ha, if_neg hpa, List.append_nil]; exact v'
    · rw [s' h, ← hsum h]
      simp only [more]
      rw [if_neg (fun e => hpa e.symm)]
      omega
/-- From the new node's neighbour, come to from the new node. -/
theorem vis_up_new {t : List (Int × Int)} (ht : Ahead t) {n : Nat} {w : Int} (h : Walks t n (tto t n) none w fun _ => True) (h1 : 1 ≤ n) (hn : n + 1 ≤ t.length) :
    ∃ M, VisL (nb t (n + 1)) (tto t n) (some n) w (nb t (n + 1) (tto t n)) M ∧ ∀ h, h (tto t n) w + sumL h M = sumN (fun j => h j (w + dn t n (tto t n) j)) n := by
  obtain ⟨M, v, s⟩ := h
  have hp := (ht n h1 (by omega)).1
  have hbs : ∀ b l, (b, l) ∈ nb t n (tto t n) → b < n := fun b l hm => nb_lt ht n (by omega) _ hp b l hm
  obtain ⟨M', v', s'⟩ := vis_leaf ht h1 hn (vis_from v rfl (Nat.le_refl n) hbs) hp hbs
  refine ⟨M', ?_, fun h => ?_⟩
  · rw [nb_old hp, if_pos rfl]
    have := v'.append (.skip (l := tlg t n) rfl (.nil (tto t n) (some n) w))
    simpa using this
  · have e := s (more (tto t n) n (tlg t n) h)
    have e0 : sumN (fun j => if True then more (tto t n) n (tlg t n) h j (w + dn t n (tto t n) j) else 0) n = h n (w + tlg t n) := by
      rw [← sumN_one (x := h n (w + tlg t n)) hp]
      refine sumN_congr fun i hi => ?_
      simp only [if_true, more]
      by_cases e : i = tto t n
      · subst e; rw [if_pos rfl, if_pos rfl, dn_diag t n _ hp, Int.add_zero]
      · rw [if_neg e, if_neg e]
    rw [e0] at e
    have e1 := s h
    simp only [if_true] at e1
    rw [← e1, s' h]
    simp only [more, if_true] at e
    omega
theorem walks_all {t : List (Int × Int)} (ht : Ahead t) : ∀ n, n ≤ t.length → ∀ a, a < n → ∀ w, Walks t n a none w fun _ => True
  | 0, _, a, ha, w => by omega
  | n + 1, hn, a, ha, w => by
    by_cases h0 : n = 0
    · subst h0
      obtain rfl : a = 0 := by omega
      exact ⟨[], .nil _ _ _, fun h => by simp [sumL, sumN, dn]⟩
    by_cases e : a = n
    · subst e
      have hp := (ht a (by omega) (by omega)).1
      obtain ⟨M, v, s⟩ := vis_up_new ht (walks_all ht a (by omega) _ hp (w + tlg t a)) (by omega) hn
      refine ⟨(tto t a, w + tlg t a) :: (M ++ []), ?_, fun h => ?_⟩
      · rw [nb_new (by omega)]
        exact .go (by simp) v (.nil _ _ _)
      · simp only [List.append_nil, sumL, sumN, if_true]
        have e1 := s h
        have e2 : sumN (fun j => h j (w + dn t (a + 1) a j)) a = sumN (fun j => h j (w + tlg t a + dn t a (tto t a) j)) a :=
          sumN_congr fun i hi => by rw [dn_new hi]; congr 1; omega
        rw [e2, dn_diag t (a + 1) a (by omega), Int.add_zero]
        omega
    · exact (walks_all ht n (by omega) a (by omega) w).leaf ht (by omega) hn (by omega) (by simp) (by simp)
instance (t : List (Int × Int)) (v : Nat) : DecidablePred (Bh t v) := fun i => inferInstanceAs (Decidable (tp t v i = v))
theorem walks_down {t : List (Int × Int)} (ht : Ahead t) : ∀ n, n ≤ t.length → ∀ c, 1 ≤ c → c < n → ∀ w, Walks t n c (some (tto t c)) w (Bh t c)
  | 0, _, c, _, hc, w => by omega
  | n + 1, hn, c, h1, hc, w => by
    have hp := (ht c h1 (by omega)).1
    by_cases e : c = n
    · subst e
      refine ⟨[], ?_, fun h => ?_⟩
      · rw [nb_new h1]; exact .skip rfl (.nil _ _ _)
      · simp only [sumL, sumN]
        rw [if_pos (bh_self t c), dn_diag t (c + 1) c (by omega), sumN_zero fun i hi => if_neg fun hb => by have := bh_le ht (by omega) hb; omega]
        simp only [Int.add_zero, Int.zero_add]
    · exact (walks_down ht n (by omega) c h1 (by omega) w).leaf ht (by omega) hn (by omega) (by simp; omega) (bh_up ht (by omega) (by omega))
theorem walks_up {t : List (Int × Int)} (ht : Ahead t) : ∀ n, n ≤ t.length → ∀ c, 1 ≤ c → c < n → ∀ w, Walks t n (tto t c) (some c) w fun j => ¬ Bh t c j
  | 0, _, c, _, hc, w => by omega
  | n + 1, hn, c, h1, hc, w => by
    have hp := (ht c h1 (by omega)).1
    by_cases e : c = n
    · subst e
      obtain ⟨M, v, s⟩ := vis_up_new ht (walks_all ht c (by omega) _ hp w) h1 hn
      refine ⟨M, v, fun h => ?_⟩
      rw [s h]
      simp only [sumN]
      rw [if_neg (fun hb => hb (bh_self t c)), Int.add_zero]
      exact sumN_congr fun i hi => by rw [if_pos (fun hb => by have := bh_le ht (by omega) hb; omega), dn_old hp hi]
    · exact (walks_up ht n (by omega) c h1 (by omega) w).leaf ht (by omega) hn (by omega) (by simp; omega) (by rw [bh_up ht (by omega) (by omega)])
/-- What a walk visits, seen one by one. -/
theorem sumL_pos {h : Nat → Int → Int} (h0 : ∀ i x, 0 ≤ h i x) : ∀ {M : List (Nat × Int)}, 0 ≤ sumL h M ∧ ∀ x ∈ M, h x.1 x.2 ≤ sumL h M
  | [] => ⟨Int.le_refl _, fun x hx => by cases hx⟩
  | y :: r => by
    obtain ⟨h1, h2⟩ := sumL_pos h0 (M := r)
    simp only [sumL]
    have := h0 y.1 y.2
    refine ⟨by omega, fun x hx => ?_⟩
    rcases List.mem_cons.1 hx with e | e
    · subst e; omega
    · have := h2 x e; omega
/-- All that is visited is told with its way, and is one for which q holds. -/
theorem visited_way {t : List (Int × Int)} {n a : Nat} {w : Int} {q : Nat → Prop} [DecidablePred q] {M : List (Nat × Int)} (s : ∀ h : Nat → Int → Int, h a w + sumL h M = sumN (fun j => if q j then h j (w + dn t n a j) else 0) n) :
    ∀ x ∈ (a, w) :: M, x.1 < n ∧ q x.1 ∧ x.2 = w + dn t n a x.1 := by
  intro x hx
  have h := s fun i y => if i < n ∧ q i ∧ y = w + dn t n a i then 0 else 1
  have hz : sumN (fun j => if q j then (fun (i : Nat) (y : Int) => if i < n ∧ q i ∧ y = w + dn t n a i then (0 : Int) else 1) j (w + dn t n a j) else 0) n = 0 :=
    sumN_zero fun i hi => by
      by_cases hq : q i
      · rw [if_pos hq]; simp [hi, hq]
      · rw [if_neg hq]
  rw [hz] at h
  have hp := (sumL_pos (h := fun i y => if i < n ∧ q i ∧ y = w + dn t n a i then 0 else 1) (fun i x => by split <;> omega) (M := (a, w) :: M)).2 x hx
  simp only [sumL] at hp
  by_cases hc : x.1 < n ∧ q x.1 ∧ x.2 = w + dn t n a x.1
  · exact hc
  · rw [if_neg hc] at hp; omega
theorem sumL_zero {h : Nat → Int → Int} : ∀ {M : List (Nat × Int)}, (∀ x ∈ M, h x.1 x.2 = 0) → sumL h M = 0
  | [], _ => rfl
  | y :: r, hz => by simp only [sumL, sumL_zero (M := r) fun x hx => hz x (List.mem_cons_of_mem _ hx), hz y (List.mem_cons_self ..)]; rfl
/-- Each node for which q holds is visited. -/
theorem visited_all {t : List (Int × Int)} {n a : Nat} {w : Int} {q : Nat → Prop} [DecidablePred q] {M : List (Nat × Int)} (s : ∀ h : Nat → Int → Int, h a w + sumL h M = sumN (fun j => if q j then h j (w + dn t n a j) else 0) n)
    {j : Nat} (hj : j < n) (hq : q j) : (j, w + dn t n a j) ∈ (a, w) :: M := by
  by_cases hm : ∃ x ∈ (a, w) :: M, x.1 = j
  · obtain ⟨x, hx, e⟩ := hm
    have := (visited_way s x hx).2.2
    rw [e] at this
    have ex : x = (j, w + dn t n a j) := Prod.ext e this
    rw [← ex]; exact hx
  · have h := s fun i _ => if i = j then 1 else 0
    have hz : sumL (fun i _ => if i = j then 1 else 0) ((a, w) :: M) = 0 := sumL_zero fun x hx => if_neg fun e => hm ⟨x, hx, e⟩
    simp only [sumL] at hz
    rw [hz] at h
    have h1 : sumN (fun i => if q i then (if i = j then (1 : Int) else 0) else 0) n = 1 := by
      refine Eq.trans (sumN_congr (G := fun i => if i = j then 1 else 0) fun i hi => ?_) (sumN_one hj)
      by_cases e : i = j
      · subst e; rw [if_pos hq]
      · rw [if_neg e]; split <;> rfl
    rw [h1] at h
    omega
theorem sumL_len : ∀ M : List (Nat × Int), sumL (fun _ _ => 1) M = M.length
  | [] => rfl
  | y :: r => by simp only [sumL, sumL_len r, List.length_cons]; omega
theorem sumN_le {F : Nat → Int} {c : Int} : ∀ {n}, (∀ i, i < n → F i ≤ c) → sumN F n ≤ c * n
  | 0, _ => by simp [sumN]
  | n + 1, h => by
    have := sumN_le (n := n) fun i hi => h i (by omega)
    have := h n (by omega)
    simp only [sumN]
    rw [show c * ((n + 1 : Nat) : Int) = c * n + c by rw [Int.natCast_succ, Int.mul_add, Int.mul_one]]
    omega
theorem visited_len {t : List (Int × Int)} {n a : Nat} {w : Int} {q : Nat → Prop} [DecidablePred q] {M : List (Nat × Int)} (s : ∀ h : Nat → Int → Int, h a w + sumL h M = sumN (fun j => if q j then h j (w + dn t n a j) else 0) n) : M.length + 1 ≤ n := by
  have h := s fun _ _ => 1
  rw [sumL_len] at h
  have := sumN_le (F := fun j => if q j then (1 : Int) else 0) (c := 1) (n := n) fun i _ => by split <;> omega
  omega
end Go.Proofs.Ytoappopbjnlbdab
