/-
  A walk over a tree from node to node: which nodes it visits, with which way.
  Conditions: each node's road goes to a node ahead of it.
  The program's tree in memory: a block for each node, with its roads.
  Conditions: none beyond what each theorem states.
  The program's tree is laid: linkedNodes, walked.
  Conditions: the roads are a tree.
-/
import Derived.Test.YtoohfipicmdohacZ1
import Derived.Test.YtoohfipicmdohacZ2
import Derived.Test.YtoohfipicmdohacZ3
import Derived.Deep.AppendLies
import Derived.Deep.RegionLaw
import Derived.BigRegion
import Derived.OneCell
import Derived.LaidEqlPtr
import Derived.Laws.Pointers
namespace Go.Proofs.Ytoohfipicmdohac
open Go.ChangeShapes Go.WideShapes Go.ChangeAt Go.RowKit
set_option linter.unusedVariables false

/-- The nodes beside node i, among the first n nodes: the one to which its road goes, then those whose road goes to it. -/
def nb (t : List (Int × Int)) : Nat → Nat → List (Nat × Int)
  | 0, _ => []
  | n + 1, i => if i = n then (if n = 0 then [] else [(tto t n, tlg t n)]) else nb t n i ++ (if tto t n = i then [(n, tlg t n)] else [])
/-- What a walk visits behind a node a that it came to from f, by the branches bs that are left. -/
inductive VisL (N : Nat → List (Nat × Int)) : Nat → Option Nat → Int → List (Nat × Int) → List (Nat × Int) → Prop
  | nil (a f w) : VisL N a f w [] []
  | skip {a f w b l bs M} : f = some b → VisL N a f w bs M → VisL N a f w ((b, l) :: bs) M
  | go {a f w b l bs M M'} : f ≠ some b → VisL N b (some a) (w + l) (N b) M → VisL N a f w bs M' → VisL N a f w ((b, l) :: bs) ((b, w + l) :: (M ++ M'))
theorem VisL.append {N : Nat → List (Nat × Int)} {a : Nat} {f : Option Nat} {w : Int} {bs M : List (Nat × Int)} (h : VisL N a f w bs M) : ∀ {bs' M'}, VisL N a f w bs' M' → VisL N a f w (bs ++ bs') (M ++ M') := by
  induction h with
  | nil a f w => intro bs' M' h'; exact h'
  | skip h1 h2 ih => intro bs' M' h'; exact .skip h1 (ih h')
  | go h1 h2 h3 ih2 ih3 =>
    intro bs' M' h'
    have := VisL.go h1 h2 (ih3 h')
    simpa using this
def sumL (h : Nat → Int → Int) : List (Nat × Int) → Int
  | [] => 0
  | x :: r => h x.1 x.2 + sumL h r
theorem sumL_append (h : Nat → Int → Int) : ∀ a b, sumL h (a ++ b) = sumL h a + sumL h b
  | [], b => by simp [sumL]
  | x :: r, b => by simp only [List.cons_append, sumL, sumL_append h r b]; omega
theorem sumL_add (h g : Nat → Int → Int) : ∀ a, sumL (fun i x => h i x + g i x) a = sumL h a + sumL g a
  | [] => by simp [sumL]
  | x :: r => by simp only [sumL, sumL_add h g r]; omega
def sumN (F : Nat → Int) : Nat → Int
  | 0 => 0
  | n + 1 => sumN F n + F n
theorem sumN_congr {F G : Nat → Int} : ∀ {n}, (∀ i, i < n → F i = G i) → sumN F n = sumN G n
  | 0, _ => rfl
  | n + 1, h => by simp only [sumN, sumN_congr (n := n) fun i hi => h i (by omega), h n (by omega)]
theorem sumN_add (F G : Nat → Int) : ∀ n, sumN (fun i => F i + G i) n = sumN F n + sumN G n
  | 0 => rfl
  | n + 1 => by simp only [sumN, sumN_add F G n]; omega
theorem sumN_zero {F : Nat → Int} : ∀ {n}, (∀ i, i < n → F i = 0) → sumN F n = 0
  | 0, _ => rfl
  | n + 1, h => by simp only [sumN, sumN_zero (n := n) fun i hi => h i (by omega), h n (by omega)]; rfl
theorem sumN_one {p : Nat} {x : Int} : ∀ {n}, p < n → sumN (fun j => if j = p then x else 0) n = x
  | 0, h => by omega
  | n + 1, h => by
    simp only [sumN]
    by_cases e : p = n
    · subst e
      rw [sumN_zero (n := p) fun i hi => if_neg (by omega)]; simp
    · rw [sumN_one (n := n) (by omega), if_neg (by omega)]; omega

theorem nb_lt {t : List (Int × Int)} (ht : Ahead t) : ∀ n, n ≤ t.length → ∀ i, i < n → ∀ b l, (b, l) ∈ nb t n i → b < n
  | 0, _, i, hi, _, _, _ => by omega
  | n + 1, hn, i, hi, b, l, hm => by
    simp only [nb] at hm
    by_cases e : i = n
    · rw [if_pos e] at hm
      by_cases h0 : n = 0
      · rw [if_pos h0] at hm; cases hm
      · rw [if_neg h0] at hm
        simp at hm
        have := (ht n (by omega) (by omega)).1
        omega
    · rw [if_neg e] at hm
      rcases List.mem_append.1 hm with h | h
      · have := nb_lt ht n (by omega) i (by omega) b l h; omega
      · split at h
        · simp at h; omega
        · cases h
theorem nb_old {t : List (Int × Int)} {n i : Nat} (hi : i < n) : nb t (n + 1) i = nb t n i ++ (if tto t n = i then [(n, tlg t n)] else []) := by
  simp only [nb]; rw [if_neg (by omega)]
theorem nb_new {t : List (Int × Int)} {n : Nat} (hn : 1 ≤ n) : nb t (n + 1) n = [(tto t n, tlg t n)] := by
  simp only [nb, if_true]; rw [if_neg (by omega)]

/-- What the new node adds where its neighbour is visited. -/
def more (p n : Nat) (lg : Int) (h : Nat → Int → Int) : Nat → Int → Int := fun i x => if i = p then h n (x + lg) else 0
/-- A walk in a tree with one node more. -/
theorem vis_leaf {t : List (Int × Int)} (ht : Ahead t) {n : Nat} (h1 : 1 ≤ n) (hn : n + 1 ≤ t.length) {a : Nat} {f : Option Nat} {w : Int} {bs M : List (Nat × Int)} (h : VisL (nb t n) a f w bs M) :
    a < n → (∀ b l, (b, l) ∈ bs → b < n) → ∃ M', VisL (nb t (n + 1)) a f w bs M' ∧ ∀ h, sumL h M' = sumL h M + sumL (more (tto t n) n (tlg t n) h) M := by
  induction h with
  | nil a f w => intro _ _; exact ⟨[], .nil _ _ _, fun h => rfl⟩
  | @skip a f w b l bs M e _ ih =>
    intro ha hb
    obtain ⟨M', h1, h2⟩ := ih ha fun b' l' hm => hb b' l' (List.mem_cons_of_mem _ hm)
    exact ⟨M', .skip e h1, h2⟩
  | @go a f w b l bs M1 M2 e _ _ ih1 ih2 =>
    intro ha hb
    have hbn : b < n := hb b l (List.mem_cons_self ..)
    obtain ⟨M1', v1, s1⟩ := ih1 hbn fun b' l' hm => nb_lt ht n (by omega) b hbn b' l' hm
    obtain ⟨M2', v2, s2⟩ := ih2 ha fun b' l' hm => hb b' l' (List.mem_cons_of_mem _ hm)
    by_cases hp : tto t n = b
    · have hv : VisL (nb t (n + 1)) b (some a) (w + l) (nb t (n + 1) b) (M1' ++ [(n, w + l + tlg t n)]) := by
        rw [nb_old hbn, if_pos hp]
        refine v1.append (.go (M := []) (M' := []) (by simp; omega) ?_ (.nil _ _ _))
        rw [nb_new h1]
        exact .skip (by rw [hp]) (.nil _ _ _)
      refine ⟨_, .go e hv v2, fun h => ?_⟩
      simp only [sumL, sumL_append, s1 h, s2 h, more, if_pos hp.symm]
      omega
    · have hv : VisL (nb t (n + 1)) b (some a) (w + l) (nb t (n + 1) b) M1' := by
        rw [nb_old hbn, if_neg hp, List.append_nil]; exact v1
      refine ⟨_, .go e hv v2, fun h => ?_⟩
      simp only [sumL, sumL_append, s1 h, s2 h, more]
      rw [if_neg (fun e => hp e.symm)]
      omega
/-- To come from a node that is not there is to come from none. -/
theorem vis_from {N : Nat → List (Nat × Int)} {n a x : Nat} {f : Option Nat} {w : Int} {bs M : List (Nat × Int)} (h : VisL N a f w bs M) (hf : f = none) (hx : n ≤ x) : (∀ b l, (b, l) ∈ bs → b < n) → VisL N a (some x) w bs M := by
  induction h with
  | nil a f w => intro _; exact .nil _ _ _
  | skip e _ ih => subst hf; cases e
  | @go a f w b l bs M1 M2 e h1 _ _ ih2 =>
    intro hb
    exact .go (by have := hb b l (List.mem_cons_self ..); simp; omega) h1 (ih2 hf fun b' l' hm => hb b' l' (List.mem_cons_of_mem _ hm))

/-- A walk from a, come to from f: it visits those of the n nodes for which q holds, each once, with how far it is from a. -/
def Walks (t : List (Int × Int)) (n a : Nat) (f : Option Nat) (w : Int) (q : Nat → Prop) [DecidablePred q] : Prop :=
  ∃ M, VisL (nb t n) a f w (nb t n a) M ∧ ∀ h, h a w + sumL h M = sumN (fun j => if q j then h j (w + dn t n a j) else 0) n
/-- One node more. -/
theorem Walks.leaf {t : List (Int × Int)} (ht : Ahead t) {n a : Nat} {f : Option Nat} {w : Int} {q : Nat → Prop} [DecidablePred q] (h : Walks t n a f w q) (h1 : 1 ≤ n) (hn : n + 1 ≤ t.length) (ha : a < n) (hf : f ≠ some n)
    (hq : q n ↔ q (tto t n)) : Walks t (n + 1) a f w q := by
  obtain ⟨M, v, s⟩ := h
  obtain ⟨M', v', s'⟩ := vis_leaf ht h1 hn v ha fun b l hm => nb_lt ht n (by omega) a ha b l hm
  have hp := (ht n h1 (by omega)).1
  have hsum : ∀ h : Nat → Int → Int, (h a w + sumL h M) + (more (tto t n) n (tlg t n) h a w + sumL (more (tto t n) n (tlg t n) h) M) = sumN (fun j => if q j then h j (w + dn t (n + 1) a j) else 0) (n + 1) := fun h => by
    rw [s h, s (more (tto t n) n (tlg t n) h)]
    simp only [sumN]
    have e1 : sumN (fun j => if q j then h j (w + dn t n a j) else 0) n = sumN (fun j => if q j then h j (w + dn t (n + 1) a j) else 0) n :=
      sumN_congr fun i hi => by rw [dn_old ha hi]
    have e2 : sumN (fun j => if q j then more (tto t n) n (tlg t n) h j (w + dn t n a j) else 0) n = if q n then h n (w + dn t (n + 1) a n) else 0 := by
      by_cases hqn : q n
      · rw [if_pos hqn, dn_symm t (n + 1) a n, dn_new ha, dn_symm t n (tto t n) a]
        rw [← sumN_one (x := h n (w + (dn t n a (tto t n) + tlg t n))) hp]
        refine sumN_congr fun i hi => ?_
        unfold more
        by_cases e : i = tto t n
        · subst e; rw [if_pos (hq.1 hqn), if_pos rfl, if_pos rfl, Int.add_assoc]
        · rw [if_neg e, if_neg e]; split <;> rfl
      · rw [if_neg hqn]
        refine sumN_zero fun i hi => ?_
        unfold more
        by_cases e : i = tto t n
        · subst e; rw [if_neg (fun h => hqn (hq.2 h))]
        · rw [if_neg e]; split <;> rfl
    rw [e1, e2]
  by_cases hpa : tto t n = a
  · refine ⟨M' ++ [(n, w + tlg t n)], ?_, fun h => ?_⟩
    · rw [nb_old ha, if_pos hpa]
      refine v'.append (.go (M := []) (M' := []) hf ?_ (.nil _ _ _))
      rw [nb_new h1]
      exact .skip (by rw [hpa]) (.nil _ _ _)
    · rw [sumL_append, s' h, ← hsum h]
      simp only [sumL, more, if_pos hpa.symm]
      omega
  · refine ⟨M', ?_, fun h => ?_⟩
    · rw [nb_old ha, if_neg hpa, List.append_nil]; exact v'
    · rw [s' h, ← hsum h]
      simp only [more]
      rw [if_neg (fun e => hpa e.symm)]
      omega
/-- From the new node's neighbour, come to from the new node. -/
theorem vis_up_new {t : List (Int × Int)} (ht : Ahead t) {n : Nat} {w : Int} (h : Walks t n (tto t n) none w fun _ => True) (h1 : 1 ≤ n) (hn : n + 1 ≤ t.length) :
    ∃ M, VisL (nb t (n + 1)) (tto t n) (some n) w (nb t (n + 1) (tto t n)) M ∧ ∀ h, h (tto t n) w + sumL h M = sumN (fun j => h j (w + dn t n (tto t n) j)) n := by
  obtain ⟨M, v, s⟩ := h
  have hp := (ht n h1 (by omega)).1
  have hbs : ∀ b l, (b, l) ∈ nb t n (tto t n) → b < n := fun b l hm => nb_lt ht n (by omega) _ hp b l hm
  obtain ⟨M', v', s'⟩ := vis_leaf ht h1 hn (vis_from v rfl (Nat.le_refl n) hbs) hp hbs
  refine ⟨M', ?_, fun h => ?_⟩
  · rw [nb_old hp, if_pos rfl]
    have := v'.append (.skip (l := tlg t n) rfl (.nil (tto t n) (some n) w))
    simpa using this
  · have e := s (more (tto t n) n (tlg t n) h)
    have e0 : sumN (fun j => if True then more (tto t n) n (tlg t n) h j (w + dn t n (tto t n) j) else 0) n = h n (w + tlg t n) := by
      rw [← sumN_one (x := h n (w + tlg t n)) hp]
      refine sumN_congr fun i hi => ?_
      simp only [if_true, more]
      by_cases e : i = tto t n
      · subst e; rw [if_pos rfl, if_pos rfl, dn_diag t n _ hp, Int.add_zero]
      · rw [if_neg e, if_neg e]
    rw [e0] at e
    have e1 := s h
    simp only [if_true] at e1
    rw [← e1, s' h]
    simp only [more, if_true] at e
    omega
theorem walks_all {t : List (Int × Int)} (ht : Ahead t) : ∀ n, n ≤ t.length → ∀ a, a < n → ∀ w, Walks t n a none w fun _ => True
  | 0, _, a, ha, w => by omega
  | n + 1, hn, a, ha, w => by
    by_cases h0 : n = 0
    · subst h0
      obtain rfl : a = 0 := by omega
      exact ⟨[], .nil _ _ _, fun h => by simp [sumL, sumN, dn]⟩
    by_cases e : a = n
    · subst e
      have hp := (ht a (by omega) (by omega)).1
      obtain ⟨M, v, s⟩ := vis_up_new ht (walks_all ht a (by omega) _ hp (w + tlg t a)) (by omega) hn
      refine ⟨(tto t a, w + tlg t a) :: (M ++ []), ?_, fun h => ?_⟩
      · rw [nb_new (by omega)]
        exact .go (by simp) v (.nil _ _ _)
      · simp only [List.append_nil, sumL, sumN, if_true]
        have e1 := s h
        have e2 : sumN (fun j => h j (w + dn t (a + 1) a j)) a = sumN (fun j => h j (w + tlg t a + dn t a (tto t a) j)) a :=
          sumN_congr fun i hi => by rw [dn_new hi]; congr 1; omega
        rw [e2, dn_diag t (a + 1) a (by omega), Int.add_zero]
        omega
    · exact (walks_all ht n (by omega) a (by omega) w).leaf ht (by omega) hn (by omega) (by simp) (by simp)
instance (t : List (Int × Int)) (v : Nat) : DecidablePred (Bh t v) := fun i => inferInstanceAs (Decidable (tp t v i = v))
theorem walks_down {t : List (Int × Int)} (ht : Ahead t) : ∀ n, n ≤ t.length → ∀ c, 1 ≤ c → c < n → ∀ w, Walks t n c (some (tto t c)) w (Bh t c)
  | 0, _, c, _, hc, w => by omega
  | n + 1, hn, c, h1, hc, w => by
    have hp := (ht c h1 (by omega)).1
    by_cases e : c = n
    · subst e
      refine ⟨[], ?_, fun h => ?_⟩
      · rw [nb_new h1]; exact .skip rfl (.nil _ _ _)
      · simp only [sumL, sumN]
        rw [if_pos (bh_self t c), dn_diag t (c + 1) c (by omega), sumN_zero fun i hi => if_neg fun hb => by have := bh_le ht (by omega) hb; omega]
        simp only [Int.add_zero, Int.zero_add]
    · exact (walks_down ht n (by omega) c h1 (by omega) w).leaf ht (by omega) hn (by omega) (by simp; omega) (bh_up ht (by omega) (by omega))
theorem walks_up {t : List (Int × Int)} (ht : Ahead t) : ∀ n, n ≤ t.length → ∀ c, 1 ≤ c → c < n → ∀ w, Walks t n (tto t c) (some c) w fun j => ¬ Bh t c j
  | 0, _, c, _, hc, w => by omega
  | n + 1, hn, c, h1, hc, w => by
    have hp := (ht c h1 (by omega)).1
    by_cases e : c = n
    · subst e
      obtain ⟨M, v, s⟩ := vis_up_new ht (walks_all ht c (by omega) _ hp w) h1 hn
      refine ⟨M, v, fun h => ?_⟩
      rw [s h]
      simp only [sumN]
      rw [if_neg (fun hb => hb (bh_self t c)), Int.add_zero]
      exact sumN_congr fun i hi => by rw [if_pos (fun hb => by have := bh_le ht (by omega) hb; omega), dn_old hp hi]
    · exact (walks_up ht n (by omega) c h1 (by omega) w).leaf ht (by omega) hn (by omega) (by simp; omega) (by rw [bh_up ht (by omega) (by omega)])
/-- What a walk visits, seen one by one. -/
theorem sumL_pos {h : Nat → Int → Int} (h0 : ∀ i x, 0 ≤ h i x) : ∀ {M : List (Nat × Int)}, 0 ≤ sumL h M ∧ ∀ x ∈ M, h x.1 x.2 ≤ sumL h M
  | [] => ⟨Int.le_refl _, fun x hx => by cases hx⟩
  | y :: r => by
    obtain ⟨h1, h2⟩ := sumL_pos h0 (M := r)
    simp only [sumL]
    have := h0 y.1 y.2
    refine ⟨by omega, fun x hx => ?_⟩
    rcases List.mem_cons.1 hx with e | e
    · subst e; omega
    · have := h2 x e; omega
/-- All that is visited is told with its way, and is one for which q holds. -/
theorem visited_way {t : List (Int × Int)} {n a : Nat} {w : Int} {q : Nat → Prop} [DecidablePred q] {M : List (Nat × Int)} (s : ∀ h : Nat → Int → Int, h a w + sumL h M = sumN (fun j => if q j then h j (w + dn t n a j) else 0) n) :
    ∀ x ∈ (a, w) :: M, x.1 < n ∧ q x.1 ∧ x.2 = w + dn t n a x.1 := by
  intro x hx
  have h := s fun i y => if i < n ∧ q i ∧ y = w + dn t n a i then 0 else 1
  have hz : sumN (fun j => if q j then (fun (i : Nat) (y : Int) => if i < n ∧ q i ∧ y = w + dn t n a i then (0 : Int) else 1) j (w + dn t n a j) else 0) n = 0 :=
    sumN_zero fun i hi => by
      by_cases hq : q i
      · rw [if_pos hq]; simp [hi, hq]
      · rw [if_neg hq]
  rw [hz] at h
  have hp := (sumL_pos (h := fun i y => if i < n ∧ q i ∧ y = w + dn t n a i then 0 else 1) (fun i x => by split <;> omega) (M := (a, w) :: M)).2 x hx
  simp only [sumL] at hp
  by_cases hc : x.1 < n ∧ q x.1 ∧ x.2 = w + dn t n a x.1
  · exact hc
  · rw [if_neg hc] at hp; omega
theorem sumL_zero {h : Nat → Int → Int} : ∀ {M : List (Nat × Int)}, (∀ x ∈ M, h x.1 x.2 = 0) → sumL h M = 0
  | [], _ => rfl
  | y :: r, hz => by simp only [sumL, sumL_zero (M := r) fun x hx => hz x (List.mem_cons_of_mem _ hx), hz y (List.mem_cons_self ..)]; rfl
/-- Each node for which q holds is visited. -/
theorem visited_all {t : List (Int × Int)} {n a : Nat} {w : Int} {q : Nat → Prop} [DecidablePred q] {M : List (Nat × Int)} (s : ∀ h : Nat → Int → Int, h a w + sumL h M = sumN (fun j => if q j then h j (w + dn t n a j) else 0) n)
    {j : Nat} (hj : j < n) (hq : q j) : (j, w + dn t n a j) ∈ (a, w) :: M := by
  by_cases hm : ∃ x ∈ (a, w) :: M, x.1 = j
  · obtain ⟨x, hx, e⟩ := hm
    have := (visited_way s x hx).2.2
    rw [e] at this
    have ex : x = (j, w + dn t n a j) := Prod.ext e this
    rw [← ex]; exact hx
  · have h := s fun i _ => if i = j then 1 else 0
    have hz : sumL (fun i _ => if i = j then 1 else 0) ((a, w) :: M) = 0 := sumL_zero fun x hx => if_neg fun e => hm ⟨x, hx, e⟩
    simp only [sumL] at hz
    rw [hz] at h
    have h1 : sumN (fun i => if q i then (if i = j then (1 : Int) else 0) else 0) n = 1 := by
      refine Eq.trans (sumN_congr (G := fun i => if i = j then 1 else 0) fun i hi => ?_) (sumN_one hj)
      by_cases e : i = j
      · subst e; rw [if_pos hq]
      · rw [if_neg e]; split <;> rfl
    rw [h1] at h
    omega
theorem sumL_len : ∀ M : List (Nat × Int), sumL (fun _ _ => 1) M = M.length
  | [] => rfl
  | y :: r => by simp only [sumL, sumL_len r, List.length_cons]; omega
theorem sumN_le {F : Nat → Int} {c : Int} : ∀ {n}, (∀ i, i < n → F i ≤ c) → sumN F n ≤ c * n
  | 0, _ => by simp [sumN]
  | n + 1, h => by
    have := sumN_le (n := n) fun i hi => h i (by omega)
    have := h n (by omega)
    simp only [sumN]
    rw [show c * ((n + 1 : Nat) : Int) = c * n + c by rw [Int.natCast_succ, Int.mul_add, Int.mul_one]]
    omega
theorem visited_len {t : List (Int × Int)} {n a : Nat} {w : Int} {q : Nat → Prop} [DecidablePred q] {M : List (Nat × Int)} (s : ∀ h : Nat → Int → Int, h a w + sumL h M = sumN (fun j => if q j then h j (w + dn t n a j) else 0) n) : M.length + 1 ≤ n := by
  have h := s fun _ _ => 1
  rw [sumL_len] at h
  have := sumN_le (F := fun j => if q j then (1 : Int) else 0) (c := 1) (n := n) fun i _ => by split <;> omega
  omega
end Go.Proofs.Ytoohfipicmdohac
namespace Go.Proofs.Ytoohfipicmdohac
open Go.ChangeShapes Go.WideShapes Go.ChangeAt Go.RowKit
set_option linter.unusedVariables false
set_option maxRecDepth 4000

def ptr (g : Nat) : Value := .pointer (some ⟨g, 0, none⟩)
def brv (P : Nat → Nat) : List (Nat × Int) → List Value
  | [] => []
  | x :: r => ptr (P x.1) :: .int .i64 x.2 :: brv P r
theorem brv_len (P : Nat → Nat) : ∀ l, (brv P l).length = l.length * 2
  | [] => rfl
  | x :: r => by simp only [brv, List.length_cons, brv_len P r]; omega
theorem brv_append (P : Nat → Nat) : ∀ a b, brv P (a ++ b) = brv P a ++ brv P b
  | [], b => rfl
  | x :: r, b => by simp [brv, brv_append P r b]
theorem brv_congr {P P' : Nat → Nat} : ∀ {l : List (Nat × Int)}, (∀ x ∈ l, P x.1 = P' x.1) → brv P l = brv P' l
  | [], _ => rfl
  | x :: r, h => by simp only [brv, h x (List.mem_cons_self ..), brv_congr (l := r) fun y hy => h y (List.mem_cons_of_mem _ hy)]
theorem brv_ptr (P : Nat → Nat) : ∀ (l : List (Nat × Int)) k, k < l.length → (brv P l)[k * 2]? = some (ptr (P (l.getD k (0, 0)).1))
  | [], k, h => by simp at h
  | x :: r, 0, h => rfl
  | x :: r, k + 1, h => by
    rw [show (k + 1) * 2 = k * 2 + 1 + 1 by omega]
    simp only [brv, List.getElem?_cons_succ, List.getD_cons_succ]
    exact brv_ptr P r k (by simpa using h)
theorem brv_int (P : Nat → Nat) : ∀ (l : List (Nat × Int)) k, k < l.length → (brv P l)[k * 2 + 1]? = some (.int .i64 (l.getD k (0, 0)).2)
  | [], k, h => by simp at h
  | x :: r, 0, h => rfl
  | x :: r, k + 1, h => by
    rw [show (k + 1) * 2 + 1 = k * 2 + 1 + 1 + 1 by omega]
    simp only [brv, List.getElem?_cons_succ, List.getD_cons_succ]
    exact brv_int P r k (by simpa using h)
def ptrs (P : Nat → Nat) (n : Nat) : List Value := (List.range n).map fun i => ptr (P i)
def upv (P : Nat → Nat) (t : List (Int × Int)) (i : Nat) : Value := if i = 0 then .pointer none else ptr (P (tto t i))
/-- The first n nodes lie in w, from block B on. -/
structure LkN (w : World) (B n : Nat) (P : Nat → Nat) (RV : Nat → Value) (t : List (Int × Int)) : Prop where
  node : ∀ i, i < n → B ≤ P i ∧ w.heap[P i]? = some (.cells #[.int .i64 i, .int .i64 (dn t n i 0), upv P t i, RV i] 71 (0, 0))
  inj : ∀ i j, i < n → j < n → P i = P j → i = j
  own : ∀ i, i < n → w.ownsRow B 81 2 (RV i) (nb t n i).length (brv P (nb t n i))
  dis : ∀ i j g, i < n → j < n → (RV i).ownBlock = some g → (RV j).ownBlock = some g → i = j
def LinkRel (w : World) (t : List (Int × Int)) (v i : Value) (wr : World) : Prop :=
  ∃ k : Nat, ∃ P RV, k < t.length ∧ i = .int .i64 k ∧ LkN wr w.heap.size (k + 1) P RV t ∧ wr.ownsRow w.heap.size 66 1 v (k + 1) (ptrs P (k + 1)) ∧ Below w.heap.size w wr
def Linked (w : World) (t : List (Int × Int)) (e : Ending) (w' : World) : Prop :=
  ∃ v P RV, e = .returned v ∧ LkN w' w.heap.size t.length P RV t ∧ w'.ownsRow w.heap.size 66 1 v t.length (ptrs P t.length) ∧ Below w.heap.size w w'
theorem brInfo : (Try.prog.info? 81).map (fun i => (i.zero, i.size, i.bytes)) = some (some (.agg #[.pointer none, .int .i64 0]), 2, 16) := by kernel_rfl
theorem nptrInfo : (Try.prog.info? 66).map (fun i => (i.zero, i.size, i.bytes)) = some (some (.pointer none), 1, 8) := by kernel_rfl
theorem LkN.lt {w : World} {B n : Nat} {P : Nat → Nat} {RV : Nat → Value} {t : List (Int × Int)} (h : LkN w B n P RV t) {i : Nat} (hi : i < n) : P i < w.heap.size := (Array.getElem?_eq_some_iff.1 (h.node i hi).2).1
theorem LkN.below {w w' : World} {B n : Nat} {P : Nat → Nat} {RV : Nat → Value} {t : List (Int × Int)} (h : LkN w B n P RV t) (hb : Below w.heap.size w w') : LkN w' B n P RV t where
  node i hi := ⟨(h.node i hi).1, (hb.block _ (h.lt hi)).trans (h.node i hi).2⟩
  inj := h.inj
  own i hi := ownN_below (h.own i hi) hb
  dis := h.dis
theorem LkN.cells {w : World} {B n : Nat} {P : Nat → Nat} {RV : Nat → Value} {t : List (Int × Int)} (h : LkN w B n P RV t) {i : Nat} (hi : i < n) :
    w.cell? ⟨P i, 0, none⟩ = some (.int .i64 i) ∧ w.cell? ⟨P i, 1, none⟩ = some (.int .i64 (dn t n i 0)) ∧ w.cell? ⟨P i, 2, none⟩ = some (upv P t i) ∧ w.cell? ⟨P i, 3, none⟩ = some (RV i) ∧ w.frozen? ⟨P i, 3, none⟩ = false := by
  have hh := (h.node i hi).2
  refine ⟨?_, ?_, ?_, ?_, ?_⟩
  · rw [cell_of_row _ _ _ _ _ _ hh]; rfl
  · rw [cell_of_row _ _ _ _ _ _ hh]; rfl
  · rw [cell_of_row _ _ _ _ _ _ hh]; rfl
  · rw [cell_of_row _ _ _ _ _ _ hh]; rfl
  · simp [World.frozen?, hh]
theorem nilOwn (Q : Nat) : (Value.slice none 0 0).ownBlock ≠ some Q := by simp [Value.ownBlock]
theorem node_c3 {w : World} {Q : Nat} {a b c d : Value} {t : TypeId} (hh : w.heap[Q]? = some (.cells #[a, b, c, d] t (0, 0))) : w.cell? ⟨Q, 3, none⟩ = some d := by
  rw [cell_of_row _ _ _ _ _ _ hh]; rfl
theorem app_node {wB w1 : World} {o x : Obj} {row : Option Nat} {Q : Nat} (hg : (wB.alloc o).drew.grownBy w1 row) (hh : wB.heap[Q]? = some x) (hne : row ≠ some Q) : w1.heap[Q]? = some x :=
  grown_node hg (show (wB.alloc o).heap[Q]? = some x from (heap_alloc_old wB o (Array.getElem?_eq_some_iff.1 hh).1).trans hh) hne
/-- The first node. -/
theorem link_start (w w1 : World) (t : List (Int × Int)) (hw : w1 = w.alloc (.cells #[.int .i64 0, .int .i64 0, .pointer none, .slice none 0 0] 71)) :
    LkN w1 w.heap.size 1 (fun _ => w.heap.size) (fun _ => .slice none 0 0) t := by
  subst hw
  constructor
  · intro i hi
    obtain rfl : i = 0 := by omega
    refine ⟨Nat.le_refl _, ?_⟩
    rw [heap_alloc_new]
    simp [upv, dn]
  · intro i j hi hj _; omega
  · intro i hi
    obtain rfl : i = 0 := by omega
    exact World.ownsRow_nil _ _ _ _
  · intro i j g hi hj _ _; omega

/-- A node's roads lie elsewhere than nodes. -/
theorem LkN.own_node {w : World} {B n : Nat} {P : Nat → Nat} {RV : Nat → Value} {t : List (Int × Int)} (h : LkN w B n P RV t) {i j : Nat} (hi : i < n) (hj : j < n) : (RV i).ownBlock ≠ some (P j) := fun e => by
  obtain ⟨⟨cs, hc⟩, _⟩ := own_heap (h.own i hi) e
  exact types_apart hc (h.node j hj).2 (by decide) rfl
theorem LkN.own_lt {w : World} {B n : Nat} {P : Nat → Nat} {RV : Nat → Value} {t : List (Int × Int)} (h : LkN w B n P RV t) {i g : Nat} (hi : i < n) (e : (RV i).ownBlock = some g) : g < w.heap.size := (own_heap (h.own i hi) e).2.2
/-- What writes into a block of another type leaves the nodes. -/
theorem LkN.kept {w w' : World} {B n : Nat} {P : Nat → Nat} {RV : Nat → Value} {t : List (Int × Int)} {row : Option Nat} (h : LkN w B n P RV t) (hg : w.grownBy w' row)
    (hr : ∀ g, row = some g → g < w.heap.size → ∃ cs ty fz, w.heap[g]? = some (.cells cs ty fz) ∧ ty ≠ 71 ∧ ty ≠ 81) : LkN w' B n P RV t where
  node i hi := ⟨(h.node i hi).1, grown_node hg (h.node i hi).2 fun e => by
    obtain ⟨cs, ty, fz, hc, h1, h2⟩ := hr _ e (h.lt hi)
    exact types_apart hc (h.node i hi).2 h1 rfl⟩
  inj := h.inj
  own i hi := (h.own i hi).kept hg (by
    rcases e : (RV i).ownBlock with _ | g
    · exact .inl rfl
    · right
      intro e'
      obtain ⟨cs, ty, fz, hc, h1, h2⟩ := hr g e'.symm (h.own_lt hi e)
      obtain ⟨⟨cs', hc'⟩, _⟩ := own_heap (h.own i hi) e
      exact types_apart hc hc' h2 rfl)
  dis := h.dis
theorem heap_setCell_at {w : World} {g : Nat} {a b c d v : Value} {ty : TypeId} (hh : w.heap[g]? = some (.cells #[a, b, c, d] ty (0, 0))) : (w.setCell ⟨g, 3, none⟩ v).heap[g]? = some (.cells #[a, b, c, v] ty (0, 0)) := by
  simp [World.setCell, Array.getElem?_modify, hh]
theorem nb_len (t : List (Int × Int)) : ∀ n i, (nb t n i).length ≤ n
  | 0, _ => Nat.le_refl _
  | n + 1, i => by
    simp only [nb]
    split
    · split <;> simp
    · have := nb_len t n i
      split <;> simp <;> omega
/-- One node more, with both ends of its road. -/
theorem link_step {wC W w2 : World} {B k p Q g1 : Nat} {P : Nat → Nat} {RV : Nat → Value} {t : List (Int × Int)} {v1 : Value} {y : Int} {g2 cap2 : Nat} {l2 : Nat} (ht : Ahead t) (hk : k + 1 < t.length)
    (hlk : LkN wC B (k + 1) P RV t) (nC : wC.heap[Q]? = some (.cells #[.int .i64 (k + 1 : Nat), .int .i64 (dn t (k + 2) (k + 1) 0), ptr (P p), v1] 71 (0, 0)))
    (oC : wC.ownsRow B 81 2 v1 1 [ptr (P p), .int .i64 y]) (hv1 : v1.ownBlock = some g1) (hB : B ≤ Q) (hQ : ∀ i, i < k + 1 → P i ≠ Q) (hg1 : ∀ i, i < k + 1 → (RV i).ownBlock ≠ some g1)
    (hW : Below wC.heap.size wC W) (hp : tto t (k + 1) = p) (hy : tlg t (k + 1) = y)
    (hgrow : W.grownBy w2 (RV p).ownBlock) (hown2 : w2.ownsRow B 81 2 (.slice (some ⟨g2, 0, none⟩) l2 cap2) l2 (brv P (nb t (k + 1) p) ++ [ptr Q, .int .i64 y])) (hl2 : l2 = (nb t (k + 1) p).length + 1)
    (hat : (RV p).ownBlock = some g2 ∨ g2 = W.heap.size) :
    LkN (w2.setCell ⟨P p, 3, none⟩ (.slice (some ⟨g2, 0, none⟩) l2 cap2)) B (k + 2) (fun i => if i = k + 1 then Q else P i) (fun i => if i = k + 1 then v1 else if i = p then .slice (some ⟨g2, 0, none⟩) l2 cap2 else RV i) t := by
  have hpk : p < k + 1 := by have := (ht (k + 1) (by omega) hk).1; omega
  have hlkW := hlk.below hW
  have nW : W.heap[Q]? = _ := (hW.block Q (Array.getElem?_eq_some_iff.1 nC).1).trans nC
  have oW := ownN_below oC hW
  have hWs := hW.size
  have hg1lt : g1 < wC.heap.size := (own_heap oC hv1).2.2
  -- the nodes in w2
  have node2 : ∀ i, i < k + 1 → w2.heap[P i]? = some (.cells #[.int .i64 i, .int .i64 (dn t (k + 1) i 0), upv P t i, RV i] 71 (0, 0)) := fun i hi =>
    grown_node hgrow (hlkW.node i hi).2 (hlkW.own_node hpk hi)
  have nQ2 : w2.heap[Q]? = _ := grown_node hgrow nW (fun e => by
    obtain ⟨⟨cs, hc⟩, _⟩ := own_heap (hlkW.own p hpk) e
    exact types_apart hc nW (by decide) rfl)
  have own2 : ∀ i, i < k + 1 → i ≠ p → w2.ownsRow B 81 2 (RV i) (nb t (k + 1) i).length (brv P (nb t (k + 1) i)) := fun i hi hne =>
    (hlkW.own i hi).kept hgrow (by
      rcases e : (RV i).ownBlock with _ | g
      · exact .inl rfl
      · right; intro e'
        exact hne (hlkW.dis i p g hi hpk e e'.symm))
  have o1 : w2.ownsRow B 81 2 v1 1 [ptr (P p), .int .i64 y] := oW.kept hgrow (.inr (by rw [hv1]; exact fun e => hg1 p hpk e.symm))
  -- the store
  have ne2 : ∀ {v : Value} {m : Nat} {xs : List Value}, w2.ownsRow B 81 2 v m xs → v.ownBlock ≠ some (P p) := fun h e => by
    obtain ⟨⟨cs, hc⟩, _⟩ := own_heap h e
    exact types_apart hc (node2 p hpk) (by decide) rfl
  have st : ∀ g, g ≠ P p → (w2.setCell ⟨P p, 3, none⟩ (.slice (some ⟨g2, 0, none⟩) l2 cap2)).heap[g]? = w2.heap[g]? := fun g hne => Below.heap_setCell w2 _ _ g hne
  have P'old : ∀ i, i < k + 1 → (if i = k + 1 then Q else P i) = P i := fun i hi => if_neg (by omega)
  have brv' : ∀ i, i < k + 1 → brv (fun i => if i = k + 1 then Q else P i) (nb t (k + 1) i) = brv P (nb t (k + 1) i) := fun i hi =>
    brv_congr fun x hx => P'old x.1 (nb_lt ht (k + 1) (by omega) i hi x.1 x.2 hx)
  constructor
  · intro i hi
    by_cases e : i = k + 1
    · subst e
      simp only [if_true]
      refine ⟨hB, ?_⟩
      rw [st Q (fun e => hQ p hpk e.symm), nQ2]
      simp only [upv]
      rw [if_neg (by omega), hp, if_neg (by omega)]
    · simp only [if_neg e]
      refine ⟨(hlk.node i (by omega)).1, ?_⟩
      have hup : upv (fun i => if i = k + 1 then Q else P i) t i = upv P t i := by
        unfold upv
        by_cases h0 : i = 0
        · rw [if_pos h0, if_pos h0]
        · have := (ht i (by omega) (by omega)).1
          rw [if_neg h0, if_neg h0]
          simp only
          rw [if_neg (by omega)]
      rw [hup, dn_old (by omega) (by omega)]
      by_cases ep : i = p
      · subst ep
        rw [if_pos rfl]
        exact heap_setCell_at (node2 i (by omega))
      · rw [if_neg ep, st _ (fun h => ep (hlk.inj i p (by omega) hpk h))]
        exact node2 i (by omega)
  · intro i j hi hj h
    by_cases e1 : i = k + 1 <;> by_cases e2 : j = k + 1
    · omega
    · rw [if_pos e1, if_neg e2] at h; exact absurd h.symm (hQ j (by omega))
    · rw [if_neg e1, if_pos e2] at h; exact absurd h (hQ i (by omega))
    · rw [if_neg e1, if_neg e2] at h; exact hlk.inj i j (by omega) (by omega) h
  · intro i hi
    by_cases e : i = k + 1
    · subst e
      simp only [if_true]
      rw [nb_new (by omega), hp, hy]
      simp only [brv]
      rw [if_neg (by omega)]
      exact ownsRow_setCell_other o1 (by rw [hv1]; intro e; injection e with e; exact ne2 o1 (by rw [hv1, e])) _
    · simp only [if_neg e]
      rw [nb_old (show i < k + 1 by omega), hp, hy, brv_append, brv' i (by omega)]
      by_cases ep : i = p
      · subst ep
        rw [if_pos rfl, if_pos rfl]
        simp only [brv, if_true, List.length_append, List.length_cons, List.length_nil, Nat.zero_add, ← hl2]
        exact ownsRow_setCell_other hown2 (ne2 hown2) _
      · rw [if_neg ep, if_neg (fun h => ep h.symm)]
        simp only [brv, List.append_nil]
        exact ownsRow_setCell_other (own2 i (by omega) ep) (ne2 (own2 i (by omega) ep)) _
  · intro i j g hi hj h h'
    have key : ∀ i, i < k + 1 → (if i = p then Value.slice (some ⟨g2, 0, none⟩) l2 cap2 else RV i).ownBlock ≠ some g1 := fun i hi h => by
      by_cases ep : i = p
      · rw [if_pos ep] at h
        have : g2 = g1 := by simpa [Value.ownBlock] using h
        subst this
        rcases hat with ha | ha
        · exact hg1 p hpk ha
        · omega
      · rw [if_neg ep] at h; exact hg1 i hi h
    have key2 : ∀ i j, i < k + 1 → j < k + 1 → i ≠ p → j = p → (RV i).ownBlock = some g → some g2 ≠ some g := fun i j hi hj hne hjp h e => by
      injection e with e
      subst e
      rcases hat with ha | ha
      · exact hne (hlk.dis i p _ hi hpk h ha)
      · have := hlkW.own_lt hi h; omega
    by_cases e1 : i = k + 1 <;> by_cases e2 : j = k + 1
    · omega
    · rw [if_pos e1, hv1] at h; rw [if_neg e2] at h'; cases h; exact absurd h' (key j (by omega))
    · rw [if_neg e1] at h; rw [if_pos e2, hv1] at h'; cases h'; exact absurd h (key i (by omega))
    · rw [if_neg e1] at h; rw [if_neg e2] at h'
      by_cases f1 : i = p <;> by_cases f2 : j = p
      · omega
      · rw [if_pos f1] at h; rw [if_neg f2] at h'
        exact absurd (by simpa [Value.ownBlock] using h) (fun e => key2 j i (by omega) (by omega) f2 f1 h' (by rw [e]))
      · rw [if_neg f1] at h; rw [if_pos f2] at h'
        exact absurd (by simpa [Value.ownBlock] using h') (fun e => key2 i j (by omega) (by omega) f1 f2 h (by rw [e]))
      · rw [if_neg f1] at h; rw [if_neg f2] at h'
        exact hlk.dis i j g (by omega) (by omega) h h'
/-- Behind the new node's own road. -/
theorem link_mid {wr wB w1 : World} {B Q g cap : Nat} {a b c : Value} {xs : List Value} {o : Obj} (h1 : Below wr.heap.size wr wB) (hQ : wr.heap.size ≤ Q) (hQB : Q < wB.heap.size)
    (n1 : w1.heap[Q]? = some (.cells #[a, b, c, .slice none 0 0] 71 (0, 0))) (hown : w1.ownsRow B 81 2 (.slice (some ⟨g, 0, none⟩) (0 + 1) cap) (0 + 1) ([] ++ xs))
    (hgrow : (wB.alloc o).drew.grownBy w1 (Value.slice none 0 0).ownBlock) (hat : (Value.slice none 0 0).ownBlock = some g ∨ g = (wB.alloc o).drew.heap.size) :
    Below wr.heap.size wr (w1.setCell ⟨Q, 3, none⟩ (.slice (some ⟨g, 0, none⟩) 1 cap)) ∧ (w1.setCell ⟨Q, 3, none⟩ (.slice (some ⟨g, 0, none⟩) 1 cap)).heap[Q]? = some (.cells #[a, b, c, .slice (some ⟨g, 0, none⟩) 1 cap] 71 (0, 0)) ∧
    (w1.setCell ⟨Q, 3, none⟩ (.slice (some ⟨g, 0, none⟩) 1 cap)).ownsRow B 81 2 (.slice (some ⟨g, 0, none⟩) 1 cap) 1 xs ∧ wB.heap.size ≤ g ∧
    (∀ q, q < wB.heap.size → q ≠ Q → (w1.setCell ⟨Q, 3, none⟩ (.slice (some ⟨g, 0, none⟩) 1 cap)).heap[q]? = wB.heap[q]?) := by
  have hg : wB.heap.size ≤ g := by
    rcases hat with h | h
    · simp [Value.ownBlock] at h
    · have : (wB.alloc o).drew.heap.size = wB.heap.size + 1 := size_alloc1 wB o
      omega
  have hgr : Below wB.heap.size wB w1 := ((((Below.refl wB.heap.size wB).alloc (Nat.le_refl _) o)).drew).grown hgrow (by show wB.heap.size ≤ (wB.alloc o).heap.size; rw [size_alloc1]; omega) (fun k h => by simp [Value.ownBlock] at h)
  refine ⟨(h1.trans (hgr.mono h1.size)).setCell hQ _, heap_setCell_at n1, ?_, hg, fun q hq hne => ?_⟩
  · exact ownsRow_setCell_other hown (by simp [Value.ownBlock]; omega) _
  · rw [Below.heap_setCell w1 _ _ q hne]
    exact hgr.block q hq
theorem ptrs_congr {P P' : Nat → Nat} {n : Nat} (h : ∀ i, i < n → P i = P' i) : ptrs P n = ptrs P' n := by
  unfold ptrs
  exact List.map_congr_left fun i hi => by rw [h i (List.mem_range.1 hi)]
theorem ptrs_step (P : Nat → Nat) (n : Nat) : ptrs P (n + 1) = ptrs P n ++ [ptr (P n)] := by
  unfold ptrs; rw [List.range_succ, List.map_append]; rfl
/-- The list of the nodes is not touched by a road's being laid. -/
theorem link_nodes {wC W w2 : World} {B n p gn cA g2 l2 cap2 m : Nat} {P : Nat → Nat} {RV : Nat → Value} {t : List (Int × Int)} {xs : List Value} (hlk : LkN wC B n P RV t) (hp : p < n)
    (hn : wC.ownsRow B 66 1 (.slice (some ⟨gn, 0, none⟩) m cA) m xs) (hW : Below wC.heap.size wC W) (hgrow : W.grownBy w2 (RV p).ownBlock) :
    (w2.setCell ⟨P p, 3, none⟩ (.slice (some ⟨g2, 0, none⟩) l2 cap2)).ownsRow B 66 1 (.slice (some ⟨gn, 0, none⟩) m cA) m xs := by
  obtain ⟨⟨cs, hc⟩, _⟩ := own_heap hn (g := gn) rfl
  refine ownsRow_setCell_other ((ownN_below hn hW).kept hgrow (.inr fun e => ?_)) (fun e => ?_) _
  · obtain ⟨⟨cs', hc'⟩, _⟩ := own_heap (hlk.own p hp) e.symm
    exact types_apart hc hc' (by decide) rfl
  · injection e with e
    exact types_apart hc (hlk.node p hp).2 (by decide) e
theorem link_below {w wC W w2 : World} {p : Nat} {P : Nat → Nat} {RV : Nat → Value} {t : List (Int × Int)} {n : Nat} {v : Value} (hlk : LkN wC w.heap.size n P RV t) (hp : p < n)
    (h1 : Below w.heap.size w wC) (hW : Below wC.heap.size wC W) (hgrow : W.grownBy w2 (RV p).ownBlock) : Below w.heap.size w (w2.setCell ⟨P p, 3, none⟩ v) :=
  ((h1.trans (hW.mono h1.size)).grown hgrow (Nat.le_trans h1.size hW.size) fun k h => (own_heap (hlk.own p hp) h).2.1).setCell (hlk.node p hp).1 _
/-- What is appended to the list of the nodes leaves them. -/
theorem link_list {wD w3 : World} {B n gn cA m : Nat} {P : Nat → Nat} {RV : Nat → Value} {t : List (Int × Int)} {xs : List Value} {o : Obj} (hlk : LkN wD B n P RV t)
    (hn : wD.ownsRow B 66 1 (.slice (some ⟨gn, 0, none⟩) m cA) m xs) (hgrow : (wD.alloc o).grownBy w3 (Value.slice (some ⟨gn, 0, none⟩) m cA).ownBlock) : LkN w3 B n P RV t := by
  obtain ⟨⟨cs, hc⟩, _⟩ := own_heap hn (g := gn) rfl
  refine (hlk.below ((Below.refl _ _).alloc (Nat.le_refl _) o)).kept hgrow fun g e _ => ?_
  have e' : gn = g := by simpa [Value.ownBlock] using e
  subst e'
  exact ⟨cs, _, _, (heap_alloc_old wD o (Array.getElem?_eq_some_iff.1 hc).1).trans hc, by decide, by decide⟩
def fromA (P : Nat → Nat) : Option Nat → Option Addr
  | none => none
  | some f => some ⟨P f, 0, none⟩
theorem eq_same (w : World) (a : Addr) : ∀ d : Nat, (Op.equalIn (d + 1) 66 (.pointer (some a)) (.pointer (some a))).run Try.prog w = .ok true w := by
  obtain ⟨j, hj, _, hsz, _⟩ := info_parts (show (Try.prog.info? 71).map (fun i => (i.zero, i.size, i.bytes)) = some (some (.agg #[.int .i64 0, .int .i64 0, .pointer none, .slice none 0 0]), 4, 48) by kernel_rfl)
  intro d
  simp [Op.equalIn, run_underlying Try.underlying66, sizeOf, typeInfo, hj, run_sameAddr_same]
theorem neq_same (w : World) (a : Addr) : (binOp .neq 66 (.pointer (some a)) (.pointer (some a))).run Try.prog w = .ok (.bool false) w := by
  simp only [binOp]
  simp [Op.equal, Op.maxDepth, eq_same w a 9999]
theorem neq_other {w : World} {a b : Addr} {ca cb : Array Value} {ta tb : TypeId} (hne : a ≠ b) (ha : w.heap[a.block]? = some (.cells ca ta (0, 0))) (hb : w.heap[b.block]? = some (.cells cb tb (0, 0))) :
    (binOp .neq 66 (.pointer (some a)) (.pointer (some b))).run Try.prog w = .ok (.bool true) w := by
  obtain ⟨j, hj, _, hsz, _⟩ := info_parts (show (Try.prog.info? 71).map (fun i => (i.zero, i.size, i.bytes)) = some (some (.agg #[.int .i64 0, .int .i64 0, .pointer none, .slice none 0 0]), 4, 48) by kernel_rfl)
  have h : ∀ d : Nat, (Op.equalIn (d + 1) 66 (.pointer (some a)) (.pointer (some b))).run Try.prog w = .ok false w := fun d => by
    simp [Op.equalIn, run_underlying Try.underlying66, sizeOf, typeInfo, hj, hsz, run_sameAddr_other w hne ha hb]
  simp only [binOp]
  simp [Op.equal, Op.maxDepth, h 9999]
theorem neq_from {w : World} {B n b : Nat} {P : Nat → Nat} {RV : Nat → Value} {t : List (Int × Int)} {f : Option Nat} (hlk : LkN w B n P RV t) (hb : b < n) (hf : ∀ g, f = some g → g < n) (hne : f ≠ some b) :
    (binOp .neq 66 (.pointer (some ⟨P b, 0, none⟩)) (.pointer (fromA P f))).run Try.prog w = .ok (.bool true) w := by
  cases f with
  | none =>
    show (binOp .neq 66 (.pointer (some ⟨P b, 0, none⟩)) (.pointer none)).run Try.prog w = _
    rw [run_neq_pointer_nil w _ _ (by kernel_rfl)]; rfl
  | some g =>
    exact neq_other (a := ⟨P b, 0, none⟩) (b := ⟨P g, 0, none⟩) (fun e => hne (by injection e with e; rw [hlk.inj g b (hf g rfl) hb e.symm])) (hlk.node b hb).2 (hlk.node g (hf g rfl)).2
end Go.Proofs.Ytoohfipicmdohac
namespace Go.Proofs.Ytoohfipicmdohac
open Go.ChangeShapes Go.WideShapes Go.ChangeAt Go.RowKit
set_option linter.unusedVariables false
set_option maxRecDepth 4000

theorem link_made (w : World) (t : List (Int × Int)) :
    LkN ((w.alloc (.cells #[.int .i64 0, .int .i64 0, .pointer none, .slice none 0 0] 71)).alloc (.cells #[ptr w.heap.size] 66)) w.heap.size 1 (fun _ => w.heap.size) (fun _ => .slice none 0 0) t ∧
    ((w.alloc (.cells #[.int .i64 0, .int .i64 0, .pointer none, .slice none 0 0] 71)).alloc (.cells #[ptr w.heap.size] 66)).ownsRow w.heap.size 66 1 (.slice (some ⟨w.heap.size + 1, 0, none⟩) 1 1) 1 (ptrs (fun _ => w.heap.size) 1) ∧
    Below w.heap.size w ((w.alloc (.cells #[.int .i64 0, .int .i64 0, .pointer none, .slice none 0 0] 71)).alloc (.cells #[ptr w.heap.size] 66)) := by
  have b1 := (Below.refl w.heap.size w).alloc (Nat.le_refl _) (.cells #[.int .i64 0, .int .i64 0, .pointer none, .slice none 0 0] 71)
  refine ⟨(link_start w _ t rfl).below ((Below.refl _ _).alloc (Nat.le_refl _) _), ?_, b1.alloc b1.size _⟩
  have := World.ownsRow_lit (base := w.heap.size) (e := 66) (size := 1) (w.alloc (.cells #[.int .i64 0, .int .i64 0, .pointer none, .slice none 0 0] 71)) #[ptr w.heap.size] 1 b1.size (by decide) rfl
  rw [size_alloc1] at this
  exact this

set_option maxHeartbeats 1600000 in
theorem linked_any (A : Option Addr) (c n : Nat) (t : List (Int × Int)) (w : World) (hr : RdR w w.heap.size A t) (hn : t.length = n) (hc : n ≤ c) (hv : vt t = true) :
    Calls Try.prog 51 #[.slice A n c] w (Linked w t) := by
  obtain ⟨ib, hib, hzb0, hzb1, hzb2⟩ := info_parts brInfo
  obtain ⟨ip, hip, hzp0, hzp1, hzp2⟩ := info_parts nptrInfo
  obtain ⟨h1, h7, -⟩ := (vt_iff t).1 hv
  obtain ⟨b, off, x, y, rfl, hbw, -, -, -⟩ := hr.x (k := 0) (by omega)
  have Hn := Lib.hid hn
  have Hv := Lib.hid hv
  have ha := Lib.hid (vt_ahead hv)
  rw [hn] at h1 h7
  clear hn hv
  have HS := Lib.hid (link_made w t)
  by_cases hc1 : c = 1
  · subst hc1
    have hn1 : n = 1 := by omega
    subst hn1
    go_enter Try.func51, Try.ntmps51
    go_wp2
    go_loopw [3, 14] (fun v i wr => v = .slice (some ⟨w.heap.size + 1, 0, none⟩) 1 1 ∧ i = .int .i64 0 ∧ wr = (w.alloc (.cells #[.int .i64 0, .int .i64 0, .pointer none, .slice none 0 0] 71)).alloc (.cells #[ptr w.heap.size] 66)) (fun _ _ _ => 0)
    case atStart => exact ⟨rfl, rfl, rfl⟩
    case round =>
      obtain ⟨rfl, rfl, rfl⟩ := hrel
      go_wp2
      go_ret
      exact ⟨_, _, _, rfl, by rw [Hn.out]; exact HS.out.1, by rw [Hn.out]; exact HS.out.2.1, HS.out.2.2⟩
  go_enter Try.func51, Try.ntmps51
  go_wp2
  go_loopw [3, 14] (fun v i wr => LinkRel w t v i wr) (fun _ i _ => n - (intOf i).toNat)
  case atStart => exact ⟨0, _, _, by rw [Hn.out]; omega, rfl, HS.out.1, HS.out.2.1, HS.out.2.2⟩
  case round =>
    obtain ⟨k, P, RV, hk, rfl, hlk, hown, hnx⟩ := hrel
    by_cases hlt : k + 1 < n
    · have hlt' : k < n - 1 := by omega
      obtain ⟨b', off', x, y, e, -, Hx, hcx, hcy⟩ := (hr.below hnx).x (k := k + 1) (by rw [Hn.out]; omega)
      cases e
      rw [show off + (k + 1) * 2 = off + 2 + k * 2 by omega] at hcx hcy
      have hx := vt_to Hv.out (i := k + 1) (by omega) (by rw [Hn.out]; omega)
      obtain ⟨hp, hy1, hy9⟩ := ha.out (k + 1) (by omega) (by rw [Hn.out]; omega)
      have hy : tlg t (k + 1) = y := by unfold tlg; rw [Hx.out]
      rw [Hx.out] at hx
      simp only at hx
      subst hx
      rw [hy] at hy1 hy9
      obtain ⟨p, Hp⟩ : ∃ p, Hid (tto t (k + 1) = p) := ⟨_, rfl⟩
      rw [Hp.out] at hp hcx
      obtain ⟨d, Hd⟩ : ∃ d, Hid (dn t (k + 1) p 0 = d) := ⟨_, rfl⟩
      have hdb := dn_bd ha.out (k + 1) p 0 (by rw [Hn.out]; omega) hp (by omega)
      rw [Hd.out] at hdb
      obtain ⟨c0, c1, c2, c3, f3⟩ := hlk.cells hp
      rw [Hd.out] at c1
      obtain ⟨A', cA, rfl, hA1, hA2, hA3⟩ := own_sliceN hown
      obtain ⟨gn, rfl, hgn1, hgn2⟩ := hA3 (by omega)
      have cn : wr.cell? ⟨gn, p, none⟩ = some (.pointer (some ⟨P p, 0, none⟩)) := by
        rw [hown.cellAt p (by omega)]
        simp [ptrs, ptr, hp]
      have w1 : IntKind.i64.wrap ((k : Int) + 1) = (k : Int) + 1 := IntWalk.i64_in _ (by omega)
      have w2 : IntKind.i64.wrap (d + y) = d + y := IntWalk.i64_in _ (by omega)
      have Hown := Lib.hid hown
      have Hlk := Lib.hid hlk
      have Hnx := Lib.hid hnx
      clear hown hlk hnx hA1 hA2 hA3
      go_wp2
      clear cn c0 c2 c3 f3 hcx hcy
      obtain ⟨L, HL⟩ : ∃ L, Hid (wr.heap.size = L) := ⟨_, rfl⟩
      rw [HL.out]
      obtain ⟨wA, hA⟩ : ∃ wA, wr.alloc (.cells #[.int .i64 (p : Int), .int .i64 y] 34) = wA := ⟨_, rfl⟩
      rw [hA]
      have bA : Hid (Below wr.heap.size wr wA) := by rw [← hA]; exact (Below.refl _ _).alloc (Nat.le_refl _) _
      have vA : wA.cell? ⟨L, 1, none⟩ = some (.int .i64 y) := by rw [← hA, ← HL.out]; rw [cell_of_row _ _ _ _ _ _ (heap_alloc_new wr _)]; rfl
      have dA : wA.cell? ⟨P p, 1, none⟩ = some (.int .i64 d) := by rw [bA.out.cell (Hlk.out.lt hp)]; exact c1
      have sA : Hid (wA.heap.size = L + 1) := by show wA.heap.size = L + 1; rw [← hA, size_alloc1, HL.out]
      clear c1 hA
      go_region
      go_wp2
      clear w1 w2 dA
      obtain ⟨Q, HQ⟩ : ∃ Q, Hid (wA.heap.size = Q) := ⟨_, rfl⟩
      rw [HQ.out]
      obtain ⟨wB, hB⟩ : ∃ wB, (wA.alloc (.cells #[.int .i64 ((k : Int) + 1), .int .i64 (d + y), .pointer (some ⟨P p, 0, none⟩), .slice none 0 0] 71)).drew = wB := ⟨_, rfl⟩
      rw [hB]
      have bB : Hid (Below wA.heap.size wA wB) := by rw [← hB]; exact ((Below.refl _ _).alloc (Nat.le_refl _) _).drew
      have nB : Hid (wB.heap[Q]? = some (.cells #[.int .i64 ((k : Int) + 1), .int .i64 (d + y), .pointer (some ⟨P p, 0, none⟩), .slice none 0 0] 71 (0, 0))) := by rw [← hB, ← HQ.out]; exact heap_alloc_new wA _
      have hQL : Hid (L < Q) := by rw [← HQ.out, sA.out]; exact Nat.lt_succ_self L
      have hQL' : wr.heap.size ≤ Q := by rw [HL.out]; exact Nat.le_of_lt hQL.out
      have vB : wB.cell? ⟨L, 1, none⟩ = some (.int .i64 y) := (bB.out.cell (p := ⟨L, 1, none⟩) (by show L < wA.heap.size; rw [HQ.out]; exact hQL.out)).trans vA
      clear vA
      have Hsz1 : Hid (∀ o, w.heap.size ≤ (wB.alloc o).drew.heap.size) := fun o => by
        have : (wB.alloc o).drew.heap.size = wB.heap.size + 1 := size_alloc1 wB o
        have := Hnx.out.size; have := bA.out.size; have := bB.out.size; omega
      have q3 : wB.cell? ⟨Q, 3, none⟩ = some (.slice none 0 0) := by rw [cell_of_row _ _ _ _ _ _ nB.out]; rfl
      have q3' : ∀ o, (wB.alloc o).cell? ⟨Q, 3, none⟩ = some (.slice none 0 0) := fun o => by rw [cell_of_row _ _ _ _ _ _ ((heap_alloc_old wB o (Array.getElem?_eq_some_iff.1 nB.out).1).trans nB.out)]; rfl
      clear hB
      have hQs : Hid (Q < wB.heap.size) := (Array.getElem?_eq_some_iff.1 nB.out).1
      go_region_law (
        refine step_append_lies _ rfl (.tmp 40) (.tmp 45) 69 rfl w.heap.size 81 ib _ 2 16 Try.underlying69 hib hzb0 hzb1 hzb2 rfl (by decide) (.slice none 0 0) 0 [] ?_ (World.ownsRow_nil _ _ _ _) ⟨wB.heap.size, 0, none⟩ 1 1 [.pointer (some ⟨P p, 0, none⟩), .int .i64 y] ?_ rfl ?_ ?_ (by decide) (by decide) (by decide) ?_ _ rfl ?_
        · simp [Act.eval]
        · simp [Act.eval]
        · exact lit_two wB _ _ _
        · intro u hu; simp at hu; rcases hu with rfl | rfl <;> rfl
        · exact Hsz1.out _
        intro g cap w1 hown1 hgrow1 hat1 hlt1
        have n1 := Lib.hid (app_node hgrow1 nB.out (nilOwn Q))
        have q31 := node_c3 n1.out
        have f31 : w1.frozen? ⟨Q, 3, none⟩ = false := frozen_of_row _ _ _ _ _ n1.out
        have Hown1 := Lib.hid hown1
        have Hgrow1 := Lib.hid hgrow1
        have Hat1 := Lib.hid hat1
        have Hlt1 := Lib.hid hlt1
        clear hown1 hgrow1 hat1 hlt1)
      all_goals
        obtain ⟨bC, nC, oC, hgB, rC⟩ := link_mid ((bA.out).trans (bB.out.mono bA.out.size)) hQL' hQs.out n1.out Hown1.out Hgrow1.out Hat1.out
        have vC : (w1.setCell ⟨Q, 3, none⟩ (.slice (some ⟨g, 0, none⟩) 1 cap)).cell? ⟨L, 1, none⟩ = some (.int .i64 y) := (World.cell?_of_block (rC L (by have := hQL.out; have := hQs.out; omega) (by have := hQL.out; omega))).trans vB
        clear n1 q31 f31 rC q3 q3' Hown1 Hgrow1 Hat1 Hlt1 vB
        generalize w1.setCell ⟨Q, 3, none⟩ (.slice (some ⟨g, 0, none⟩) 1 cap) = wC at bC nC oC vC ⊢
        have BC := Lib.hid bC
        have NC := Lib.hid nC
        have OC := Lib.hid oC
        have GB := Lib.hid hgB
        clear bC nC oC hgB
        have lkC := Hlk.out.below BC.out
        obtain ⟨-, -, -, r3, rf3⟩ := lkC.cells hp
        have r3' : ∀ o, (wC.alloc o).cell? ⟨P p, 3, none⟩ = some (RV p) := fun o => by
          rw [cell_of_row _ _ _ _ _ _ ((heap_alloc_old wC o (lkC.lt hp)).trans (lkC.node p hp).2)]; rfl
        have LC := Lib.hid lkC
        clear lkC rf3
        obtain ⟨m, Hm⟩ : ∃ m, Hid ((nb t (k + 1) p).length = m) := ⟨_, rfl⟩
        have hm7 : m ≤ 7 := by have := nb_len t (k + 1) p; rw [Hm.out] at this; omega
        have hm1 : m + 1 ≤ maxLen := by unfold maxLen; omega
        have hm2 : (m + 1) * 16 ≤ 140737488355328 := by omega
        have oP := LC.out.own p hp
        rw [Hm.out] at oP
        have OP := Lib.hid oP
        have Hsz : Hid (∀ o, w.heap.size ≤ (wC.alloc o).drew.heap.size) := fun o => by
          have : (wC.alloc o).drew.heap.size = wC.heap.size + 1 := size_alloc1 wC o
          have := Hnx.out.size; have := BC.out.size; omega
        clear oP
        go_wp2
        go_region_law (
          refine step_append_lies _ rfl (.tmp 53) (.tmp 58) 69 rfl w.heap.size 81 ib _ 2 16 Try.underlying69 hib hzb0 hzb1 hzb2 rfl (by decide) (RV p) m (brv P (nb t (k + 1) p)) ?_ (OP.out.alloc _) ⟨wC.heap.size, 0, none⟩ 1 1 [.pointer (some ⟨Q, 0, none⟩), .int .i64 y] ?_ rfl ?_ ?_ (by decide) hm1 hm2 (Hsz.out _) _ rfl ?_
          · simp [Act.eval]
          · simp [Act.eval]
          · exact lit_two wC _ _ _
          · intro u hu; simp at hu; rcases hu with rfl | rfl <;> rfl
          intro g2 cap2 w2 hown2 hgrow2 hat2 hlt2
          have n2 := Lib.hid (app_node hgrow2 (LC.out.node p hp).2 (LC.out.own_node hp hp))
          have q32 := node_c3 n2.out
          have f32 : w2.frozen? ⟨P p, 3, none⟩ = false := frozen_of_row _ _ _ _ _ n2.out
          have Hown2 := Lib.hid hown2
          have Hgrow2 := Lib.hid hgrow2
          have Hat2 := Lib.hid hat2
          have Hlt2 := Lib.hid hlt2
          clear hown2 hgrow2 hat2 hlt2)
        all_goals
          have hold : ∀ i, i < k + 1 → P i < wr.heap.size := fun i hi => Hlk.out.lt hi
          have e1 : ((k + 1 : Nat) : Int) = (k : Int) + 1 := by omega
          have e2 : dn t (k + 2) (k + 1) 0 = d + y := by rw [dn_new (by omega), Hp.out, hy, Hd.out]
          have hWd := fun o => ((Below.refl wC.heap.size wC).alloc (Nat.le_refl _) o).drew
          have lkD := link_step (Q := Q) (g1 := g) ha.out (by rw [Hn.out]; exact hlt) LC.out (by rw [e1, e2]; exact NC.out) OC.out rfl (by have := Hnx.out.size; omega) (fun i hi e => by have := hold i hi; omega)
            (fun i hi e => by have := Hlk.out.own_lt hi e; have := GB.out; have := bA.out.size; have := bB.out.size; omega) (hWd _) Hp.out hy Hgrow2.out Hown2.out (by rw [Hm.out]) Hat2.out
          have onD := link_nodes (g2 := g2) (l2 := m + 1) (cap2 := cap2) LC.out hp (ownN_below Hown.out BC.out) (hWd _) Hgrow2.out
          have bD := link_below (w := w) (v := .slice (some ⟨g2, 0, none⟩) (m + 1) cap2) LC.out hp (Hnx.out.trans (BC.out.mono Hnx.out.size)) (hWd _) Hgrow2.out
          clear n2 q32 f32 r3 r3' Hown2 Hgrow2 Hat2 Hlt2 vC e1 e2 hWd hold OP Hsz
          generalize w2.setCell ⟨P p, 3, none⟩ (.slice (some ⟨g2, 0, none⟩) (m + 1) cap2) = wD at lkD onD bD ⊢
          have LD := Lib.hid lkD
          have OD := Lib.hid onD
          have BD := Lib.hid bD
          clear lkD onD bD
          have hk1 : k + 1 + 1 ≤ maxLen := by unfold maxLen; omega
          have hk2 : (k + 1 + 1) * 8 ≤ 140737488355328 := by omega
          have hsz : w.heap.size ≤ (wD.alloc (.cells #[ptr Q] 66)).heap.size := by rw [size_alloc1]; have := BD.out.size; omega
          go_wp2_with (at_builtin; refine wpList_append_lies _ rfl _ _ 67 rfl w.heap.size 66 ip _ 1 8 Try.underlying67 hip hzp0 hzp1 hzp2 rfl (by decide) _ _ _ rfl (OD.out.alloc _) ⟨wD.heap.size, 0, none⟩ 1 1 [ptr Q] rfl rfl (cell_one_new _ _ _) (by intro u hu; simp at hu; subst hu; rfl) (by decide) hk1 hk2 hsz _ rfl ?_; intro g3 cap3 w3 hown3 hgrow3 hat3 hlt3)
          have lk3 := link_list LD.out OD.out hgrow3
          have b3 := (BD.out.alloc BD.out.size _).grown hgrow3 hsz (fun g h => by have := (own_heap OD.out h).2.1; exact this)
          have hown4 : w3.ownsRow w.heap.size 66 1 (.slice (some ⟨g3, 0, none⟩) (k + 1 + 1) cap3) (k + 1 + 1) (ptrs (fun i => if i = k + 1 then Q else P i) (k + 1 + 1)) := by
            rw [ptrs_step, ptrs_congr (P := fun i => if i = k + 1 then Q else P i) (P' := P) (fun i hi => if_neg (by omega))]
            simpa using hown3
          have H4 := Lib.hid hown4
          have L4 := Lib.hid lk3
          have B4 := Lib.hid b3
          clear hown4 lk3 b3 hown3 hgrow3 hat3 hlt3
          go_wp2
          go_roundw
          case rel => exact ⟨k + 1, _, _, by rw [Hn.out]; exact hlt, by go_num, L4.out, H4.out, B4.out⟩
          case measure => simp [intOf]; omega
    · obtain ⟨A', cA, rfl, hA1, hA2, hA3⟩ := own_sliceN hown
      have hkn : k + 1 = n := by have := Hn.out; omega
      have Hown := Lib.hid hown
      have Hlk := Lib.hid hlk
      have hlt' : ¬ k < n - 1 := by omega
      clear hown hlk
      go_wp2
      go_ret
      have hn := Hn.out
      rw [← hkn] at hn
      exact ⟨_, P, RV, rfl, by rw [hn]; exact Hlk.out, by rw [hn]; exact Hown.out, hnx⟩
end Go.Proofs.Ytoohfipicmdohac
