/-
  Plain mathematics of chapter 11: each place once, all lists of them, put in among others in order; the best ones of them are the model's.
  Conditions: none beyond what each theorem states.
-/
import Derived.Test.Ythphboeboiallab1C
import Derived.Test.Ythphboeboiallab1L
namespace Go.Proofs.Ythphboeboiallab
open Go.RowKit
set_option linter.unusedVariables false

/-- Each place once: those are left out that are as the one ahead. -/
def cmF : Option Int → List Int → List Int
  | _, [] => []
  | p, a :: r => if p = some a then cmF p r else a :: cmF (some a) r
theorem cmF_mem : ∀ {p : Option Int} {zs : List Int} {u : Int}, u ∈ cmF p zs → u ∈ zs
  | p, [], u, h => by simp [cmF] at h
  | p, a :: r, u, h => by
    rw [cmF] at h
    split at h
    · exact List.mem_cons_of_mem _ (cmF_mem h)
    · rcases List.mem_cons.1 h with rfl | h
      · simp
      · exact List.mem_cons_of_mem _ (cmF_mem h)
theorem cmF_len : ∀ (p : Option Int) (zs : List Int), (cmF p zs).length ≤ zs.length
  | p, [] => by simp [cmF]
  | p, a :: r => by
    rw [cmF]
    split
    · have := cmF_len p r; simp only [List.length_cons]; omega
    · have := cmF_len (some a) r; simp only [List.length_cons]; omega
theorem cmF_head (a : Int) (r : List Int) : cmF none (a :: r) = a :: cmF (some a) r := by rw [cmF, if_neg (by simp)]
theorem cmF_ne {zs : List Int} (h : 1 ≤ zs.length) : 1 ≤ (cmF none zs).length := by
  match zs, h with
  | a :: r, _ => rw [cmF_head]; simp
/-- The model's walk over the places from one on, those left out that are as the one ahead. -/
def spW (g : List Int → List (List Int)) : Option Int → List Int → List (List Int)
  | _, [] => []
  | p, a :: r => (if p = some a then [] else (g (a :: r)).map (a :: ·)) ++ spW g (some a) r
theorem spW_cm (g : List Int → List (List Int)) : ∀ (p : Option Int) (zs : List Int), spW (fun s => g (cmF none s)) p zs = loP g (cmF p zs) (cmF p zs).length
  | p, [] => rfl
  | p, a :: r => by
    have e : cmF p (a :: r) = if p = some a then cmF p r else a :: cmF (some a) r := by rw [cmF]
    rw [spW, spW_cm g (some a) r, e]
    by_cases h : p = some a
    · subst h; rw [if_pos rfl, if_pos rfl, List.nil_append]
    · rw [if_neg h, if_neg h, List.length_cons, loP_cons, cmF_head]
theorem spL_walk (zs : List Int) (k i : Nat) (g : List Int → List (List Int)) (hg : ∀ j, j ≤ zs.length → spL zs k j = g (zs.drop j)) : ∀ (m j : Nat), j + m = zs.length → i ≤ j →
    ((List.range' j m).flatMap fun j => if skB zs i j = true then [] else (spL zs k j).map (zs.getD j 0 :: ·)) = spW g (if i < j then some (zs.getD (j - 1) 0) else none) (zs.drop j)
  | 0, j, hm, hj => by
    rw [List.drop_of_length_le (by omega)]
    rfl
  | m + 1, j, hm, hj => by
    have hlt : j < zs.length := by omega
    have e : zs.drop j = zs.getD j 0 :: zs.drop (j + 1) := by
      rw [List.drop_eq_getElem_cons hlt]
      simp [List.getD, hlt]
    rw [List.range'_succ, List.flatMap_cons, spL_walk zs k i g hg m (j + 1) (by omega) (by omega), hg j (by omega), e, spW, if_pos (show i < j + 1 by omega), Nat.add_sub_cancel]
    congr 1
    unfold skB
    by_cases h1 : i < j
    · by_cases h2 : zs.getD j 0 = zs.getD (j - 1) 0
      · rw [if_pos (by rw [decide_eq_true h1, decide_eq_true h2]; rfl), if_pos h1, if_pos (by rw [h2])]
      · rw [if_neg (by simp only [h1, decide_true, Bool.true_and, decide_eq_true_eq]; exact h2), if_pos h1, if_neg (by simp only [Option.some.injEq]; exact fun h => h2 h.symm), ← e]
    · rw [if_neg (by simp [h1]), if_neg h1, if_neg (by simp), ← e]
/-- The model's lists are those of each place once. -/
theorem spL_lo (zs : List Int) : ∀ (k i : Nat), i ≤ zs.length → spL zs k i = loL k (cmF none (zs.drop i))
  | 0, i, _ => rfl
  | k + 1, i, hi => by
    have h := spL_walk zs k i (fun s => loL k (cmF none s)) (fun j hj => spL_lo zs k j hj) (zs.length - i) i (by omega) (Nat.le_refl _)
    rw [if_neg (by omega), spW_cm] at h
    rw [spL, h]
    rfl
/-- The least ones first. -/
def srt (l : List Int) : List Int := l.mergeSort fun x y => decide (x ≤ y)
theorem srt_perm (l : List Int) : (srt l).Perm l := List.mergeSort_perm l _
theorem srt_len (l : List Int) : (srt l).length = l.length := (srt_perm l).length_eq
theorem ascB_of_pair : ∀ {l : List Int}, l.Pairwise (fun x y => decide (x ≤ y) = true) → ascB l
  | [], _ => trivial
  | a :: r, h => by
    obtain ⟨h1, h2⟩ := List.pairwise_cons.1 h
    exact ascB_cons (fun u hu => of_decide_eq_true (h1 u hu)) (ascB_of_pair h2)
theorem srt_asc (l : List Int) : ascB (srt l) := ascB_of_pair (List.pairwise_mergeSort (fun a b c h1 h2 => by simp only [decide_eq_true_eq] at *; omega) (fun a b => by simp only [Bool.or_eq_true, decide_eq_true_eq]; omega) l)
theorem asc_one : ∀ {a b : List Int}, ascB a → ascB b → a.Perm b → a = b
  | [], b, _, _, p => by rw [List.nil_perm.1 p]
  | x :: a, [], _, _, p => by have := p.length_eq; simp at this
  | x :: a, y :: b, h1, h2, p => by
    obtain ⟨h3, h4⟩ := ascB_tail h1
    obtain ⟨h5, h6⟩ := ascB_tail h2
    have e : x = y := by
      have hx : x ∈ y :: b := p.mem_iff.1 (by simp)
      have hy : y ∈ x :: a := p.mem_iff.2 (by simp)
      rcases List.mem_cons.1 hx with e | hx
      · exact e
      · rcases List.mem_cons.1 hy with e | hy
        · exact e.symm
        · have := h4 y hy; have := h6 x hx; omega
    subst e
    rw [asc_one h3 h5 ((List.perm_cons x).1 p)]
theorem srt_id {l : List Int} (h : ascB l) : srt l = l := asc_one (srt_asc l) h (srt_perm l)
theorem srt_snoc {l : List Int} (h : ascB l) (t : Int) : srt (l ++ [t]) = wsI l t :=
  asc_one (srt_asc _) (wsI_asc t h) ((srt_perm _).trans (List.perm_append_comm.trans (wsI_perm t l).symm))
/-- What the program tries: lists of more places put in among those that are there. -/
def tryL (zs ss : List Int) (k : Nat) : List (List Int) := (loL k (cmF none zs)).map fun r => srt (ss ++ r)
/-- The best one of them. -/
def bwL (f : List Int → Nat) (zs ss : List Int) (k : Nat) : List Int := bsF f ((tryL zs ss k).headD []) ((tryL zs ss k).tail)
theorem bwL_best (f : List Int → Nat) {zs : List Int} (hz : ascB zs) (k : Nat) : bwL f zs [] k = bstL f zs k := by
  have e : tryL zs [] k = spL zs k 0 := by
    rw [spL_lo zs k 0 (Nat.zero_le _), List.drop_zero]
    unfold tryL
    refine (List.map_congr_left fun r hr => ?_).trans (List.map_id _)
    have : ascB r := spL_asc hz (k := k) (i := 0) (by rw [spL_lo zs k 0 (Nat.zero_le _), List.drop_zero]; exact hr)
    rw [List.nil_append, srt_id this]
    rfl
  unfold bwL bstL
  rw [e]
theorem bsF_skip (f : List Int → Nat) (h : Int → List Int) : ∀ (r : List Int) (b : List Int) (p : Option Int), (∀ a, p = some a → f (h a) ≤ f b) → bsF f b (r.map h) = bsF f b ((cmF p r).map h)
  | [], b, p, _ => rfl
  | x :: r, b, p, hp => by
    rw [List.map_cons, bsF, cmF]
    by_cases e : p = some x
    · rw [if_pos e, if_neg (by have := hp x e; omega)]
      exact bsF_skip f h r b p hp
    · rw [if_neg e, List.map_cons, bsF]
      refine bsF_skip f h r _ (some x) fun a ha => ?_
      injection ha with ha
      subst ha
      split <;> omega
theorem bwL_next (f : List Int → Nat) {zs ss : List Int} (hs : ascB ss) (h1 : 1 ≤ zs.length) : bwL f zs ss 1 = nxL f zs ss := by
  have e : tryL zs ss 1 = (cmF none zs).map (wsI ss) := by
    unfold tryL
    rw [loL_one, List.map_map]
    exact List.map_congr_left fun t _ => srt_snoc hs t
  unfold bwL nxL
  rw [e]
  match zs, h1 with
  | a :: r, _ =>
    rw [cmF_head]
    simp only [List.map_cons, List.headD_cons, List.tail_cons, List.getD_cons_zero]
    refine (bsF_skip f (wsI ss) r _ (some a) fun b hb => ?_).symm
    injection hb with hb
    rw [hb]
    exact Nat.le_refl _
/-- The program's greedy walk. -/
def gwL (f : List Int → Nat) (zs : List Int) : Nat → List Int
  | 0 => []
  | k + 1 => bwL f zs (gwL f zs k) 1
theorem gwL_gd (f : List Int → Nat) {zs : List Int} (h1 : 1 ≤ zs.length) : ∀ k, gwL f zs k = gdL f zs k
  | 0 => rfl
  | k + 1 => by
    rw [gwL, gwL_gd f h1 k, gdL]
    exact bwL_next f (gdL_asc f h1 k).1 h1
/-- The best one of the first j. -/
def bsP (f : List Int → Nat) (L : List (List Int)) (j : Nat) : List Int := bsF f (L.headD []) ((L.take j).tail)
theorem bsP_one (f : List Int → Nat) {L : List (List Int)} (h : 1 ≤ L.length) : bsP f L 1 = L.getD 0 [] := by
  match L, h with
  | a :: r, _ => simp [bsP, bsF]
theorem bsP_succ (f : List Int → Nat) {L : List (List Int)} {j : Nat} (h0 : 1 ≤ j) (h : j < L.length) : bsP f L (j + 1) = if f (bsP f L j) < f (L.getD j []) then L.getD j [] else bsP f L j := by
  unfold bsP
  have e : (L.take (j + 1)).tail = (L.take j).tail ++ [L.getD j []] := by
    rw [List.take_add_one, List.tail_append_of_ne_nil (by
      intro he
      have := congrArg List.length he
      rw [List.length_take, List.length_nil] at this
      omega)]
    simp [List.getD, h]
  rw [e, bsF_snoc]
theorem bsP_all (f : List Int → Nat) (L : List (List Int)) : bsP f L L.length = bsF f (L.headD []) L.tail := by
  unfold bsP
  rw [List.take_length]
theorem bsP_mem (f : List Int → Nat) {L : List (List Int)} {j : Nat} (h : 1 ≤ L.length) : bsP f L j ∈ L := by
  unfold bsP
  match L, h with
  | a :: r, _ =>
    rw [List.headD_cons]
    have := bsF_mem f a ((List.take j (a :: r)).tail)
    rcases List.mem_cons.1 this with e | e
    · rw [e]; simp
    · exact List.mem_of_mem_take (List.mem_of_mem_tail e)
end Go.Proofs.Ythphboeboiallab
