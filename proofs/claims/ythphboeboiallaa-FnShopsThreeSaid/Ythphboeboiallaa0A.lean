/-
  Shops as mathematics: which are nearest, the shares, one more shop, the best place, rests, all lists of shops.
  Conditions: as each theorem states.
-/
import Derived.Test.YthphboeboiallaaGP
import Derived.Test.Ythphboeboiallaa0I
namespace Go.Proofs.Ythphboeboiallaa
open Go.ChangeShapes Go.WideShapes Go.ChangeAt Go.RowKit
set_option linter.unusedVariables false
set_option maxRecDepth 4000

def gpS (a b : Nat) : Nat := (a - b) + (b - a)
theorem gpS_int (a b : Nat) : gapI (a : Int) (b : Int) = ((gpS a b : Nat) : Int) := by unfold gapI gpS; split <;> omega
theorem gpS_lt {a b n : Nat} (ha : a < n) (hb : b < n) : gpS a b < n := by unfold gpS; omega
/-- Places as ints. -/
def cI (ss : List Nat) : List Int := ss.map fun s : Nat => (s : Int)
theorem cI_length (ss : List Nat) : (cI ss).length = ss.length := by simp [cI]
theorem cI_getD {ss : List Nat} {k : Nat} : (cI ss).getD k 0 = ((ss.getD k 0 : Nat) : Int) := by
  unfold cI
  by_cases h : k < ss.length
  · simp [List.getD, h]
  · simp [List.getD, List.getElem?_eq_none (show ss.length ≤ k by omega)]
theorem cI_append (a b : List Nat) : cI (a ++ b) = cI a ++ cI b := by simp [cI]
theorem cI_inj : ∀ {a b : List Nat}, cI a = cI b → a = b
  | [], [], _ => rfl
  | [], _ :: _, h => by simp [cI] at h
  | _ :: _, [], h => by simp [cI] at h
  | x :: a, y :: b, h => by
    simp only [cI, List.map_cons, List.cons.injEq] at h
    have := cI_inj (a := a) (b := b) h.2
    rw [this, show x = y by omega]
theorem getDN_mem {ss : List Nat} {k : Nat} (h : k < ss.length) : ss.getD k 0 ∈ ss := by simp [List.getD, List.getElem?_eq_getElem h]

/-- How far the nearest shop is. -/
def nrS (ss : List Nat) (h : Nat) : Nat := ss.foldr (fun s m => min (gpS s h) m) 100
theorem nrS_cons (s : Nat) (ss : List Nat) (h : Nat) : nrS (s :: ss) h = min (gpS s h) (nrS ss h) := rfl
theorem nrS_le {h : Nat} : ∀ {ss : List Nat} {s : Nat}, s ∈ ss → nrS ss h ≤ gpS s h
  | [], _, hs => by cases hs
  | t :: r, s, hs => by
    rw [nrS_cons]
    rcases List.mem_cons.1 hs with rfl | hs
    · omega
    · have := nrS_le (h := h) hs; omega
theorem nrS_at {h n : Nat} (hn : n ≤ 9) (hh : h < n) : ∀ {ss : List Nat}, ss ≠ [] → (∀ s ∈ ss, s < n) → ∃ s ∈ ss, gpS s h = nrS ss h
  | [], h0, _ => absurd rfl h0
  | [t], _, hl => ⟨t, by simp, by rw [nrS_cons]; have := gpS_lt (hl t (by simp)) hh; show _ = min _ 100; omega⟩
  | t :: u :: r, _, hl => by
    obtain ⟨s, hs, e⟩ := nrS_at (ss := u :: r) hn hh (by simp) (fun s hs => hl s (by simp at hs ⊢; exact .inr hs))
    rw [nrS_cons]
    by_cases hc : gpS t h ≤ nrS (u :: r) h
    · exact ⟨t, by simp, by omega⟩
    · exact ⟨s, List.mem_cons_of_mem _ hs, by omega⟩
theorem nrS_perm {ss tt : List Nat} (p : ss.Perm tt) (h : Nat) : nrS ss h = nrS tt h := by
  induction p with
  | nil => rfl
  | cons x _ ih => rw [nrS_cons, nrS_cons, ih]
  | swap x y l => rw [nrS_cons, nrS_cons, nrS_cons, nrS_cons]; omega
  | trans _ _ a b => exact a.trans b
/-- How many are just so far. -/
def ctS (ss : List Nat) (h d : Nat) : Nat := ss.countP fun s => gpS s h == d
/-- The part of a house that a shop at a place has. -/
def ptS (ss : List Nat) (h s : Nat) : Nat := if gpS s h = nrS ss h then 12 / ctS ss h (nrS ss h) else 0
/-- The share of a shop at a place, of the first houses. -/
def shK (ss : List Nat) (s : Nat) : Nat → Nat
  | 0 => 0
  | h + 1 => shK ss s h + ptS ss h s
def shL (n : Nat) (ss : List Nat) : List Nat := ss.map fun s => shK ss s n
theorem ptS_perm {ss tt : List Nat} (p : ss.Perm tt) (h s : Nat) : ptS ss h s = ptS tt h s := by
  unfold ptS ctS
  rw [nrS_perm p, p.countP_eq]
theorem shK_perm {ss tt : List Nat} (p : ss.Perm tt) (s : Nat) : ∀ n, shK ss s n = shK tt s n
  | 0 => rfl
  | h + 1 => by simp only [shK]; rw [shK_perm p s h, ptS_perm p]
theorem ptS_le (ss : List Nat) (h s : Nat) : ptS ss h s ≤ 12 := by
  unfold ptS
  split
  · exact Nat.div_le_self _ _
  · omega
theorem shK_le (ss : List Nat) (s : Nat) : ∀ n, shK ss s n ≤ 12 * n
  | 0 => Nat.le_refl _
  | h + 1 => by have := shK_le ss s h; have := ptS_le ss h s; simp only [shK]; omega

/-- None less than the one ahead. -/
def ascS : Nat → List Nat → Bool
  | _, [] => true
  | a, s :: r => decide (a ≤ s) && ascS s r
structure Sh (n : Nat) (ss : List Nat) : Prop where
  n1 : 1 ≤ n
  n9 : n ≤ 9
  l1 : 1 ≤ ss.length
  l4 : ss.length ≤ 4
  lt : ∀ s ∈ ss, s < n
  asc : ascS 0 ss = true
theorem Sh.ne {n : Nat} {ss : List Nat} (h : Sh n ss) : ss ≠ [] := List.length_pos_iff.1 h.l1
theorem Sh.at_ {n : Nat} {ss : List Nat} (h : Sh n ss) {k : Nat} (hk : k < ss.length) : ss.getD k 0 < n := h.lt _ (getDN_mem hk)
theorem Sh.nr_lt {n : Nat} {ss : List Nat} (h : Sh n ss) {x : Nat} (hx : x < n) : nrS ss x < n := by
  obtain ⟨s, hs, e⟩ := nrS_at h.n9 hx h.ne h.lt
  rw [← e]; exact gpS_lt (h.lt _ hs) hx

/-- The test of a street with shops. -/
def vsh (n : Int) (zs : List Int) : Bool := decide (1 ≤ n) && decide (n ≤ 9) && (decide (1 ≤ zs.length) && decide (zs.length ≤ 4) && okUp (n - 1) 0 zs)
theorem okUp_nat {u : Int} : ∀ {zs : List Int} {a : Nat}, okUp u a zs = true → ∃ ss, zs = cI ss ∧ ascS a ss = true ∧ ∀ s ∈ ss, ((s : Nat) : Int) ≤ u
  | [], _, _ => ⟨[], rfl, rfl, by simp⟩
  | z :: r, a, h => by
    simp only [okUp, Bool.and_eq_true, decide_eq_true_eq] at h
    obtain ⟨s, rfl⟩ : ∃ s : Nat, z = s := ⟨z.toNat, by omega⟩
    obtain ⟨ss, rfl, h2, h3⟩ := okUp_nat (a := s) h.2.2
    refine ⟨s :: ss, rfl, ?_, ?_⟩
    · simp only [ascS, Bool.and_eq_true, decide_eq_true_eq]; exact ⟨by omega, h2⟩
    · intro t ht
      rcases List.mem_cons.1 ht with rfl | ht
      · exact h.2.1
      · exact h3 t ht
theorem okUp_of {u : Int} : ∀ {ss : List Nat} {a : Nat}, ascS a ss = true → (∀ s ∈ ss, ((s : Nat) : Int) ≤ u) → okUp u a (cI ss) = true
  | [], _, _, _ => rfl
  | s :: r, a, h, hl => by
    simp only [ascS, Bool.and_eq_true, decide_eq_true_eq] at h
    have ih := okUp_of (u := u) (a := s) h.2 (fun t ht => hl t (List.mem_cons_of_mem _ ht))
    have h1 := hl s (by simp)
    show (decide ((a : Int) ≤ (s : Int)) && (decide ((s : Int) ≤ u) && okUp u (s : Int) (cI r))) = true
    simp only [Bool.and_eq_true, decide_eq_true_eq]
    exact ⟨by omega, h1, ih⟩
theorem vsh_get {n : Int} {zs : List Int} (h : vsh n zs = true) : ∃ N ss, n = ((N : Nat) : Int) ∧ zs = cI ss ∧ Sh N ss := by
  simp only [vsh, Bool.and_eq_true, decide_eq_true_eq] at h
  obtain ⟨N, rfl⟩ : ∃ N : Nat, n = N := ⟨n.toNat, by omega⟩
  obtain ⟨ss, rfl, h2, h3⟩ := okUp_nat (a := 0) h.2.2
  rw [cI_length] at h
  exact ⟨N, ss, rfl, rfl, by omega, by omega, h.2.1.1, h.2.1.2, fun s hs => by have := h3 s hs; omega, h2⟩
theorem Sh.vsh {n : Nat} {ss : List Nat} (h : Sh n ss) : vsh (n : Int) (cI ss) = true := by
  have h1 := h.n1
  have h2 := h.n9
  have h3 := h.l1
  have h4 := h.l4
  have h5 := okUp_of (u := (n : Int) - 1) h.asc (fun s hs => by have := h.lt s hs; omega)
  simp only [Go.Proofs.Ythphboeboiallaa.vsh, Bool.and_eq_true, decide_eq_true_eq, cI_length]
  exact ⟨⟨by omega, by omega⟩, ⟨h3, h4⟩, h5⟩

/-- All lists of shops from a place on. -/
def lstS (n : Nat) : Nat → Nat → List (List Nat)
  | 0, _ => [[]]
  | k + 1, a => (List.range' a (n - a)).flatMap fun p => (lstS n k p).map (p :: ·)
theorem lstS_mem {n : Nat} : ∀ {k a : Nat} {ss : List Nat}, ss ∈ lstS n k a ↔ ss.length = k ∧ ascS a ss = true ∧ ∀ s ∈ ss, s < n
  | 0, a, ss => by
    simp only [lstS, List.mem_singleton]
    constructor
    · rintro rfl; exact ⟨rfl, rfl, by simp⟩
    · intro h; exact List.length_eq_zero_iff.1 h.1
  | k + 1, a, ss => by
    simp only [lstS, List.mem_flatMap, List.mem_map, List.mem_range'_1]
    constructor
    · rintro ⟨p, hp, r, hr, rfl⟩
      have ih := lstS_mem.1 hr
      refine ⟨by simp [ih.1], ?_, ?_⟩
      · simp only [ascS, Bool.and_eq_true, decide_eq_true_eq]; exact ⟨hp.1, ih.2.1⟩
      · intro s hs
        rcases List.mem_cons.1 hs with rfl | hs
        · omega
        · exact ih.2.2 s hs
    · rintro ⟨h1, h2, h3⟩
      match ss, h1, h2, h3 with
      | p :: r, h1, h2, h3 =>
        simp only [ascS, Bool.and_eq_true, decide_eq_true_eq] at h2
        have hp := h3 p (by simp)
        exact ⟨p, ⟨h2.1, by omega⟩, r, lstS_mem.2 ⟨by simpa using h1, h2.2, fun s hs => h3 s (List.mem_cons_of_mem _ hs)⟩, rfl⟩
/-- A test of all lists of shops. -/
def allS (chk : Nat → List Nat → Bool) : Bool := (List.range 10).all fun n => (List.range 4).all fun k => (lstS n (k + 1) 0).all fun ss => chk n ss
theorem Sh.all {chk : Nat → List Nat → Bool} {n : Nat} {ss : List Nat} (hs : Sh n ss) (h : allS chk = true) : chk n ss = true := by
  simp only [allS, List.all_eq_true, List.mem_range] at h
  have h1 := hs.l1
  have h4 := hs.l4
  exact h n (by have := hs.n9; omega) (ss.length - 1) (by omega) ss (lstS_mem.2 ⟨by omega, hs.asc, hs.lt⟩)

/-- Where one more shop goes in. -/
def kS : List Nat → Nat → Nat
  | [], _ => 0
  | s :: r, p => if s < p then kS r p + 1 else 0
theorem kS_le : ∀ (ss : List Nat) (p : Nat), kS ss p ≤ ss.length
  | [], _ => Nat.le_refl _
  | s :: r, p => by have := kS_le r p; simp only [kS]; split <;> simp <;> omega
def insS (ss : List Nat) (p : Nat) : List Nat := ss.take (kS ss p) ++ p :: ss.drop (kS ss p)
theorem insS_perm (ss : List Nat) (p : Nat) : (insS ss p).Perm (ss ++ [p]) := by
  unfold insS
  have h1 : (ss.take (kS ss p) ++ p :: ss.drop (kS ss p)).Perm (p :: (ss.take (kS ss p) ++ ss.drop (kS ss p))) := List.perm_middle
  rw [List.take_append_drop] at h1
  exact h1.trans (by simpa using (List.perm_append_comm (l₁ := [p]) (l₂ := ss)))
theorem insS_length (ss : List Nat) (p : Nat) : (insS ss p).length = ss.length + 1 := by rw [(insS_perm ss p).length_eq]; simp
theorem insS_at (ss : List Nat) (p : Nat) : (insS ss p).getD (kS ss p) 0 = p := by
  have := kS_le ss p
  unfold insS
  simp [List.getD, show min (kS ss p) ss.length = kS ss p by omega]
/-- The share of one more shop. -/
def adS (n : Nat) (ss : List Nat) (p : Nat) : Nat := shK (insS ss p) p n
theorem adS_end (n : Nat) (ss : List Nat) (p : Nat) : shK (ss ++ [p]) p n = adS n ss p := (shK_perm (insS_perm ss p) p n).symm
theorem adS_le (n : Nat) (ss : List Nat) (p : Nat) : adS n ss p ≤ 12 * n := shK_le _ _ _
/-- The first place with the greatest value. -/
def bpK (f : Nat → Nat) : Nat → Nat
  | 0 => 0
  | k + 1 => if f (bpK f k) < f k then k else bpK f k
theorem bpK_lt (f : Nat → Nat) : ∀ {k : Nat}, 0 < k → bpK f k < k
  | 1, _ => by simp [bpK]
  | k + 2, _ => by have := bpK_lt f (k := k + 1) (by omega); rw [bpK]; split <;> omega
theorem bpK_max (f : Nat → Nat) : ∀ {k p : Nat}, p < k → f p ≤ f (bpK f k)
  | k + 1, p, h => by
    rw [bpK]
    by_cases e : p = k
    · subst e; split <;> omega
    · have := bpK_max f (k := k) (p := p) (by omega); split <;> omega
theorem bpK_one (f : Nat → Nat) : bpK f 1 = 0 := by simp [bpK]
def bpS (n : Nat) (ss : List Nat) : Nat := bpK (adS n ss) n
theorem bpS_lt {n : Nat} (ss : List Nat) (h : 1 ≤ n) : bpS n ss < n := bpK_lt _ h

/-- The others. -/
def otS (ss : List Nat) (i : Nat) : List Nat := ss.take i ++ ss.drop (i + 1)
theorem otS_length {ss : List Nat} {i : Nat} (h : i < ss.length) : (otS ss i).length = ss.length - 1 := by unfold otS; simp; omega
def rstI (n : Nat) (ss : List Nat) (i : Nat) : Bool := (List.range n).all fun p => decide (adS n (otS ss i) p ≤ shK ss (ss.getD i 0) n)
theorem rstI_best {n : Nat} (ss : List Nat) (i : Nat) (h : 1 ≤ n) : rstI n ss i = decide (adS n (otS ss i) (bpS n (otS ss i)) ≤ shK ss (ss.getD i 0) n) := by
  rw [Bool.eq_iff_iff]
  simp only [rstI, List.all_eq_true, List.mem_range, decide_eq_true_eq]
  constructor
  · intro hp; exact hp _ (bpS_lt _ h)
  · intro hm p hp; exact Nat.le_trans (bpK_max _ hp) hm
def rstS (n : Nat) (ss : List Nat) : Bool := (List.range ss.length).all (rstI n ss)
theorem rstS_no {n : Nat} {ss : List Nat} {i : Nat} (hi : i < ss.length) (h : rstI n ss i = false) : rstS n ss = false := by
  rw [Bool.eq_false_iff]
  intro hc
  simp only [rstS, List.all_eq_true, List.mem_range] at hc
  rw [hc i hi] at h
  cases h
theorem rstS_yes {n : Nat} {ss : List Nat} (h : ∀ i, i < ss.length → rstI n ss i = true) : rstS n ss = true := by
  simp only [rstS, List.all_eq_true, List.mem_range]; exact h
def rsS (n k : Nat) : List (List Nat) := (lstS n k 0).filter (rstS n)
end Go.Proofs.Ythphboeboiallaa
