/-
  Words for slices of roads: two cells an element, To and Long.
  Conditions: none beyond what each theorem states.
  Nets: what their tables of shortest ways have; trees as nets.
  Conditions: as each theorem states.
  Lists of lists of ints in memory.
  Conditions: none beyond what each theorem states.
  Lists of lists of ints in memory; all choices of so many numbers, as a list.
  Conditions: none beyond what each theorem states.
  The model's choices are the ascending lists; what NetFar answers over them.
  Conditions: as each theorem states.
  What chapter 3's functions answer, as numbers, and what the program's functions must answer, as propositions; the facts on them.
  Conditions: at most 2^20 streets in each function's contract.
  Grids of at most seven cells are nets: a street between each two cells beside each other.
  Conditions: at most seven cells.
  The small functions of chapter 3: a way shorter than another, two ways joined, a row's way made shorter, a node's number.
  Conditions: as each theorem states.
  The program's shorten at a table's entry, and addStreet: all rows made shorter by one street.
  Conditions: as each theorem states.
-/
import Derived.Test.YtkgomgfhhhdnjaaZ0
import Derived.Test.YtkgomgfhhhdnjaaZ4
import Derived.Test.YtkgomgfhhhdnjaaZ1
import Derived.Test.YtkgomgfhhhdnjaaZ2
import Derived.Test.YtkgomgfhhhdnjaaZ3
import Derived.Test.YtkgomgfhhhdnjaaZ7
import Derived.Below
import Derived.Deep.AppendLies
import Derived.Maps.AppendAt
namespace Go.Proofs.Ytkgomgfhhhdnjaa
open Go.ChangeShapes Go.WideShapes Go.ChangeAt Go.RowKit
set_option linter.unusedVariables false

/-- The roads as the cells hold them. -/
def flat : List (Int × Int) → List Int
  | [] => []
  | p :: r => p.1 :: p.2 :: flat r
theorem flat_len : ∀ ts, (flat ts).length = ts.length * 2
  | [] => rfl
  | p :: r => by simp only [flat, List.length_cons, flat_len r]; omega
theorem flat_to : ∀ (ts : List (Int × Int)) k, k < ts.length → (flat ts).getD (k * 2) 0 = (ts.getD k (-1, 0)).1
  | [], k, h => by simp at h
  | p :: r, 0, h => rfl
  | p :: r, k + 1, h => by
    rw [show (k + 1) * 2 = k * 2 + 1 + 1 by omega]
    simp only [flat, List.getD_cons_succ]
    exact flat_to r k (by simpa using h)
theorem flat_long : ∀ (ts : List (Int × Int)) k, k < ts.length → (flat ts).getD (k * 2 + 1) 0 = (ts.getD k (-1, 0)).2
  | [], k, h => by simp at h
  | p :: r, 0, h => rfl
  | p :: r, k + 1, h => by
    rw [show (k + 1) * 2 + 1 = k * 2 + 1 + 1 + 1 by omega]
    simp only [flat, List.getD_cons_succ]
    exact flat_long r k (by simpa using h)
theorem flat_append : ∀ a b, flat (a ++ b) = flat a ++ flat b
  | [], b => rfl
  | p :: r, b => by simp [flat, flat_append r b]
theorem flat_set0 : ∀ (ts : List (Int × Int)) (k : Nat) {d : Int}, k < ts.length → flat (ts.set k (d, (ts.getD k (-1, 0)).2)) = (flat ts).set (k * 2) d
  | [], k, _, h => by simp at h
  | p :: r, 0, _, h => rfl
  | p :: r, k + 1, d, h => by
    rw [show (k + 1) * 2 = k * 2 + 1 + 1 by omega]
    simp only [List.set_cons_succ, flat, List.getD_cons_succ]
    rw [flat_set0 r k (by simpa using h)]
theorem flat_set1 : ∀ (ts : List (Int × Int)) (k : Nat) {d : Int}, k < ts.length → flat (ts.set k ((ts.getD k (-1, 0)).1, d)) = (flat ts).set (k * 2 + 1) d
  | [], k, _, h => by simp at h
  | p :: r, 0, _, h => rfl
  | p :: r, k + 1, d, h => by
    rw [show (k + 1) * 2 + 1 = k * 2 + 1 + 1 + 1 by omega]
    simp only [List.set_cons_succ, flat, List.getD_cons_succ]
    rw [flat_set1 r k (by simpa using h)]
/-- The slice with address A reads as the roads ts, below block B. -/
def RdR (w : World) (B : Nat) (A : Option Addr) (ts : List (Int × Int)) : Prop := RdI w B A (flat ts)
theorem RdR.x {w : World} {B : Nat} {A : Option Addr} {ts : List (Int × Int)} (h : RdR w B A ts) {k : Nat} (hk : k < ts.length) :
    ∃ b off x y, A = some ⟨b, off, none⟩ ∧ b < B ∧ Hid (ts.getD k (-1, 0) = (x, y)) ∧ w.cell? ⟨b, off + k * 2, none⟩ = some (.int .i64 x) ∧ w.cell? ⟨b, off + k * 2 + 1, none⟩ = some (.int .i64 y) := by
  have hl := flat_len ts
  obtain ⟨b, off, e, hb, hc⟩ := h (by omega)
  refine ⟨b, off, (ts.getD k (-1, 0)).1, (ts.getD k (-1, 0)).2, e, hb, rfl, ?_, ?_⟩
  · rw [hc _ (by omega), flat_to _ _ hk]
  · rw [Nat.add_assoc, hc _ (by omega), flat_long _ _ hk]
theorem RdR.keep {w w' : World} {B : Nat} {A : Option Addr} {ts : List (Int × Int)} (h : RdR w B A ts) (hk : ∀ p : Addr, p.block < B → w'.cell? p = w.cell? p) : RdR w' B A ts := RdI.keep h hk
theorem RdR.below {w w' : World} {B : Nat} {A : Option Addr} {ts : List (Int × Int)} (h : RdR w B A ts) (hb : Below B w w') : RdR w' B A ts := RdI.below h hb
theorem RdR.more {w : World} {B B' : Nat} {A : Option Addr} {ts : List (Int × Int)} (h : RdR w B A ts) (hB : B ≤ B') : RdR w B' A ts := RdI.more h hB
theorem RdR.drewN {w : World} {B : Nat} {A : Option Addr} {ts : List (Int × Int)} (h : RdR w B A ts) (n : Nat) : RdR (w.drewN n) B A ts := h
theorem RdR.nil (w : World) (B : Nat) (A : Option Addr) : RdR w B A [] := RdI.nil w B A
/-- A slice cut at its front. -/
theorem flat_drop : ∀ (ts : List (Int × Int)) k, flat (ts.drop k) = (flat ts).drop (k * 2)
  | [], k => by simp [flat]
  | p :: r, 0 => by simp
  | p :: r, k + 1 => by
    rw [List.drop_succ_cons, flat_drop r k, show (k + 1) * 2 = k * 2 + 1 + 1 by omega]
    simp [flat]
theorem flat_take : ∀ (ts : List (Int × Int)) k, flat (ts.take k) = (flat ts).take (k * 2)
  | [], k => by simp [flat]
  | p :: r, 0 => by simp [flat]
  | p :: r, k + 1 => by
    rw [show (k + 1) * 2 = k * 2 + 1 + 1 by omega]
    simp [flat, flat_take r k]
theorem RdR.take {w : World} {B : Nat} {A : Option Addr} {ts : List (Int × Int)} (h : RdR w B A ts) (k : Nat) : RdR w B A (ts.take k) := by
  intro hp
  rw [flat_take] at hp ⊢
  rw [List.length_take] at hp
  obtain ⟨b, off, e, hb, hc⟩ := h (by omega)
  refine ⟨b, off, e, hb, fun i hi => ?_⟩
  rw [List.length_take] at hi
  rw [hc i (by omega)]
  congr 2
  simp only [List.getD, List.getElem?_take]
  rw [if_pos (by omega)]

/-- One road of a node: to a node ahead, its length in 1..9. -/
def okRoad (i : Nat) (p : Int × Int) : Bool := decide (0 ≤ p.1) && (decide (p.1 < i) && (decide (1 ≤ p.2) && decide (p.2 ≤ 9)))
def okFromT : Nat → List (Int × Int) → Bool
  | _, [] => true
  | i, p :: r => okRoad i p && okFromT (i + 1) r
/-- ValidTree. -/
def vt (ts : List (Int × Int)) : Bool := decide (ts.length ≤ 7) && (match ts with | [] => false | p :: r => (decide (p.1 = -1) && decide (p.2 = 0)) && okFromT 1 r)
theorem okFromT_get : ∀ {r : List (Int × Int)} {i : Nat}, okFromT i r = true → ∀ k, k < r.length → okRoad (i + k) (r.getD k (-1, 0)) = true
  | [], _, _, k, hk => by simp at hk
  | p :: r, i, h, 0, hk => by simp only [okFromT, Bool.and_eq_true] at h; exact h.1
  | p :: r, i, h, k + 1, hk => by
    simp only [okFromT, Bool.and_eq_true] at h
    have := okFromT_get h.2 k (by simpa using hk)
    rw [show i + 1 + k = i + (k + 1) by omega] at this
    exact this
theorem okFromT_of : ∀ {r : List (Int × Int)} {i : Nat}, (∀ k, k < r.length → okRoad (i + k) (r.getD k (-1, 0)) = true) → okFromT i r = true
  | [], _, _ => rfl
  | p :: r, i, h => by
    simp only [okFromT, Bool.and_eq_true]
    refine ⟨h 0 (by simp), okFromT_of fun k hk => ?_⟩
    have := h (k + 1) (by simpa using hk)
    rw [show i + (k + 1) = i + 1 + k by omega] at this
    exact this
theorem vt_iff (ts : List (Int × Int)) : vt ts = true ↔ 1 ≤ ts.length ∧ ts.length ≤ 7 ∧ (ts.getD 0 (-1, 0)).1 = -1 ∧ (ts.getD 0 (-1, 0)).2 = 0 ∧ ∀ k, 1 ≤ k → k < ts.length → okRoad k (ts.getD k (-1, 0)) = true := by
  cases ts with
  | nil => simp [vt]
  | cons p r =>
    simp only [vt, Bool.and_eq_true, decide_eq_true_eq, List.length_cons, List.getD_cons_zero]
    constructor
    · rintro ⟨h1, ⟨h2, h3⟩, h4⟩
      refine ⟨by omega, h1, h2, h3, fun k hk hl => ?_⟩
      obtain ⟨m, rfl⟩ : ∃ m, k = m + 1 := ⟨k - 1, by omega⟩
      have := okFromT_get h4 m (by omega)
      rw [show 1 + m = m + 1 by omega] at this
      simpa using this
    · rintro ⟨h0, h1, h2, h3, h4⟩
      refine ⟨h1, ⟨h2, h3⟩, okFromT_of fun k hk => ?_⟩
      have := h4 (k + 1) (by omega) (by omega)
      rw [show 1 + k = k + 1 by omega]
      simpa using this
theorem vt_ahead {ts : List (Int × Int)} (h : vt ts = true) : Ahead ts := by
  obtain ⟨h1, h2, h3, h4, h5⟩ := (vt_iff ts).1 h
  intro i hi hl
  have := h5 i hi hl
  simp only [okRoad, Bool.and_eq_true, decide_eq_true_eq] at this
  unfold tto tlg
  omega
theorem vt_to {ts : List (Int × Int)} (h : vt ts = true) {i : Nat} (hi : 1 ≤ i) (hl : i < ts.length) : (ts.getD i (-1, 0)).1 = tto ts i := by
  obtain ⟨h1, h2, h3, h4, h5⟩ := (vt_iff ts).1 h
  have := h5 i hi hl
  simp only [okRoad, Bool.and_eq_true, decide_eq_true_eq] at this
  unfold tto
  omega
/-- Fewer nodes are a tree. -/
theorem vt_take {ts : List (Int × Int)} (h : vt ts = true) {k : Nat} (hk : 1 ≤ k) : vt (ts.take k) = true := by
  obtain ⟨h1, h2, h3, h4, h5⟩ := (vt_iff ts).1 h
  have hg : ∀ i, i < k → (ts.take k).getD i (-1, 0) = ts.getD i (-1, 0) := fun i hi => by
    simp only [List.getD, List.getElem?_take]; rw [if_pos hi]
  rw [vt_iff]
  rw [List.length_take, hg 0 (by omega)]
  refine ⟨by omega, by omega, h3, h4, fun i hi hl => ?_⟩
  rw [hg i (by omega)]
  exact h5 i hi (by omega)
theorem vt_no_len {ts : List (Int × Int)} (h : ts.length < 1 ∨ 7 < ts.length) : vt ts = false := by
  rw [Bool.eq_false_iff]; intro h'
  obtain ⟨h1, h2, -⟩ := (vt_iff ts).1 h'
  omega
theorem vt_no_head {ts : List (Int × Int)} {x y : Int} (hx : ts.getD 0 (-1, 0) = (x, y)) (h : x ≠ -1 ∨ y ≠ 0) : vt ts = false := by
  rw [Bool.eq_false_iff]; intro h'
  obtain ⟨h1, h2, h3, h4, -⟩ := (vt_iff ts).1 h'
  rw [hx] at h3 h4
  simp only at h3 h4
  omega
theorem vt_no_at {ts : List (Int × Int)} {k : Nat} {x y : Int} (hk : 1 ≤ k) (hl : k < ts.length) (hx : ts.getD k (-1, 0) = (x, y)) (h : x < 0 ∨ (k : Int) ≤ x ∨ y < 1 ∨ 9 < y) : vt ts = false := by
  rw [Bool.eq_false_iff]; intro h'
  obtain ⟨h1, h2, h3, h4, h5⟩ := (vt_iff ts).1 h'
  have := h5 k hk hl
  rw [hx] at this
  simp only [okRoad, Bool.and_eq_true, decide_eq_true_eq] at this
  omega
/-- So far, all roads are fine. -/
def OkT (ts : List (Int × Int)) (k : Nat) : Prop := ∀ i, 1 ≤ i → i < k → okRoad i (ts.getD i (-1, 0)) = true
theorem OkT.step {ts : List (Int × Int)} {k : Nat} {x y : Int} (h : OkT ts k) (hx : ts.getD k (-1, 0) = (x, y)) (h1 : 0 ≤ x) (h2 : x < k) (h3 : 1 ≤ y) (h4 : y ≤ 9) : OkT ts (k + 1) := fun i hi hl => by
  by_cases e : i = k
  · subst e; rw [hx]; simp [okRoad, h1, h2, h3, h4]
  · exact h i hi (by omega)
theorem OkT.one (ts : List (Int × Int)) : OkT ts 1 := fun i h1 h2 => by omega
theorem OkT.step0 {ts : List (Int × Int)} (h : OkT ts 0) : OkT ts 1 := OkT.one ts
theorem vt_yes {ts : List (Int × Int)} {k : Nat} (h : OkT ts k) (h1 : 1 ≤ ts.length) (h7 : ts.length ≤ 7) (hk : ts.length ≤ k) (h0 : ts.getD 0 (-1, 0) = (-1, 0)) : vt ts = true :=
  (vt_iff ts).2 ⟨h1, h7, by rw [h0], by rw [h0], fun i hi hl => h i hi (by omega)⟩
end Go.Proofs.Ytkgomgfhhhdnjaa
namespace Go.Proofs.Ytkgomgfhhhdnjaa
open Go.ChangeShapes Go.WideShapes Go.ChangeAt Go.RowKit
set_option linter.unusedVariables false

theorem wk_pos {E : Nat → Nat → Int → Prop} {n a b : Nat} {x : Int} (hE : ∀ u v L, E u v L → 1 ≤ L) (h : Wk E n a b x) : (x = 0 ∧ a = b) ∨ 1 ≤ x := by
  induction h with
  | nil ha => exact .inl ⟨rfl, rfl⟩
  | snoc u v x L h1 h2 h3 ih =>
    have := hE u v L h2
    right
    omega
theorem Wk.mono {E E' : Nat → Nat → Int → Prop} {n a b : Nat} {x : Int} (hE : ∀ u v L, E u v L → E' u v L) (h : Wk E n a b x) : Wk E' n a b x := by
  induction h with
  | nil ha => exact Wk.nil ha
  | snoc u v x L h1 h2 h3 ih => exact Wk.snoc u v x L ih (hE u v L h2) h3
theorem sht_met {n : Nat} {ss : List Str} (hv : vnet n ss = true) : Met (sht n ss) n := by
  obtain ⟨h1, h2⟩ := sht_spec hv
  refine ⟨h1.zero, fun a b ha hb => h1.symm (fun u v L h => h.symm) ha hb, fun a b ha hb hne => ?_, fun a b c ha hb hc h3 h4 => h1.tri ha hb hc h3 h4, h2⟩
  rcases h1.way a b ha hb with h | ⟨h, hw⟩
  · omega
  · rcases wk_pos (fun u v L h => (SE.pos hv h).1) hw with ⟨_, e⟩ | h5
    · exact absurd e hne
    · omega

/-- A tree's roads as streets. -/
def strOf (ts : List (Int × Int)) : List Str := (List.range (ts.length - 1)).map fun i => (((i + 1 : Nat) : Int), (ts.getD (i + 1) (-1, 0)).1, (ts.getD (i + 1) (-1, 0)).2)
theorem strOf_len (ts : List (Int × Int)) : (strOf ts).length = ts.length - 1 := by simp [strOf]
theorem strOf_mem {ts : List (Int × Int)} {p : Str} : p ∈ strOf ts ↔ ∃ i, 1 ≤ i ∧ i < ts.length ∧ p = ((i : Int), (ts.getD i (-1, 0)).1, (ts.getD i (-1, 0)).2) := by
  unfold strOf
  rw [List.mem_map]
  constructor
  · rintro ⟨i, hi, rfl⟩
    have := List.mem_range.1 hi
    exact ⟨i + 1, by omega, by omega, rfl⟩
  · rintro ⟨i, h1, h2, rfl⟩
    obtain ⟨j, rfl⟩ : ∃ j, i = j + 1 := ⟨i - 1, by omega⟩
    exact ⟨j, List.mem_range.2 (by omega), rfl⟩
theorem strOf_step {ts : List (Int × Int)} {k : Nat} (hk : 1 ≤ k) (hl : k < ts.length) : strOf (ts.take (k + 1)) = strOf (ts.take k) ++ [((k : Int), (ts.getD k (-1, 0)).1, (ts.getD k (-1, 0)).2)] := by
  have g : ∀ m i, i < m → (ts.take m).getD i (-1, 0) = ts.getD i (-1, 0) := fun m i hi => by
    simp only [List.getD, List.getElem?_take]; rw [if_pos hi]
  unfold strOf
  rw [List.length_take, List.length_take, show min (k + 1) ts.length - 1 = (k - 1) + 1 by omega, show min k ts.length - 1 = k - 1 by omega, List.range_succ, List.map_append]
  congr 1
  · apply List.map_congr_left
    intro i hi
    have := List.mem_range.1 hi
    rw [g _ _ (by omega), g _ _ (by omega)]
  · simp only [List.map_cons, List.map_nil]
    rw [show k - 1 + 1 = k by omega, g _ _ (by omega)]
theorem strOf_net {ts : List (Int × Int)} (hv : vt ts = true) : vnet ts.length (strOf ts) = true := by
  obtain ⟨h1, h7, h3, h4, h5⟩ := (vt_iff ts).1 hv
  refine (vnet_iff _ _).2 ⟨by omega, by rw [strOf_len]; omega, fun p hp => ?_⟩
  obtain ⟨i, hi, hl, rfl⟩ := strOf_mem.1 hp
  have := h5 i hi hl
  simp only [okRoad, Bool.and_eq_true, decide_eq_true_eq] at this
  unfold OkS
  simp only
  omega
theorem strOf_edge {ts : List (Int × Int)} (hv : vt ts = true) {u v : Nat} {L : Int} : SE (strOf ts) u v L ↔ TE ts ts.length u v L := by
  constructor
  · rintro ⟨p, hp, rfl, h⟩
    obtain ⟨i, hi, hl, rfl⟩ := strOf_mem.1 hp
    have ht := vt_to hv hi hl
    refine ⟨i, hi, hl, rfl, ?_⟩
    simp only at h
    rcases h with ⟨h1, h2⟩ | ⟨h1, h2⟩
    · right; omega
    · left; omega
  · rintro ⟨i, hi, hl, rfl, h⟩
    have ht := vt_to hv hi hl
    refine ⟨_, strOf_mem.2 ⟨i, hi, hl, rfl⟩, rfl, ?_⟩
    simp only
    rcases h with ⟨h1, h2⟩ | ⟨h1, h2⟩
    · right; omega
    · left; omega
/-- The table of a tree is that of its roads as streets. -/
theorem strOf_dn {ts : List (Int × Int)} (hv : vt ts = true) {a b : Nat} (ha : a < ts.length) (hb : b < ts.length) : sht ts.length (strOf ts) a b = dn ts ts.length a b := by
  have h := dn_short (vt_ahead hv) (Nat.le_refl ts.length)
  have hS : Short (SE (strOf ts)) ts.length (dn ts ts.length) := by
    refine ⟨h.zero, fun a u v L ha he hv' h0 => h.step a u v L ha ((strOf_edge hv).1 he) hv' h0, fun a b ha hb => ?_⟩
    rcases h.way a b ha hb with h1 | ⟨h1, h2⟩
    · exact .inl h1
    · exact .inr ⟨h1, h2.mono fun u v L h => (strOf_edge hv).2 h⟩
  exact (sht_is (strOf_net hv) hS ha hb).symm
/-- Answers depend on the table below n alone. -/
theorem fnB_congr {d d' : Nat → Nat → Int} {far : Int} {s n : Nat} (h : ∀ a b, a < n → b < n → d a b = d' a b) : ∀ m, m ≤ n → fnB d far s n m = fnB d' far s n m
  | 0, _ => rfl
  | m + 1, hm => by
    have hn : ∀ k, k ≤ n → nrB d far s m k = nrB d' far s m k := by
      intro k
      induction k with
      | zero => intro _; rfl
      | succ k ih => intro hk; simp only [nrB]; rw [ih (by omega), h m k (by omega) (by omega)]
    simp only [fnB]
    rw [fnB_congr h m (by omega), hn n (Nat.le_refl _)]
theorem pkB_congr {d d' : Nat → Nat → Int} {far : Int} {n : Nat} (h : ∀ a b, a < n → b < n → d a b = d' a b) : ∀ S, pkB d far n S = pkB d' far n S
  | 0 => rfl
  | S + 1 => by simp only [pkB]; rw [fnB_congr h n (Nat.le_refl _), pkB_congr h S]
theorem cvF_congr {d d' : Nat → Nat → Int} {far : Int} {s n : Nat} (h : ∀ a b, a < n → b < n → d a b = d' a b) : ∀ m, m ≤ n → cvF d far s n m = cvF d' far s n m
  | 0, _ => rfl
  | m + 1, hm => by
    have hn : ∀ k, k ≤ n → nbB d far s m k = nbB d' far s m k := by
      intro k
      induction k with
      | zero => intro _; rfl
      | succ k ih => intro hk; simp only [nbB]; rw [ih (by omega), h m k (by omega) (by omega)]
    simp only [cvF]
    rw [cvF_congr h m (by omega), hn n (Nat.le_refl _)]
theorem cvN_congr {d d' : Nat → Nat → Int} {far : Int} {n : Nat} (h : ∀ a b, a < n → b < n → d a b = d' a b) : ∀ S, cvN d far n S = cvN d' far n S
  | 0 => rfl
  | S + 1 => by simp only [cvN]; rw [cvF_congr h n (Nat.le_refl _), cvN_congr h S]
end Go.Proofs.Ytkgomgfhhhdnjaa
namespace Go.Proofs.Ytkgomgfhhhdnjaa
open Go.ChangeShapes Go.WideShapes Go.ChangeAt Go.RowKit
set_option linter.unusedVariables false

/-- A slice that is not nil, in a block of ints. -/
def RdL (w : World) (A : Option Addr) (l : List Int) : Prop :=
  ∃ b cs, A = some ⟨b, 0, none⟩ ∧ w.heap[b]? = some (Obj.cells cs 3 (0, 0)) ∧ ∀ i, i < l.length → cs[i]? = some (.int .i64 (l.getD i 0))
theorem RdL.rd {w : World} {A : Option Addr} {l : List Int} (h : RdL w A l) : RdI w w.heap.size A l := fun _ => by
  obtain ⟨b, cs, e, hb, hc⟩ := h
  exact ⟨b, 0, e, (Array.getElem?_eq_some_iff.1 hb).1, fun i hi => by rw [Nat.zero_add, cell_of_row _ _ _ _ _ _ hb]; exact hc i hi⟩
theorem RdL.block {w w' : World} {A : Option Addr} {l : List Int} (h : RdL w A l) (hk : ∀ (b : Nat) (cs : Array Value), w.heap[b]? = some (Obj.cells cs 3 (0, 0)) → w'.heap[b]? = w.heap[b]?) : RdL w' A l := by
  obtain ⟨b, cs, e, hb, hc⟩ := h
  exact ⟨b, cs, e, (hk b cs hb).trans hb, hc⟩
theorem RdL.below {w w' : World} {A : Option Addr} {l : List Int} (h : RdL w A l) (hb : Below w.heap.size w w') : RdL w' A l :=
  h.block fun b cs hbc => hb.block b (Array.getElem?_eq_some_iff.1 hbc).1
theorem RdL.alloc {w : World} {A : Option Addr} {l : List Int} (h : RdL w A l) (o : Obj) : RdL (w.alloc o) A l := h.below ((Below.refl _ _).alloc (Nat.le_refl _) o)
/-- A write into a row of other elements, or into a new block, leaves it. -/
theorem RdL.grown {w w' : World} {row : Option Nat} {A : Option Addr} {l : List Int} (h : RdL w A l) (hg : w.grownBy w' row) (hr : ∀ g, row = some g → ∀ cs, w.heap[g]? ≠ some (Obj.cells cs 3 (0, 0))) : RdL w' A l :=
  h.block fun b cs hbc => hg.block b (Array.getElem?_eq_some_iff.1 hbc).1 (fun e => hr b e.symm cs hbc)
theorem RdL.new {w w' : World} {A : Option Addr} {l : List Int} {o : Obj} (h : RdL w A l) (hg : (w.alloc o).grownBy w' (some w.heap.size)) : RdL w' A l :=
  h.block fun b cs hbc => by
    have hlt := (Array.getElem?_eq_some_iff.1 hbc).1
    rw [hg.block b (by simp; omega) (by intro e; injection e; omega), Below.heap_alloc w o b hlt]
theorem RdL.own {w : World} {B n : Nat} {v : Value} {l : List Int} (h : w.ownsRow B 3 1 v n (l.map (Value.int .i64))) (hl : l.length = n) (hn : 0 < n) : ∃ A c, v = .slice A n c ∧ n ≤ c ∧ RdL w A l := by
  rcases h.2 with ⟨_, h0⟩ | ⟨g, cap, cur, rfl, _, hb, hnc, _, hs, ht⟩
  · omega
  · refine ⟨_, cap, rfl, hnc, g, cur, rfl, hb, fun i hi => ?_⟩
    have h1 : (List.take (n * 1) cur.toList)[i]? = (l.map (Value.int .i64))[i]? := by rw [ht]
    rw [List.getElem?_take, if_pos (by omega), List.getElem?_map, List.getElem?_eq_getElem hi] at h1
    rw [← Array.getElem?_toList, h1]
    simp [List.getD, List.getElem?_eq_getElem hi]
def RdLL (w : World) (vs : List Value) (L : List (List Int)) : Prop :=
  vs.length = L.length ∧ ∀ (i : Nat) (l : List Int), L[i]? = some l → ∃ A c, vs[i]? = some (Value.slice A l.length c) ∧ l.length ≤ c ∧ RdL w A l
theorem RdLL.map {w w' : World} {vs : List Value} {L : List (List Int)} (h : RdLL w vs L) (hk : ∀ A l, RdL w A l → RdL w' A l) : RdLL w' vs L :=
  ⟨h.1, fun i l hl => by obtain ⟨A, c, h1, h2, h3⟩ := h.2 i l hl; exact ⟨A, c, h1, h2, hk A l h3⟩⟩
theorem RdLL.snoc {w : World} {vs : List Value} {L : List (List Int)} {A : Option Addr} {l : List Int} {c : Nat} (h : RdLL w vs L) (hc : l.length ≤ c) (hl : RdL w A l) : RdLL w (vs ++ [Value.slice A l.length c]) (L ++ [l]) := by
  refine ⟨by simp [h.1], fun i l' hi => ?_⟩
  rcases Nat.lt_or_ge i L.length with hlt | hge
  · rw [List.getElem?_append_left hlt] at hi
    obtain ⟨A', c', h1, h2, h3⟩ := h.2 i l' hi
    exact ⟨A', c', by rw [List.getElem?_append_left (by rw [h.1]; exact hlt)]; exact h1, h2, h3⟩
  · rw [List.getElem?_append_right hge] at hi
    have h0 : i - L.length = 0 := by
      have := (List.getElem?_eq_some_iff.1 hi).1
      simpa using this
    rw [h0] at hi
    simp at hi
    subst hi
    exact ⟨A, c, by rw [List.getElem?_append_right (by rw [h.1]; exact hge), h.1, h0]; rfl, hc, hl⟩
theorem RdLL.nil (w : World) : RdLL w [] [] := ⟨rfl, fun i l h => by simp at h⟩

end Go.Proofs.Ytkgomgfhhhdnjaa
namespace Go.Proofs.Ytkgomgfhhhdnjaa
open Go.ChangeShapes Go.WideShapes Go.ChangeAt Go.RowKit
set_option linter.unusedVariables false

def chs (prev : Nat → List (List Int)) (tu : Nat) : Nat → List (List Int)
  | 0 => []
  | d + 1 => (prev d).map (fun l => ((tu - (d + 1) : Nat) : Int) :: l) ++ chs prev tu d
def chd (tu : Nat) : Nat → Nat → List (List Int)
  | 0 => fun _ => [[]]
  | k + 1 => chs (chd tu k) tu
theorem chd_len_all : ∀ tu : Fin 8, ∀ k : Fin 5, ∀ d : Fin 8, (chd tu.val k.val d.val).length ≤ 128 := by decide +kernel
theorem chd_len {tu k d : Nat} (h1 : tu ≤ 7) (h2 : k ≤ 4) (h3 : d ≤ 7) : (chd tu k d).length ≤ 128 := chd_len_all ⟨tu, by omega⟩ ⟨k, by omega⟩ ⟨d, by omega⟩
theorem chd_each : ∀ (k tu d : Nat), ∀ l ∈ chd tu k d, l.length = k
  | 0, tu, d, l, h => by simp [chd] at h; subst h; rfl
  | k + 1, tu, d, l, h => by
    have hrec : ∀ d, ∀ l ∈ chs (chd tu k) tu d, l.length = k + 1 := by
      intro d
      induction d with
      | zero => intro l h; simp [chs] at h
      | succ d ih =>
        intro l h
        simp only [chs, List.mem_append, List.mem_map] at h
        rcases h with ⟨l', h1, rfl⟩ | h
        · simp [chd_each k tu d l' h1]
        · exact ih l h
    exact hrec d l h
end Go.Proofs.Ytkgomgfhhhdnjaa
namespace Go.Proofs.Ytkgomgfhhhdnjaa
open Go.ChangeShapes Go.WideShapes Go.ChangeAt Go.RowKit
set_option linter.unusedVariables false

/-- Ascending lists of k numbers from f on, below to. -/
def AscI (f tu k : Nat) (J : List Nat) : Prop := J.Pairwise (· < ·) ∧ (∀ i ∈ J, f ≤ i ∧ i < tu) ∧ J.length = k
theorem chd_mem (tu : Nat) : ∀ k d, d ≤ tu → ∀ l, l ∈ chd tu k d ↔ ∃ J, l = J.map Int.ofNat ∧ AscI (tu - d) tu k J
  | 0, d, hd, l => by
    simp only [chd, List.mem_singleton]
    constructor
    · rintro rfl
      exact ⟨[], rfl, List.Pairwise.nil, (fun i hi => by cases hi), rfl⟩
    · rintro ⟨J, rfl, _, _, h⟩
      rw [List.length_eq_zero_iff.1 h]; rfl
  | k + 1, d, hd, l => by
    show l ∈ chs (chd tu k) tu d ↔ _
    induction d with
    | zero =>
      simp only [chs, List.not_mem_nil, false_iff]
      rintro ⟨J, _, _, h2, h3⟩
      cases J with
      | nil => simp at h3
      | cons j J => have := h2 j (by simp); omega
    | succ d ih =>
      simp only [chs, List.mem_append, List.mem_map]
      rw [ih (by omega)]
      constructor
      · rintro (⟨l', h1, rfl⟩ | ⟨J, rfl, h1, h2, h3⟩)
        · obtain ⟨J, rfl, h2, h3, h4⟩ := (chd_mem tu k d (by omega) l').1 h1
          refine ⟨(tu - (d + 1)) :: J, rfl, List.pairwise_cons.2 ⟨fun i hi => by have := h3 i hi; omega, h2⟩, fun i hi => ?_, by simp [h4]⟩
          rcases List.mem_cons.1 hi with rfl | hi
          · omega
          · have := h3 i hi; omega
        · exact ⟨J, rfl, h1, fun i hi => by have := h2 i hi; omega, h3⟩
      · rintro ⟨J, rfl, h1, h2, h3⟩
        cases J with
        | nil => simp at h3
        | cons j J =>
          obtain ⟨h4, h5⟩ := List.pairwise_cons.1 h1
          have hj := h2 j (by simp)
          by_cases e : j = tu - (d + 1)
          · subst e
            refine .inl ⟨J.map Int.ofNat, (chd_mem tu k d (by omega) _).2 ⟨J, rfl, h5, fun i hi => ?_, by simpa using h3⟩, rfl⟩
            have := h4 i hi
            have := h2 i (by simp [hi])
            omega
          · refine .inr ⟨j :: J, rfl, h1, fun i hi => ?_, h3⟩
            rcases List.mem_cons.1 hi with rfl | hi
            · omega
            · have := h4 i hi
              have := h2 i (by simp [hi])
              omega
theorem toNat_ofNat (J : List Nat) : (J.map Int.ofNat).map Int.toNat = J := by
  rw [List.map_map]
  have : Int.toNat ∘ Int.ofNat = id := by funext i; rfl
  rw [this, List.map_id]
theorem ascI_zero {tu k : Nat} {J : List Nat} : AscI (tu - tu) tu k J ↔ Asc tu k J := by
  unfold AscI Asc
  rw [Nat.sub_self]
  exact ⟨fun ⟨h1, h2, h3⟩ => ⟨h1, fun i hi => (h2 i hi).2, h3⟩, fun ⟨h1, h2, h3⟩ => ⟨h1, fun i hi => ⟨Nat.zero_le _, h2 i hi⟩, h3⟩⟩
/-- How far it is with a choice. -/
def radI (d : Nat → Nat → Int) (n : Nat) (l : List Int) : Int := radL d (l.map Int.toNat) n
def nfar (d : Nat → Nat → Int) (n m : Nat) : Int := pkL (radI d n) (chd n m n) (-1)
theorem nfar_is (d : Nat → Nat → Int) (n m : Nat) : NfIs d n m (nfar d n m) := by
  have hmem : ∀ l, l ∈ chd n m n ↔ ∃ J, l = J.map Int.ofNat ∧ Asc n m J := fun l => by
    rw [chd_mem n m n (Nat.le_refl _)]
    constructor
    · rintro ⟨J, h1, h2⟩; exact ⟨J, h1, ascI_zero.1 h2⟩
    · rintro ⟨J, h1, h2⟩; exact ⟨J, h1, ascI_zero.2 h2⟩
  rcases pkL_cases (radI d n) (chd n m n) with ⟨h1, h2⟩ | ⟨h1, ⟨l, hl, h2⟩, h3⟩
  · refine .inl ⟨h1, fun J hJ => ?_⟩
    have := h2 _ ((hmem _).2 ⟨J, rfl, hJ⟩)
    unfold radI at this
    rwa [toNat_ofNat] at this
  · refine .inr ⟨h1, ?_, fun J hJ h0 => ?_⟩
    · obtain ⟨J, rfl, hJ⟩ := (hmem l).1 hl
      refine ⟨J, hJ, ?_⟩
      have : radI d n (J.map Int.ofNat) = nfar d n m := h2
      unfold radI at this
      rwa [toNat_ofNat] at this
    · have := h3 _ ((hmem _).2 ⟨J, rfl, hJ⟩)
      unfold radI at this
      rw [toNat_ofNat] at this
      exact this h0
/-- One step of a loop that picks the least one. -/
theorem pkL_take {α : Type} (f : α → Int) {L : List α} {t : Nat} {x : α} (h : L[t]? = some x) (acc : Int) : pkL f (L.take (t + 1)) acc = if 0 ≤ f x ∧ (pkL f (L.take t) acc < 0 ∨ f x < pkL f (L.take t) acc) then f x else pkL f (L.take t) acc := by
  obtain ⟨hlt, e⟩ := List.getElem?_eq_some_iff.1 h
  rw [List.take_succ_eq_append_getElem hlt, pkL_append, e]
  rfl
theorem pkL_yes {α : Type} {f : α → Int} {L : List α} {t : Nat} {x : α} {acc p y : Int} (h : L[t]? = some x) (hp : pkL f (L.take t) acc = p) (hy : f x = y) (h0 : 0 ≤ y) (hc : p < 0 ∨ y < p) : pkL f (L.take (t + 1)) acc = y := by
  rw [pkL_take f h, hp, hy, if_pos ⟨h0, hc⟩]
theorem pkL_no {α : Type} {f : α → Int} {L : List α} {t : Nat} {x : α} {acc p y : Int} (h : L[t]? = some x) (hp : pkL f (L.take t) acc = p) (hy : f x = y) (hc : ¬ (0 ≤ y ∧ (p < 0 ∨ y < p))) : pkL f (L.take (t + 1)) acc = p := by
  rw [pkL_take f h, hp, hy, if_neg hc]
theorem rad_stay {d : Nat → Nat → Int} {L : List Nat} {v : Nat} (h : radL d L v < 0) : ∀ m, v ≤ m → radL d L m = radL d L v := by
  intro m hm
  induction m with
  | zero => have : v = 0 := by omega
            subst this; rfl
  | succ m ih =>
    by_cases e : v = m + 1
    · subst e; rfl
    · have := ih (by omega)
      simp only [radL]
      rw [this, if_pos h]
theorem rad_none {d : Nat → Nat → Int} {L : List Nat} {v : Nat} {f y : Int} (h : radL d L v = f) (h0 : 0 ≤ f) (hy : wy d v L = y) (hn : y < 0) : radL d L (v + 1) = -1 := by
  simp only [radL]
  rw [h, if_neg (by omega), hy, if_pos hn]
theorem rad_some {d : Nat → Nat → Int} {L : List Nat} {v : Nat} {f y : Int} (h : radL d L v = f) (h0 : 0 ≤ f) (hy : wy d v L = y) (hn : 0 ≤ y) : radL d L (v + 1) = max f y := by
  simp only [radL]
  rw [h, if_neg (by omega), hy, if_neg (by omega)]
theorem pkL_low {α : Type} (f : α → Int) {L : List α} : -1 ≤ pkL f L (-1) := by
  rcases pkL_cases f L with ⟨h, _⟩ | ⟨h, _⟩ <;> omega
theorem pkL_high {α : Type} {f : α → Int} {L : List α} {b : Int} (hb : 0 ≤ b) (h : ∀ x ∈ L, f x ≤ b) : pkL f L (-1) ≤ b := by
  rcases pkL_cases f L with ⟨h1, _⟩ | ⟨_, ⟨x, hx, h1⟩, _⟩
  · omega
  · have := h x hx; omega
end Go.Proofs.Ytkgomgfhhhdnjaa
namespace Go.Proofs.Ytkgomgfhhhdnjaa
open Go.ChangeShapes Go.WideShapes Go.ChangeAt Go.RowKit
set_option linter.unusedVariables false
set_option maxRecDepth 4000

/-- NetApart's and NetCover's answers. -/
noncomputable def nap (n : Int) (ss : List Str) (far : Int) : Int := if vnet n ss = true ∧ 0 ≤ far ∧ far ≤ 50 then ((pkB (sht n.toNat ss) far n.toNat (2 ^ n.toNat) : Nat) : Int) else -1
noncomputable def ncv (n : Int) (ss : List Str) (far : Int) : Int := if vnet n ss = true ∧ 0 ≤ far ∧ far ≤ 50 then ((cvN (sht n.toNat ss) far n.toNat (2 ^ n.toNat) : Nat) : Int) else -1
theorem nap_no {n : Int} {ss : List Str} {far : Int} (h : vnet n ss = false ∨ far < 0 ∨ 50 < far) : nap n ss far = -1 := by
  unfold nap
  rw [if_neg]
  rintro ⟨h1, h2, h3⟩
  rcases h with h | h | h
  · rw [h1] at h; cases h
  · omega
  · omega
theorem ncv_no {n : Int} {ss : List Str} {far : Int} (h : vnet n ss = false ∨ far < 0 ∨ 50 < far) : ncv n ss far = -1 := by
  unfold ncv
  rw [if_neg]
  rintro ⟨h1, h2, h3⟩
  rcases h with h | h | h
  · rw [h1] at h; cases h
  · omega
  · omega
theorem nap_yes {n : Nat} {ss : List Str} {far : Int} (h : vnet n ss = true) (h1 : 0 ≤ far) (h2 : far ≤ 50) : nap n ss far = ((pkB (sht n ss) far n (2 ^ n) : Nat) : Int) := by
  unfold nap; rw [if_pos ⟨h, h1, h2⟩]; rfl
theorem ncv_yes {n : Nat} {ss : List Str} {far : Int} (h : vnet n ss = true) (h1 : 0 ≤ far) (h2 : far ≤ 50) : ncv n ss far = ((cvN (sht n ss) far n (2 ^ n) : Nat) : Int) := by
  unfold ncv; rw [if_pos ⟨h, h1, h2⟩]; rfl
/-- NetFar's answer. -/
noncomputable def nfr (n : Int) (ss : List Str) (k : Int) : Int := if vnet n ss = true ∧ 1 ≤ k ∧ k ≤ 4 then nfar (sht n.toNat ss) n.toNat (min k.toNat n.toNat) else -1
theorem nfr_no {n : Int} {ss : List Str} {k : Int} (h : vnet n ss = false ∨ k < 1 ∨ 4 < k) : nfr n ss k = -1 := by
  unfold nfr
  rw [if_neg]
  rintro ⟨h1, h2, h3⟩
  rcases h with h | h | h
  · rw [h1] at h; cases h
  · omega
  · omega
theorem nfr_yes {n k : Nat} {ss : List Str} (h : vnet n ss = true) (h1 : 1 ≤ k) (h2 : k ≤ 4) : nfr n ss k = nfar (sht n ss) n (min k n) := by
  unfold nfr; rw [if_pos ⟨h, by omega, by omega⟩]; rfl
/-- The arguments of a function over a net. -/
structure NetIn (w : World) (A : Option Addr) (c m : Nat) (n : Int) (ss : List Str) : Prop where
  rd : RdS w w.heap.size A ss
  len : ss.length = m
  cap : m ≤ c ∧ c ≤ 9223372036854775807
  most : m ≤ 1048576
  wf : (Lit.int .i64 n).wf = true
def INum (F : Nat) (ans : Int → List Str → Int → Int) : Prop := ∀ (A : Option Addr) (c m : Nat) (n : Int) (ss : List Str) (k : Int) (w : World), NetIn w A c m n ss → (Lit.int .i64 k).wf = true →
  Calls Try.prog F #[.int .i64 n, .slice A m c, .int .i64 k] w fun e w' => e = .returned (.int .i64 (ans n ss k)) ∧ Below w.heap.size w w'
def IBool (F : Nat) : Prop := ∀ (A : Option Addr) (c m : Nat) (n : Int) (ss : List Str) (w : World), NetIn w A c m n ss →
  Calls Try.prog F #[.int .i64 n, .slice A m c] w fun e w' => e = .returned (.bool (vnet n ss)) ∧ Below w.heap.size w w'
def IRows (F : Nat) : Prop := ∀ (A : Option Addr) (c m : Nat) (n : Int) (ss : List Str) (w : World), NetIn w A c m n ss →
  Calls Try.prog F #[.int .i64 n, .slice A m c] w (NetAns w n ss)
theorem NetIn.later {w w' : World} {A : Option Addr} {c m : Nat} {n : Int} {ss : List Str} (h : NetIn w A c m n ss) (hb : Below w.heap.size w w') : NetIn w' A c m n ss :=
  ⟨(h.rd.below hb).more hb.size, h.len, h.cap, h.most, h.wf⟩
theorem wf_small {n : Int} (h : -1000 ≤ n ∧ n ≤ 1000) : (Lit.int .i64 n).wf = true := WalkArith.wf_i64 (by omega)
theorem ncv_is {n : Int} {ss : List Str} {far : Int} (h : vnet n ss = true) (h0 : 0 ≤ far) (h1 : far ≤ 50) : ncv n ss far = ((cvN (sht n.toNat ss) far n.toNat (2 ^ n.toNat) : Nat) : Int) := by unfold ncv; rw [if_pos ⟨h, h0, h1⟩]
theorem nap_is {n : Int} {ss : List Str} {far : Int} (h : vnet n ss = true) (h0 : 0 ≤ far) (h1 : far ≤ 50) : nap n ss far = ((pkB (sht n.toNat ss) far n.toNat (2 ^ n.toNat) : Nat) : Int) := by unfold nap; rw [if_pos ⟨h, h0, h1⟩]
theorem ncv_has {n : Int} {ss : List Str} {far : Int} (h : 0 ≤ ncv n ss far) : vnet n ss = true ∧ 0 ≤ far ∧ far ≤ 50 := by
  unfold ncv at h
  split at h
  · assumption
  · omega
theorem nap_has {n : Int} {ss : List Str} {far : Int} (h : 0 ≤ nap n ss far) : vnet n ss = true ∧ 0 ≤ far ∧ far ≤ 50 := by
  unfold nap at h
  split at h
  · assumption
  · omega
theorem cover_facts {n : Int} {ss : List Str} {far : Int} (h : 0 ≤ ncv n ss far) : nap n ss far ≤ ncv n ss far ∧ (ncv n ss (far + 1) < 0 ∨ ncv n ss (far + 1) ≤ ncv n ss far) ∧ 1 ≤ ncv n ss far ∧ 0 ≤ far ∧ far ≤ 50 := by
  obtain ⟨hv, h0, h1⟩ := ncv_has h
  obtain ⟨k, rfl, hk1, hk7⟩ := vnet_nat hv
  have hM := sht_met (n := k) hv
  rw [ncv_is hv h0 h1, nap_is hv h0 h1, Int.toNat_natCast]
  have e1 := pk_le_cv (far := far) hk7 hM.symm hM.zero h0
  have e2 := cvN_pos (far := far) hk7 hk1 hM.zero h0
  refine ⟨by omega, ?_, by omega, h0, h1⟩
  by_cases h2 : far + 1 ≤ 50
  · right
    rw [ncv_is hv (by omega) h2, Int.toNat_natCast]
    have e3 := cvN_mono (far := far) (far' := far + 1) hk7 hM.zero h0 (by omega)
    omega
  · left
    rw [ncv_no (.inr (by omega))]; omega
theorem apart_facts {n : Int} {ss : List Str} {far : Int} (h : 0 ≤ nap n ss far) : 1 ≤ nap n ss far ∧ nap n ss far ≤ ncv n ss far ∧ nap n ss 0 = n := by
  obtain ⟨hv, h0, h1⟩ := nap_has h
  obtain ⟨k, rfl, hk1, hk7⟩ := vnet_nat hv
  have hM := sht_met (n := k) hv
  rw [ncv_is hv h0 h1, nap_is hv h0 h1, nap_is hv (by omega) (by omega), Int.toNat_natCast]
  have e1 := pk_le_cv (far := far) hk7 hM.symm hM.zero h0
  have e2 := pkB_pos (d := sht k ss) (far := far) hk7 hk1
  have e3 := pkB_zero (d := sht k ss) hk7 hM.pos
  have e4 := pkB_le_n (sht k ss) 0 hk7
  exact ⟨by omega, by omega, by omega⟩
theorem far_facts {n : Int} {ss : List Str} {k : Int} (hv : vnet n ss = true) (h1 : 1 ≤ k) (h4 : k ≤ 4) : ∀ r : Int, 0 ≤ r → r ≤ 50 → (ncv n ss r ≤ k ↔ 0 ≤ nfr n ss k ∧ nfr n ss k ≤ r) := by
  intro r hr0 hr1
  obtain ⟨j, rfl, hj1, hj7⟩ := vnet_nat hv
  obtain ⟨k, rfl⟩ := Int.eq_ofNat_of_zero_le (show 0 ≤ k by omega)
  have hM := sht_met (n := j) hv
  have := nf_cv (k := k) hj7 hM.zero (nfar_is (sht j ss) j (min k j)) hr0
  rw [ncv_is hv hr0 hr1]
  unfold nfr
  rw [if_pos ⟨hv, h1, h4⟩, Int.toNat_natCast, Int.toNat_natCast]
  omega
def nm (n : Int) (ss : List Str) : Nat := if vnet n ss = true then n.toNat else 0
def nL (n : Int) (ss : List Str) : Nat := if vnet n ss = true then n.toNat else 1
theorem rowX_length (X : Nat → Nat → Int) (n j : Nat) : (rowX X n j).length = n := by simp [rowX]
theorem nm_bd (n : Int) (ss : List Str) : nm n ss ≤ 7 ∧ 1 ≤ nL n ss ∧ nL n ss ≤ 7 ∧ ∀ j, j < nm n ss → (rowX (sht n.toNat ss) n.toNat j).length = nL n ss := by
  unfold nm nL
  by_cases h : vnet n ss = true
  · obtain ⟨k, rfl, h1, h7⟩ := vnet_nat h
    rw [if_pos h, if_pos h]
    exact ⟨h7, h1, h7, fun j _ => rowX_length _ _ _⟩
  · rw [if_neg h, if_neg h]
    exact ⟨by omega, by omega, by omega, fun j hj => by omega⟩
/-- What both tables are. -/
def NabUni (w : World) (n : Int) (ss : List Str) (e : Ending) (w' : World) : Prop :=
  ∃ A c VR, e = .returned (.slice A (nm n ss) c) ∧ Outer w' w.heap.size (nm n ss) (.slice A (nm n ss) c) VR ∧ TT w' w.heap.size (nm n ss) VR (rowX (sht n.toNat ss) n.toNat) ∧ Below w.heap.size w w'
theorem nab_uni {w w' : World} {n : Int} {ss : List Str} {e : Ending} (h : NetAns w n ss e w') : NabUni w n ss e w' := by
  unfold NabUni nm
  rcases h with ⟨hv, rfl, hb⟩ | ⟨hv, v, VR, rfl, hO, hT, hb⟩
  · rw [hv]
    simp only [Bool.false_eq_true, if_false]
    exact ⟨none, 0, fun _ => .nilIface, rfl, World.ownsRow_nil _ _ _ _, ⟨fun j hj => by omega, fun i j g hi => by omega⟩, hb⟩
  · rw [if_pos hv]
    obtain ⟨A, c, e, _⟩ := own_sliceN hO
    subst e
    exact ⟨A, c, VR, rfl, hO, hT, hb⟩
theorem nfr_bd (n : Int) (ss : List Str) (k : Int) : -1 ≤ nfr n ss k ∧ nfr n ss k ≤ 54 := by
  unfold nfr
  split
  · rename_i h
    obtain ⟨j, rfl, hj1, hj7⟩ := vnet_nat h.1
    have hM := sht_met (n := j) h.1
    rw [Int.toNat_natCast]
    rcases nfar_is (sht j ss) j (min k.toNat j) with ⟨h1, -⟩ | ⟨h1, ⟨J, hJ, h2⟩, -⟩
    · omega
    · refine ⟨by omega, ?_⟩
      rw [← h2] at h1 ⊢
      rcases rad_cases (sht j ss) J j with ⟨h3, -⟩ | ⟨h3, h4, h5⟩
      · omega
      · rcases h5 with h5 | ⟨v, hv, h5⟩
        · omega
        · rw [← h5]
          exact pkL_high (by omega) (fun x hx => (hM.bd v x hv (hJ.2.1 x hx)).2)
  · omega
end Go.Proofs.Ytkgomgfhhhdnjaa
namespace Go.Proofs.Ytkgomgfhhhdnjaa
open Go.ChangeShapes Go.WideShapes Go.ChangeAt Go.RowKit
set_option linter.unusedVariables false
set_option maxRecDepth 8000

/-- The streets that one cell adds: to the right and down. -/
def gs1 (w n c : Nat) : List Str := if c % w + 1 < w then [((c : Int), (c : Int) + 1, 1)] else []
def gs2 (w n c : Nat) : List Str := if c + w < n then [((c : Int), (c : Int) + (w : Int), 1)] else []
def gst (w n : Nat) : Nat → List Str
  | 0 => []
  | c + 1 => gst w n c ++ gs1 w n c ++ gs2 w n c
def netB1 (w h : Nat) : Bool := decide (7 < w * h) || (vnet ((w * h : Nat) : Int) (gst w (w * h) (w * h)) && ((gst w (w * h) (w * h)).all fun p => decide (p.2.2 = 1) && (List.range (w * h)).all fun a => decide (stG w a p.1.toNat ≤ stG w a p.2.1.toNat + 1) && decide (stG w a p.2.1.toNat ≤ stG w a p.1.toNat + 1)))
def netB2 (w h : Nat) : Bool := decide (7 < w * h) || ((List.range (w * h)).all fun a => (List.range (w * h)).all fun b => decide (a = b) || (List.range (w * h)).any fun u => decide (stN w a u + 1 = stN w a b) && (gst w (w * h) (w * h)).any fun p => decide (p.2.2 = 1) && (decide (p.1 = u ∧ p.2.1 = b) || decide (p.1 = b ∧ p.2.1 = u)))
theorem net_all1 : ∀ w h : Fin 6, 1 ≤ w.val → 1 ≤ h.val → w.val * h.val ≤ 10 → netB1 w.val h.val = true := by decide +kernel
theorem net_all2 : ∀ w h : Fin 6, 1 ≤ w.val → 1 ≤ h.val → w.val * h.val ≤ 10 → netB2 w.val h.val = true := by decide +kernel
theorem gnet_short {w h : Nat} (g : Gd w h) (h7 : w * h ≤ 7) : vnet ((w * h : Nat) : Int) (gst w (w * h) (w * h)) = true ∧ Short (SE (gst w (w * h) (w * h))) (w * h) (stG w) := by
  have h1 := gd_all net_all1 g
  have h2 := gd_all net_all2 g
  unfold netB1 at h1
  unfold netB2 at h2
  generalize gst w (w * h) (w * h) = ss at h1 h2 ⊢
  generalize w * h = n at h1 h2 h7 ⊢
  simp only [Bool.or_eq_true, Bool.and_eq_true, List.all_eq_true, List.any_eq_true, decide_eq_true_eq, List.mem_range] at h1 h2
  have h1 := h1.resolve_left (by omega)
  have h2 := h2.resolve_left (by omega)
  refine ⟨h1.1, fun a _ => stG_self w a, fun a u v L ha hE hv _ => ⟨stG_pos _ _ _, ?_⟩, ?_⟩
  · obtain ⟨p, hp, rfl, hh⟩ := hE
    obtain ⟨e1, e2⟩ := h1.2 p hp
    have e3 := e2 a ha
    rcases hh with ⟨hu, hv2⟩ | ⟨hu, hv2⟩ <;> (rw [hu, hv2, Int.toNat_natCast, Int.toNat_natCast] at e3; omega)
  · have key : ∀ k a b, a < n → b < n → stN w a b = k → Wk (SE ss) n a b (k : Int) := by
      intro k
      induction k with
      | zero =>
        intro a b ha hb he
        obtain rfl := stN_zero he
        exact Wk.nil ha
      | succ k ih =>
        intro a b ha hb he
        rcases h2 a ha b hb with e | ⟨u, hu, hs, p, hp, e1, e2⟩
        · subst e; rw [stN_self] at he; omega
        · have hw := ih a u ha hu (by omega)
          have hE : SE ss u b 1 := ⟨p, hp, e1.symm, e2⟩
          have := Wk.snoc u b _ _ hw hE hb
          rw [show ((k + 1 : Nat) : Int) = (k : Int) + 1 by omega]
          exact this
    intro a b ha hb
    exact .inr ⟨stG_pos _ _ _, key _ a b ha hb rfl⟩
theorem gnet_same {w h : Nat} (g : Gd w h) (h7 : w * h ≤ 7) : TurnG (w * h) (fun a => a) (fun a => a) (stG w) (sht (w * h) (gst w (w * h) (w * h))) := by
  obtain ⟨h1, h2⟩ := gnet_short g h7
  exact turn_same fun a b ha hb => sht_is h1 h2 ha hb
/-- Grids are nets. -/
theorem gnet_facts {w h : Nat} {far : Int} (g : Gd w h) (h7 : w * h ≤ 7) (h0 : 0 ≤ far) (h1 : far ≤ 50) : ncv ((w * h : Nat) : Int) (gst w (w * h) (w * h)) far = gcv w h far ∧ nap ((w * h : Nat) : Int) (gst w (w * h) (w * h)) far = gpk w h far := by
  have hv := (gnet_short g h7).1
  have t := gnet_same g h7
  rw [ncv_yes hv h0 h1, nap_yes hv h0 h1]
  constructor
  · have e := (few_cv (d := sht (w * h) (gst w (w * h) (w * h))) h7 (fun a ha => by rw [← t.eq a a ha ha, stG_self]) h0).eq (t.few (grid_few g h0))
    rw [e, gcv_yes g h0 h1]
  · have e := (most_pk (sht (w * h) (gst w (w * h) (w * h))) far h7).eq (t.most (most_pkT (stG w) far g.n10))
    rw [e, gpk_yes g h0 h1]
end Go.Proofs.Ytkgomgfhhhdnjaa
namespace Go.Proofs.Ytkgomgfhhhdnjaa
open Go.ChangeShapes Go.WideShapes Go.ChangeAt Go.RowKit
set_option linter.unusedVariables false
set_option maxRecDepth 4000

theorem isSh_any (x y : Int) (w : World) : Calls Try.prog 95 #[.int .i64 x, .int .i64 y] w fun e w' => e = .returned (.bool (decide (ShW x y))) ∧ w = w' := by
  by_cases hx : x = -1
  · subst hx
    have hs : decide (ShW (-1) y) = false := decide_eq_false (fun h => h.1 rfl)
    rw [hs]
    have h1 : ((-1 : Int) != -1) = false := rfl
    go_enter Try.func95, Try.ntmps95
    go_wp2
    go_ret
    exact ⟨rfl, rfl⟩
  · have h1 : (x != -1) = true := by rw [bne_iff_ne]; exact hx
    by_cases hy : y = -1
    · subst hy
      have hs : decide (ShW x (-1)) = true := decide_eq_true ⟨hx, .inl rfl⟩
      rw [hs]
      have h2 : ((-1 : Int) == -1) = true := rfl
      go_enter Try.func95, Try.ntmps95
      go_wp2
      go_ret
      exact ⟨rfl, rfl⟩
    · have h2 : (y == -1) = false := by rw [beq_eq_false_iff_ne]; exact hy
      have hs : decide (ShW x y) = decide (x < y) := by
        unfold ShW
        by_cases h : x < y <;> simp [h, hx, hy]
      rw [hs]
      by_cases h : x < y
      all_goals
        go_enter Try.func95, Try.ntmps95
        go_wp2
        go_ret
        exact ⟨ret_bool (by simp [h]), rfl⟩
theorem isSh_yes (x y : Int) (w : World) (h : ShW x y) : Calls Try.prog 95 #[.int .i64 x, .int .i64 y] w fun e w' => e = .returned (.bool true) ∧ w = w' :=
  (isSh_any x y w).mono fun _ _ ⟨he, hw⟩ => ⟨by rw [he, decide_eq_true h], hw⟩
theorem isSh_no (x y : Int) (w : World) (h : ¬ ShW x y) : Calls Try.prog 95 #[.int .i64 x, .int .i64 y] w fun e w' => e = .returned (.bool false) ∧ w = w' :=
  (isSh_any x y w).mono fun _ _ ⟨he, hw⟩ => ⟨by rw [he, decide_eq_false h], hw⟩
/-- Two ways, one behind the other; -1 if there is none. -/
def jn (x y : Int) : Int := if x = -1 ∨ y = -1 then -1 else x + y
theorem joined_any (x y : Int) (w : World) (hx : -1 ≤ x ∧ x ≤ 100000) (hy : -1 ≤ y ∧ y ≤ 100000) : Calls Try.prog 92 #[.int .i64 x, .int .i64 y] w fun e w' => e = .returned (.int .i64 (jn x y)) ∧ w = w' := by
  by_cases h1 : x = -1
  · subst h1
    have hs : jn (-1) y = -1 := if_pos (.inl rfl)
    rw [hs]
    have h1 : ((-1 : Int) == -1) = true := rfl
    go_enter Try.func92, Try.ntmps92
    go_wp2
    go_ret
    exact ⟨rfl, rfl⟩
  · have b1 : (x == -1) = false := by rw [beq_eq_false_iff_ne]; exact h1
    by_cases h2 : y = -1
    · subst h2
      have hs : jn x (-1) = -1 := if_pos (.inr rfl)
      rw [hs]
      have h2 : ((-1 : Int) == -1) = true := rfl
      go_enter Try.func92, Try.ntmps92
      go_wp2
      go_ret
      exact ⟨rfl, rfl⟩
    · have b2 : (y == -1) = false := by rw [beq_eq_false_iff_ne]; exact h2
      have hs : jn x y = x + y := if_neg (by omega)
      rw [hs]
      go_enter Try.func92, Try.ntmps92
      go_wp2
      go_ret
      exact ⟨ret_int (by first | rfl | (rw [IntWalk.i64_in _ (by omega)])), rfl⟩
theorem joined_is (x y : Int) {z : Int} (w : World) (hx : -1 ≤ x ∧ x ≤ 100000) (hy : -1 ≤ y ∧ y ≤ 100000) (h : jn x y = z) : Calls Try.prog 92 #[.int .i64 x, .int .i64 y] w fun e w' => e = .returned (.int .i64 z) ∧ w = w' := by
  subst h; exact joined_any x y w hx hy
theorem validNode_any (n x : Int) (w : World) : Calls Try.prog 81 #[.int .i64 n, .int .i64 x] w fun e w' => e = .returned (.bool (decide (0 ≤ x) && decide (x < n))) ∧ w = w' := by
  by_cases h1 : 0 ≤ x
  · by_cases h2 : x < n
    all_goals
      go_enter Try.func81, Try.ntmps81
      go_wp2
      go_ret
      exact ⟨ret_bool (by simp [h1, h2]), rfl⟩
  · have h3 : decide (x ≥ 0) = false := decide_eq_false h1
    go_enter Try.func81, Try.ntmps81
    go_wp2
    go_ret
    exact ⟨ret_bool (by simp), rfl⟩
theorem validNode_is (n x : Int) (w : World) {b : Bool} (h : (decide (0 ≤ x) && decide (x < n)) = b) : Calls Try.prog 81 #[.int .i64 n, .int .i64 x] w fun e w' => e = .returned (.bool b) ∧ w = w' := by
  subst h; exact validNode_any n x w
/-- A row's way, made shorter. -/
theorem shorten_yes (gr n cr e : Nat) (x q : Int) (w : World) (he : e < n) (hc : w.cell? ⟨gr, e, none⟩ = some (.int .i64 q)) (hf : w.frozen? ⟨gr, e, none⟩ = false) (h : ShW x q) :
    Calls Try.prog 91 #[.slice (some ⟨gr, 0, none⟩) n cr, .int .i64 e, .int .i64 x] w fun r w' => r = .returned (.bool true) ∧ ∃ k, w' = (w.setCell ⟨gr, e, none⟩ (.int .i64 x)).drewN k := by
  have H := Lib.hid (fun W => isSh_yes x q W h)
  clear h
  go_enter Try.func91, Try.ntmps91
  go_wp2_with fail
  refine (H.out _).mono ?_
  rintro r w' ⟨rfl, rfl⟩
  go_wp2
  go_ret
  exact ⟨rfl, 0, rfl⟩
theorem shorten_no (gr n cr e : Nat) (x q : Int) (w : World) (he : e < n) (hc : w.cell? ⟨gr, e, none⟩ = some (.int .i64 q)) (h : ¬ ShW x q) :
    Calls Try.prog 91 #[.slice (some ⟨gr, 0, none⟩) n cr, .int .i64 e, .int .i64 x] w fun r w' => r = .returned (.bool false) ∧ ∃ k, w' = w.drewN k := by
  have H := Lib.hid (fun W => isSh_no x q W h)
  clear h
  go_enter Try.func91, Try.ntmps91
  go_wp2_with fail
  refine (H.out _).mono ?_
  rintro r w' ⟨rfl, rfl⟩
  go_wp2
  go_ret
  exact ⟨rfl, 0, rfl⟩
end Go.Proofs.Ytkgomgfhhhdnjaa
namespace Go.Proofs.Ytkgomgfhhhdnjaa
open Go.ChangeShapes Go.WideShapes Go.ChangeAt Go.RowKit
set_option linter.unusedVariables false
set_option maxRecDepth 4000

theorem jn_no {x L : Int} (h : x = -1) : jn x L = -1 := if_pos (.inl h)
theorem jn_yes {x L : Int} (h : 0 ≤ x) (hL : 0 ≤ L) : jn x L = x + L := if_neg (by omega)
theorem sh_cz {X : Nat → Nat → Int} {a u v : Nat} {L : Int} (hu : -1 ≤ X a u) (hv : -1 ≤ X a v) (hL : 1 ≤ L) (h : ¬ ShW (jn (X a u) L) (X a v)) : Cz X a u v L := by
  intro h0
  rw [jn_yes h0 (by omega)] at h
  unfold ShW at h
  omega
theorem sh_up {X : Nat → Nat → Int} {a u v : Nat} {L : Int} (hu : -1 ≤ X a u) (hv : -1 ≤ X a v) (hL : 1 ≤ L) (h : ShW (jn (X a u) L) (X a v)) : 0 ≤ X a u ∧ (X a v < 0 ∨ X a u + L < X a v) ∧ jn (X a u) L = X a u + L := by
  by_cases e : X a u = -1
  · rw [jn_no e] at h; exact absurd rfl h.1
  · rw [jn_yes (by omega) (by omega)] at h ⊢
    unfold ShW at h
    omega
/-- Nothing but ints change. -/
def KeepI (w w' : World) : Prop := ∀ (b : Nat) (cs : Array Value) (ty : TypeId) (z : Nat × Nat), ty ≠ 3 → w.heap[b]? = some (.cells cs ty z) → w'.heap[b]? = some (.cells cs ty z)
theorem KeepI.refl (w : World) : KeepI w w := fun _ _ _ _ _ h => h
theorem KeepI.trans {w w1 w2 : World} (h : KeepI w w1) (k : KeepI w1 w2) : KeepI w w2 := fun b cs ty z hne he => k b cs ty z hne (h b cs ty z hne he)
theorem KeepI.drewN {w w1 : World} (h : KeepI w w1) (n : Nat) : KeepI w (w1.drewN n) := h
theorem KeepI.set {w w1 : World} {g b : Nat} {cs : Array Value} {z : Nat × Nat} (h : KeepI w w1) (hg : w1.heap[g]? = some (.cells cs 3 z)) (u : Value) : KeepI w (w1.setCell ⟨g, b, none⟩ u) := fun i cs' ty z' hne he => by
  have h1 := h i cs' ty z' hne he
  have hgi : g ≠ i := types_apart hg h1 (fun e => hne e.symm)
  exact (Below.heap_setCell w1 _ _ i (fun e => hgi e.symm)).trans h1
theorem KeepI.alloc {w w1 : World} (h : KeepI w w1) (o : Obj) : KeepI w (w1.alloc o) := fun i cs' ty z' hne he => by
  have h1 := h i cs' ty z' hne he
  have hlt : i < w1.heap.size := by
    rcases Nat.lt_or_ge i w1.heap.size with h2 | h2
    · exact h2
    · rw [Array.getElem?_eq_none h2] at h1; cases h1
  exact (heap_alloc_old w1 _ hlt).trans h1
/-- What a step at a table's entries leaves: the table, shorter or as it was. -/
def StepT (w : World) (B n g c : Nat) (VR : Nat → Value) (ss : List Str) (X : Nat → Nat → Int) (C : Prop) (e : Ending) (w' : World) : Prop :=
  ∃ X' t, e = .returned (.bool t) ∧ Rlx ss n X' ∧ Chg X X' n t C ∧ Outer w' B n (.slice (some ⟨g, 0, none⟩) n c) VR ∧ TT w' B n VR (rowX X' n) ∧ Below B w w' ∧ KeepI w w'
theorem shortenT_any (w : World) (B n g c a u v gr cr : Nat) (VR : Nat → Value) (ss : List Str) (X : Nat → Nat → Int) (L : Int) (hn7 : n ≤ 7) (hX : Rlx ss n X) (hO : Outer w B n (.slice (some ⟨g, 0, none⟩) n c) VR) (hT : TT w B n VR (rowX X n))
    (hv : VR a = .slice (some ⟨gr, 0, none⟩) n cr) (ha : a < n) (hu : u < n) (hvn : v < n) (hL : 1 ≤ L ∧ L ≤ 9) (he : SE ss u v L) :
    Calls Try.prog 91 #[.slice (some ⟨gr, 0, none⟩) n cr, .int .i64 v, .int .i64 (jn (X a u) L)] w (StepT w B n g c VR ss X (Cz X a u v L)) := by
  have hb1 := hX.le hn7 ha hu
  have hb2 := hX.le hn7 ha hvn
  obtain ⟨gr', cr', e1, -, cc, ff⟩ := tab_cells hO hT ha hvn
  have e2 := hv.symm.trans e1
  injection e2 with e3 e4 e5
  injection e3 with e3
  injection e3 with e3
  subst e3 e5
  by_cases h : ShW (jn (X a u) L) (X a v)
  · obtain ⟨h1, h2, h3⟩ := sh_up (by omega) (by omega) hL.1 h
    refine (shorten_yes gr n cr v _ _ w hvn cc ff h).mono ?_
    rintro e w' ⟨rfl, k, rfl⟩
    rw [h3]
    obtain ⟨o2, t2, hgB⟩ := tab_set (X a u + L) hO hT ha hvn hv
    refine ⟨_, true, rfl, rlx_step hX ha hu hvn he hL h1 h2, .inl ⟨rfl, totX_step ha hvn (by omega) (by omega)⟩, o2.drewN k, t2.drewN k, below_drewN ((Below.refl B w).setCell (p := ⟨gr, v, none⟩) hgB _) k, ?_⟩
    have h5 := hT.own a ha
    rw [hv, rowX_len] at h5
    obtain ⟨⟨cs, hcs⟩, -, -⟩ := own_heap h5 (g := gr) rfl
    exact ((KeepI.refl w).set hcs _).drewN k
  · refine (shorten_no gr n cr v _ _ w hvn cc h).mono ?_
    rintro e w' ⟨rfl, k, rfl⟩
    exact ⟨X, false, rfl, hX, .inr ⟨rfl, rfl, sh_cz (by omega) (by omega) hL.1 h⟩, hO.drewN k, hT.drewN k, below_drewN (Below.refl B w) k, (KeepI.refl w).drewN k⟩
theorem Chg.two {X0 X Y : Nat → Nat → Int} {n : Nat} {b t : Bool} {C D E : Prop} (h : Chg X0 X n b C) (k : Chg X Y n t D) (hE : X0 = X → X = Y → C → D → E) : Chg X0 Y n (b || t) E := by
  rcases h with ⟨rfl, h1⟩ | ⟨rfl, h1, h2⟩ <;> rcases k with ⟨rfl, k1⟩ | ⟨rfl, k1, k2⟩
  · exact .inl ⟨rfl, by omega⟩
  · subst k1; exact .inl ⟨rfl, h1⟩
  · subst h1; exact .inl ⟨rfl, k1⟩
  · exact .inr ⟨rfl, k1.trans h1, hE h1.symm k1.symm h2 k2⟩
end Go.Proofs.Ytkgomgfhhhdnjaa
