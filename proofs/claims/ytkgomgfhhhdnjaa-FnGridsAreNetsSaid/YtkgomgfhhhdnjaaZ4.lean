/-
  Words for slices of streets: three cells an element, From, To and Long; what a valid net is.
  Conditions: none beyond what each theorem states.
  Shortest ways: a table that no street shortens, each entry of which is the length of some way, is the only one; trees have one.
  Conditions: as each theorem states.
  Nets: the table of shortest ways by streets; making it shorter street by street comes to an end.
  Conditions: as each theorem states.
  Tables in memory: a row more, an entry changed; what the loops of NetTable keep.
  Conditions: none beyond what each theorem states.
  The program's sets of near nodes over a table, and the most of them without a common one.
  Conditions: at most seven nodes.
  hasAllNear of the program, walked: whether each node's near ones meet a set.
  Conditions: at most seven nodes, sets below 128.
-/
import Derived.Test.YtkgomgfhhhdnjaaZ2
import Derived.Test.YtkgomgfhhhdnjaaZ0
import Derived.Test.YtkgomgfhhhdnjaaZ3
import Derived.Test.YtkgomgfhhhdnjaaZ1
import Derived.Deep.RegionWith
namespace Go.Proofs.Ytkgomgfhhhdnjaa
open Go.ChangeShapes Go.WideShapes Go.ChangeAt Go.RowKit
set_option linter.unusedVariables false

abbrev Str := Int × Int × Int
abbrev str0 : Str := (0, 0, 0)
/-- The streets as the cells hold them. -/
def flat3 : List Str → List Int
  | [] => []
  | p :: r => p.1 :: p.2.1 :: p.2.2 :: flat3 r
theorem flat3_len : ∀ ss, (flat3 ss).length = ss.length * 3
  | [] => rfl
  | p :: r => by simp only [flat3, List.length_cons, flat3_len r]; omega
theorem flat3_0 : ∀ (ss : List Str) k, k < ss.length → (flat3 ss).getD (k * 3) 0 = (ss.getD k str0).1
  | [], k, h => by simp at h
  | p :: r, 0, h => rfl
  | p :: r, k + 1, h => by
    rw [show (k + 1) * 3 = k * 3 + 1 + 1 + 1 by omega]
    simp only [flat3, List.getD_cons_succ]
    exact flat3_0 r k (by simpa using h)
theorem flat3_1 : ∀ (ss : List Str) k, k < ss.length → (flat3 ss).getD (k * 3 + 1) 0 = (ss.getD k str0).2.1
  | [], k, h => by simp at h
  | p :: r, 0, h => rfl
  | p :: r, k + 1, h => by
    rw [show (k + 1) * 3 + 1 = k * 3 + 1 + 1 + 1 + 1 by omega]
    simp only [flat3, List.getD_cons_succ]
    exact flat3_1 r k (by simpa using h)
theorem flat3_2 : ∀ (ss : List Str) k, k < ss.length → (flat3 ss).getD (k * 3 + 2) 0 = (ss.getD k str0).2.2
  | [], k, h => by simp at h
  | p :: r, 0, h => rfl
  | p :: r, k + 1, h => by
    rw [show (k + 1) * 3 + 2 = k * 3 + 2 + 1 + 1 + 1 by omega]
    simp only [flat3, List.getD_cons_succ]
    exact flat3_2 r k (by simpa using h)
theorem flat3_append : ∀ a b, flat3 (a ++ b) = flat3 a ++ flat3 b
  | [], b => rfl
  | p :: r, b => by simp [flat3, flat3_append r b]
theorem flat3_take : ∀ (ss : List Str) k, flat3 (ss.take k) = (flat3 ss).take (k * 3)
  | [], k => by simp [flat3]
  | p :: r, 0 => by simp [flat3]
  | p :: r, k + 1 => by
    rw [show (k + 1) * 3 = k * 3 + 1 + 1 + 1 by omega]
    simp [flat3, flat3_take r k]
/-- The slice with address A reads as the streets ss, below block B. -/
def RdS (w : World) (B : Nat) (A : Option Addr) (ss : List Str) : Prop := RdI w B A (flat3 ss)
theorem RdS.x {w : World} {B : Nat} {A : Option Addr} {ss : List Str} (h : RdS w B A ss) {k : Nat} (hk : k < ss.length) :
    ∃ b off x y z, A = some ⟨b, off, none⟩ ∧ b < B ∧ Hid (ss.getD k str0 = (x, y, z)) ∧ w.cell? ⟨b, off + k * 3, none⟩ = some (.int .i64 x) ∧ w.cell? ⟨b, off + k * 3 + 1, none⟩ = some (.int .i64 y) ∧ w.cell? ⟨b, off + k * 3 + 2, none⟩ = some (.int .i64 z) := by
  have hl := flat3_len ss
  obtain ⟨b, off, e, hb, hc⟩ := h (by omega)
  refine ⟨b, off, (ss.getD k str0).1, (ss.getD k str0).2.1, (ss.getD k str0).2.2, e, hb, rfl, ?_, ?_, ?_⟩
  · rw [hc _ (by omega), flat3_0 _ _ hk]
  · rw [Nat.add_assoc, hc _ (by omega), flat3_1 _ _ hk]
  · rw [Nat.add_assoc, hc _ (by omega), flat3_2 _ _ hk]
theorem RdS.keep {w w' : World} {B : Nat} {A : Option Addr} {ss : List Str} (h : RdS w B A ss) (hk : ∀ p : Addr, p.block < B → w'.cell? p = w.cell? p) : RdS w' B A ss := RdI.keep h hk
theorem RdS.below {w w' : World} {B : Nat} {A : Option Addr} {ss : List Str} (h : RdS w B A ss) (hb : Below B w w') : RdS w' B A ss := RdI.below h hb
theorem RdS.more {w : World} {B B' : Nat} {A : Option Addr} {ss : List Str} (h : RdS w B A ss) (hB : B ≤ B') : RdS w B' A ss := RdI.more h hB
theorem RdS.drewN {w : World} {B : Nat} {A : Option Addr} {ss : List Str} (h : RdS w B A ss) (n : Nat) : RdS (w.drewN n) B A ss := h
theorem RdS.nil (w : World) (B : Nat) (A : Option Addr) : RdS w B A [] := RdI.nil w B A
theorem RdS.take {w : World} {B : Nat} {A : Option Addr} {ss : List Str} (h : RdS w B A ss) (k : Nat) : RdS w B A (ss.take k) := by
  intro hp
  rw [flat3_take] at hp ⊢
  rw [List.length_take] at hp
  obtain ⟨b, off, e, hb, hc⟩ := h (by omega)
  refine ⟨b, off, e, hb, fun i hi => ?_⟩
  rw [List.length_take] at hi
  rw [hc i (by omega)]
  congr 2
  simp only [List.getD, List.getElem?_take]
  rw [if_pos (by omega)]

/-- One street of a net of n nodes. -/
def OkS (n : Int) (p : Str) : Prop := (0 ≤ p.1 ∧ p.1 < n) ∧ (0 ≤ p.2.1 ∧ p.2.1 < n) ∧ 1 ≤ p.2.2 ∧ p.2.2 ≤ 9
instance (n : Int) (p : Str) : Decidable (OkS n p) := by unfold OkS; infer_instance
/-- ValidNet. -/
def vnet (n : Int) (ss : List Str) : Bool := decide ((1 ≤ n ∧ n ≤ 7) ∧ ss.length ≤ 12 ∧ ∀ p ∈ ss, OkS n p)
theorem vnet_iff (n : Int) (ss : List Str) : vnet n ss = true ↔ (1 ≤ n ∧ n ≤ 7) ∧ ss.length ≤ 12 ∧ ∀ p ∈ ss, OkS n p := by unfold vnet; rw [decide_eq_true_iff]
theorem getD_mem3 {ss : List Str} {k : Nat} (hk : k < ss.length) : ss.getD k str0 ∈ ss := by
  rw [List.getD_eq_getElem?_getD, List.getElem?_eq_getElem hk]
  exact List.getElem_mem hk
theorem mem_getD3 {ss : List Str} {p : Str} (h : p ∈ ss) : ∃ k, k < ss.length ∧ ss.getD k str0 = p := by
  obtain ⟨k, hk, e⟩ := List.getElem_of_mem h
  exact ⟨k, hk, by rw [List.getD_eq_getElem?_getD, List.getElem?_eq_getElem hk, ← e]; rfl⟩
theorem vnet_no_n {n : Int} {ss : List Str} (h : n < 1 ∨ 7 < n) : vnet n ss = false := by
  rw [Bool.eq_false_iff]; intro h'
  have := (vnet_iff n ss).1 h'
  omega
theorem vnet_no_len {n : Int} {ss : List Str} (h : 12 < ss.length) : vnet n ss = false := by
  rw [Bool.eq_false_iff]; intro h'
  have := (vnet_iff n ss).1 h'
  omega
theorem vnet_no_at {n : Int} {ss : List Str} {k : Nat} {x y z : Int} (hk : k < ss.length) (hx : ss.getD k str0 = (x, y, z)) (h : x < 0 ∨ n ≤ x ∨ y < 0 ∨ n ≤ y ∨ z < 1 ∨ 9 < z) : vnet n ss = false := by
  rw [Bool.eq_false_iff]; intro h'
  have := ((vnet_iff n ss).1 h').2.2 _ (getD_mem3 hk)
  rw [hx] at this
  unfold OkS at this
  simp only at this
  omega
/-- So far, all streets are fine. -/
def OkN (n : Int) (ss : List Str) (k : Nat) : Prop := ∀ i, i < k → OkS n (ss.getD i str0)
theorem OkN.zero (n : Int) (ss : List Str) : OkN n ss 0 := fun i hi => by omega
theorem OkN.step {n : Int} {ss : List Str} {k : Nat} {x y z : Int} (h : OkN n ss k) (hx : ss.getD k str0 = (x, y, z)) (h0 : 0 ≤ x) (h1 : x < n) (h2 : 0 ≤ y) (h3 : y < n) (h4 : 1 ≤ z) (h5 : z ≤ 9) : OkN n ss (k + 1) := fun i hi => by
  by_cases e : i = k
  · subst e; rw [hx]; exact ⟨⟨h0, h1⟩, ⟨h2, h3⟩, h4, h5⟩
  · exact h i (by omega)
theorem vnet_yes {n : Int} {ss : List Str} {k : Nat} (h : OkN n ss k) (h1 : 1 ≤ n) (h7 : n ≤ 7) (h12 : ss.length ≤ 12) (hk : ss.length ≤ k) : vnet n ss = true :=
  (vnet_iff n ss).2 ⟨⟨h1, h7⟩, h12, fun p hp => by
    obtain ⟨i, hi, e⟩ := mem_getD3 hp
    rw [← e]; exact h i (by omega)⟩
/-- Fewer streets are a net. -/
theorem vnet_take {n : Int} {ss : List Str} (h : vnet n ss = true) (k : Nat) : vnet n (ss.take k) = true := by
  obtain ⟨h1, h2, h3⟩ := (vnet_iff n ss).1 h
  exact (vnet_iff _ _).2 ⟨h1, by rw [List.length_take]; omega, fun p hp => h3 p (List.mem_of_mem_take hp)⟩
end Go.Proofs.Ytkgomgfhhhdnjaa
namespace Go.Proofs.Ytkgomgfhhhdnjaa
open Go.ChangeShapes Go.WideShapes Go.ChangeAt Go.RowKit
set_option linter.unusedVariables false

/-- Ways over streets, and their lengths. -/
inductive Wk (E : Nat → Nat → Int → Prop) (n : Nat) (a : Nat) : Nat → Int → Prop
  | nil : a < n → Wk E n a a 0
  | snoc (u v : Nat) (x L : Int) : Wk E n a u x → E u v L → v < n → Wk E n a v (x + L)
theorem Wk.start {E : Nat → Nat → Int → Prop} {n a b : Nat} {x : Int} (h : Wk E n a b x) : a < n := by
  induction h with
  | nil h => exact h
  | snoc u v x L h1 h2 h3 ih => exact ih
theorem Wk.cons {E : Nat → Nat → Int → Prop} {n a u b : Nat} {L x : Int} (ha : a < n) (he : E a u L) (h : Wk E n u b x) : Wk E n a b (L + x) := by
  induction h with
  | nil hu => have := Wk.snoc a u 0 L (Wk.nil ha) he hu; rw [Int.zero_add] at this; rw [Int.add_zero]; exact this
  | snoc w v x M h1 h2 h3 ih => rw [← Int.add_assoc]; exact Wk.snoc _ _ _ _ ih h2 h3
theorem Wk.join {E : Nat → Nat → Int → Prop} {n a c b : Nat} {x y : Int} (h1 : Wk E n a c x) (h2 : Wk E n c b y) : Wk E n a b (x + y) := by
  induction h2 with
  | nil hc => rw [Int.add_zero]; exact h1
  | snoc w v y M h3 h4 h5 ih => rw [← Int.add_assoc]; exact Wk.snoc _ _ _ _ ih h4 h5
theorem Wk.rev {E : Nat → Nat → Int → Prop} {n a b : Nat} {x : Int} (hs : ∀ u v L, E u v L → E v u L) (h : Wk E n a b x) : Wk E n b a x := by
  induction h with
  | nil ha => exact Wk.nil ha
  | snoc u v x L h1 h2 h3 ih => rw [Int.add_comm]; exact Wk.cons h3 (hs _ _ _ h2) ih
structure Short (E : Nat → Nat → Int → Prop) (n : Nat) (X : Nat → Nat → Int) : Prop where
  zero : ∀ a, a < n → X a a = 0
  step : ∀ a u v L, a < n → E u v L → v < n → 0 ≤ X a u → 0 ≤ X a v ∧ X a v ≤ X a u + L
  way : ∀ a b, a < n → b < n → X a b = -1 ∨ (0 ≤ X a b ∧ Wk E n a b (X a b))
theorem Short.le {E : Nat → Nat → Int → Prop} {n : Nat} {X : Nat → Nat → Int} (h : Short E n X) {a b : Nat} {x : Int} (ha : a < n) (hw : Wk E n a b x) : 0 ≤ X a b ∧ X a b ≤ x := by
  induction hw with
  | nil ha => rw [h.zero a ha]; omega
  | snoc u v x L h1 h2 h3 ih =>
    have := h.step a u v L ha h2 h3 ih.1
    omega
theorem Short.unique {E : Nat → Nat → Int → Prop} {n : Nat} {X Y : Nat → Nat → Int} (hx : Short E n X) (hy : Short E n Y) {a b : Nat} (ha : a < n) (hb : b < n) : X a b = Y a b := by
  rcases hx.way a b ha hb with h1 | ⟨h1, h2⟩ <;> rcases hy.way a b ha hb with h3 | ⟨h3, h4⟩
  · rw [h1, h3]
  · have := hx.le ha h4; omega
  · have := hy.le ha h2; omega
  · have := hx.le ha h4; have := hy.le ha h2; omega
theorem Short.symm {E : Nat → Nat → Int → Prop} {n : Nat} {X : Nat → Nat → Int} (hs : ∀ u v L, E u v L → E v u L) (hx : Short E n X) {a b : Nat} (ha : a < n) (hb : b < n) : X a b = X b a := by
  rcases hx.way a b ha hb with h1 | ⟨h1, h2⟩ <;> rcases hx.way b a hb ha with h3 | ⟨h3, h4⟩
  · rw [h1, h3]
  · have := hx.le ha (h4.rev hs); omega
  · have := hx.le hb (h2.rev hs); omega
  · have := hx.le ha (h4.rev hs); have := hx.le hb (h2.rev hs); omega
theorem Short.tri {E : Nat → Nat → Int → Prop} {n : Nat} {X : Nat → Nat → Int} (hx : Short E n X) {a b c : Nat} (ha : a < n) (hb : b < n) (hc : c < n) (h1 : 0 ≤ X a c) (h2 : 0 ≤ X c b) : 0 ≤ X a b ∧ X a b ≤ X a c + X c b := by
  rcases hx.way a c ha hc with h3 | ⟨_, h3⟩
  · omega
  · rcases hx.way c b hc hb with h4 | ⟨_, h4⟩
    · omega
    · exact hx.le ha (h3.join h4)

/-- The roads of a tree, as streets. -/
def TE (t : List (Int × Int)) (n : Nat) (u v : Nat) (L : Int) : Prop := ∃ i, 1 ≤ i ∧ i < n ∧ L = tlg t i ∧ ((u = tto t i ∧ v = i) ∨ (u = i ∧ v = tto t i))
theorem TE.symm {t : List (Int × Int)} {n u v : Nat} {L : Int} (h : TE t n u v L) : TE t n v u L := by
  obtain ⟨i, h1, h2, h3, h4⟩ := h
  exact ⟨i, h1, h2, h3, h4.elim (fun h => .inr ⟨h.2, h.1⟩) (fun h => .inl ⟨h.2, h.1⟩)⟩
theorem dn_way {t : List (Int × Int)} (ht : Ahead t) {n : Nat} (hn : n ≤ t.length) : ∀ m a b, a + b = m → a < n → b < n → Wk (TE t n) n a b (dn t n a b) := by
  intro m
  induction m using Nat.strongRecOn with
  | ind m ih =>
    intro a b hm ha hb
    rcases Nat.lt_trichotomy a b with h | h | h
    · have hr := ht b (by omega) (by omega)
      rw [dn_symm, dn_road ht hn hb h, dn_symm]
      exact Wk.snoc _ _ _ _ (ih (a + tto t b) (by omega) a (tto t b) rfl ha (by omega)) ⟨b, by omega, hb, rfl, .inl ⟨rfl, rfl⟩⟩ hb
    · subst h; rw [dn_diag t n a ha]; exact Wk.nil ha
    · have hr := ht a (by omega) (by omega)
      rw [dn_road ht hn ha h, Int.add_comm]
      exact Wk.cons ha ⟨a, by omega, ha, rfl, .inr ⟨rfl, rfl⟩⟩ (ih (tto t a + b) (by omega) (tto t a) b rfl (by omega) hb)
/-- A tree's table is that of its roads as streets. -/
theorem dn_short {t : List (Int × Int)} (ht : Ahead t) {n : Nat} (hn : n ≤ t.length) : Short (TE t n) n (dn t n) where
  zero a ha := dn_diag t n a ha
  step a u v L ha he hv h0 := by
    obtain ⟨i, h1, h2, rfl, h4⟩ := he
    have hr := ht i h1 (by omega)
    have ho := dn_over ht hn h1 h2 a ha
    rw [dn_symm t n i a, dn_symm t n (tto t i) a] at ho
    refine ⟨(dn_bd ht n a v hn ha hv).1, ?_⟩
    rcases h4 with ⟨rfl, rfl⟩ | ⟨rfl, rfl⟩ <;> split at ho <;> omega
  way a b ha hb := .inr ⟨(dn_bd ht n a b hn ha hb).1, dn_way ht hn _ a b rfl ha hb⟩

/-- A table's entry, no way as a great number. -/
def big (x : Int) : Int := if x < 0 then 1000000 else x
/-- With one node more in the middle. -/
theorem middles_step {X Y : Nat → Nat → Int} {n m : Nat} (hbd : ∀ a b, a < n → b < n → -1 ≤ X a b ∧ X a b ≤ 400000) (hm : m < n) (h0 : X m m = 0) (hY : ∀ a b, a < n → b < n → big (Y a b) = min (big (X a b)) (min 1000000 (big (X a m) + big (X m b))))
    (hT : ∀ a b c, a < n → b < n → c < m → big (X a b) ≤ big (X a c) + big (X c b)) : ∀ a b c, a < n → b < n → c < m + 1 → big (Y a b) ≤ big (Y a c) + big (Y c b) := by
  intro a b c ha hb hc
  have nn : ∀ a b, a < n → b < n → 0 ≤ big (X a b) ∧ big (X a b) ≤ 1000000 := fun a b ha hb => by have := hbd a b ha hb; unfold big; split <;> omega
  rw [hY a b ha hb, hY a c ha (by omega), hY c b (by omega) hb]
  have e0 : big (X m m) = 0 := by rw [h0]; rfl
  have n1 := nn a b ha hb; have n2 := nn a c ha (by omega); have n3 := nn c b (by omega) hb; have n4 := nn a m ha hm; have n5 := nn m b hm hb; have n6 := nn m c hm (by omega); have n7 := nn c m (by omega) hm
  by_cases e : c = m
  · subst e
    omega
  · have t1 := hT a b c ha hb (by omega)
    have t2 := hT m b c hm hb (by omega)
    have t3 := hT a m c ha hm (by omega)
    omega
end Go.Proofs.Ytkgomgfhhhdnjaa
namespace Go.Proofs.Ytkgomgfhhhdnjaa
open Go.ChangeShapes Go.WideShapes Go.ChangeAt Go.RowKit
set_option linter.unusedVariables false

/-- The streets, both ways. -/
def SE (ss : List Str) (u v : Nat) (L : Int) : Prop := ∃ p, p ∈ ss ∧ L = p.2.2 ∧ ((p.1 = u ∧ p.2.1 = v) ∨ (p.1 = v ∧ p.2.1 = u))
theorem SE.symm {ss : List Str} {u v : Nat} {L : Int} (h : SE ss u v L) : SE ss v u L := by
  obtain ⟨p, h1, h2, h3⟩ := h
  exact ⟨p, h1, h2, h3.symm⟩
theorem SE.pos {n : Int} {ss : List Str} (hv : vnet n ss = true) {u v : Nat} {L : Int} (h : SE ss u v L) : 1 ≤ L ∧ L ≤ 9 ∧ (u : Int) < n ∧ (v : Int) < n := by
  obtain ⟨p, h1, h2, h3⟩ := h
  have := ((vnet_iff n ss).1 hv).2.2 p h1
  unfold OkS at this
  omega

/-- How many nodes a row reaches. -/
def cntX (X : Nat → Nat → Int) (a : Nat) : Nat → Nat
  | 0 => 0
  | m + 1 => cntX X a m + (if 0 ≤ X a m then 1 else 0)
theorem cntX_le (X : Nat → Nat → Int) (a : Nat) : ∀ m, cntX X a m ≤ m
  | 0 => Nat.le_refl _
  | m + 1 => by have := cntX_le X a m; simp only [cntX]; split <;> omega
def up2 (X : Nat → Nat → Int) (a b : Nat) (v : Int) : Nat → Nat → Int := fun i j => if i = a ∧ j = b then v else X i j
theorem up2_at (X : Nat → Nat → Int) (a b : Nat) (v : Int) : up2 X a b v a b = v := if_pos ⟨rfl, rfl⟩
theorem up2_other (X : Nat → Nat → Int) {a b i j : Nat} (v : Int) (h : ¬ (i = a ∧ j = b)) : up2 X a b v i j = X i j := if_neg h
theorem cntX_row {X : Nat → Nat → Int} {a b i : Nat} {v : Int} (h : i ≠ a) : ∀ m, cntX (up2 X a b v) i m = cntX X i m
  | 0 => rfl
  | m + 1 => by simp only [cntX]; rw [cntX_row h m, up2_other _ _ (fun e => h e.1)]
theorem cntX_up {X : Nat → Nat → Int} {a b : Nat} {v : Int} (hv : 0 ≤ v) : ∀ m, cntX (up2 X a b v) a m = cntX X a m + (if b < m ∧ X a b < 0 then 1 else 0)
  | 0 => by simp [cntX]
  | m + 1 => by
    simp only [cntX]
    rw [cntX_up hv m]
    by_cases e : b = m
    · subst e
      rw [up2_at, if_pos hv]
      repeat' split
      all_goals omega
    · rw [up2_other _ _ (fun e' => e e'.2.symm)]
      repeat' split
      all_goals omega

/-- The table while it is made shorter: each entry is a way's length or -1. -/
structure Rlx (ss : List Str) (n : Nat) (X : Nat → Nat → Int) : Prop where
  zero : ∀ a, a < n → X a a = 0
  way : ∀ a b, a < n → b < n → X a b = -1 ∨ (0 ≤ X a b ∧ Wk (SE ss) n a b (X a b))
  bd : ∀ a b, a < n → b < n → X a b + 9 ≤ 9 * (cntX X a n : Int)
theorem Rlx.le {ss : List Str} {n : Nat} {X : Nat → Nat → Int} (h : Rlx ss n X) (hn : n ≤ 7) {a b : Nat} (ha : a < n) (hb : b < n) : -1 ≤ X a b ∧ X a b ≤ 54 := by
  have h1 := h.bd a b ha hb
  have h2 := cntX_le X a n
  rcases h.way a b ha hb with h3 | ⟨h3, -⟩ <;> omega
def ownX (a b : Nat) : Int := if a = b then 0 else -1
theorem cntX_own (a : Nat) : ∀ m, cntX ownX a m = if a < m then 1 else 0
  | 0 => rfl
  | m + 1 => by
    simp only [cntX]
    rw [cntX_own a m]
    unfold ownX
    by_cases h : a = m
    · subst h; simp
    · rw [if_neg h]
      by_cases h2 : a < m
      · rw [if_pos h2, if_neg (by omega), if_pos (by omega)]
      · rw [if_neg h2, if_neg (by omega), if_neg (by omega)]
theorem rlx_start (ss : List Str) (n : Nat) : Rlx ss n ownX where
  zero a _ := by simp [ownX]
  way a b ha hb := by
    unfold ownX
    by_cases h : a = b
    · subst h; rw [if_pos rfl]; exact .inr ⟨Int.le_refl _, Wk.nil ha⟩
    · rw [if_neg h]; exact .inl rfl
  bd a b ha hb := by rw [cntX_own, if_pos ha]; unfold ownX; split <;> omega
/-- One entry shorter. -/
theorem rlx_step {ss : List Str} {n : Nat} {X : Nat → Nat → Int} (h : Rlx ss n X) {at' u v : Nat} {L : Int} (ha : at' < n) (hu : u < n) (hv : v < n) (he : SE ss u v L) (hL : 1 ≤ L ∧ L ≤ 9) (h0 : 0 ≤ X at' u) (hc : X at' v < 0 ∨ X at' u + L < X at' v) :
    Rlx ss n (up2 X at' v (X at' u + L)) where
  zero a ha' := by
    by_cases e : a = at' ∧ a = v
    · obtain ⟨e1, e2⟩ := e
      subst e1
      rw [← e2, h.zero a ha'] at hc
      omega
    · rw [up2_other _ _ e]; exact h.zero a ha'
  way a b ha' hb := by
    by_cases e : a = at' ∧ b = v
    · obtain ⟨rfl, rfl⟩ := e
      rw [up2_at]
      rcases h.way a u ha hu with h1 | ⟨_, h1⟩
      · omega
      · exact .inr ⟨by omega, Wk.snoc _ _ _ _ h1 he hv⟩
    · rw [up2_other _ _ e]; exact h.way a b ha' hb
  bd a b ha' hb := by
    by_cases e1 : a = at'
    · subst e1
      rw [cntX_up (by omega)]
      have h1 := h.bd a u ha hu
      have h2 := h.bd a b ha hb
      have h3 := h.bd a v ha hv
      by_cases e : b = v
      · subst e
        rw [up2_at]
        by_cases hn : X a b < 0
        · rw [if_pos ⟨hb, hn⟩]; omega
        · rw [if_neg (by omega)]; omega
      · rw [up2_other _ _ (fun e' => e e'.2)]
        omega
    · rw [cntX_row e1, up2_other _ _ (fun e => e1 e.1)]; exact h.bd a b ha' hb

/-- What goes down with each step. -/
def sumR (f : Nat → Nat) : Nat → Nat
  | 0 => 0
  | m + 1 => sumR f m + f m
theorem sumR_congr {f g : Nat → Nat} : ∀ {m}, (∀ i, i < m → f i = g i) → sumR f m = sumR g m
  | 0, _ => rfl
  | m + 1, h => by simp only [sumR]; rw [sumR_congr fun i hi => h i (by omega), h m (by omega)]
theorem sumR_lt {f g : Nat → Nat} {k : Nat} : ∀ {m}, k < m → (∀ i, i < m → i ≠ k → f i = g i) → f k < g k → sumR f m < sumR g m
  | 0, h, _, _ => by omega
  | m + 1, h, he, hk => by
    simp only [sumR]
    by_cases e : k = m
    · subst e
      rw [sumR_congr fun i hi => he i (by omega) (by omega)]; omega
    · have := sumR_lt (m := m) (by omega) (fun i hi hne => he i (by omega) hne) hk
      rw [he m (by omega) (fun e' => e e'.symm)]; omega
def ent (x : Int) : Nat := if x < 0 then 64 else x.toNat
def totX (X : Nat → Nat → Int) (n : Nat) : Nat := sumR (fun a => sumR (fun b => ent (X a b)) n) n
theorem totX_step {X : Nat → Nat → Int} {n a b : Nat} {v : Int} (ha : a < n) (hb : b < n) (hv : 0 ≤ v ∧ v < 64) (h : X a b < 0 ∨ v < X a b) : totX (up2 X a b v) n < totX X n := by
  refine sumR_lt (k := a) ha (fun i hi hne => ?_) ?_
  · refine sumR_congr fun j hj => ?_
    rw [up2_other _ _ (fun e => hne e.1)]
  · refine sumR_lt (k := b) hb (fun j hj hne => ?_) ?_
    · rw [up2_other _ _ (fun e => hne e.2)]
    · rw [up2_at]; unfold ent; rw [if_neg (by omega)]; split <;> omega

/-- A street's way in one sense does not make row a shorter. -/
def Cz (X : Nat → Nat → Int) (a u v : Nat) (L : Int) : Prop := 0 ≤ X a u → 0 ≤ X a v ∧ X a v ≤ X a u + L
theorem rlx_short {ss : List Str} {n : Nat} {X : Nat → Nat → Int} (h : Rlx ss n X) (hs : ∀ p : Str, ∀ u v : Nat, p ∈ ss → p.1 = u → p.2.1 = v → u < n → v < n → ∀ a, a < n → Cz X a u v p.2.2 ∧ Cz X a v u p.2.2) (hN : ∀ u v L, SE ss u v L → u < n ∧ v < n) : Short (SE ss) n X where
  zero := h.zero
  step a u v L ha he hv h0 := by
    have hu := (hN u v L he).1
    obtain ⟨p, hp, rfl, ⟨h1, h2⟩ | ⟨h1, h2⟩⟩ := he
    · exact (hs p u v hp h1 h2 hu hv a ha).1 h0
    · exact (hs p v u hp h1 h2 hv hu a ha).2 h0
  way a b ha hb := h.way a b ha hb
theorem se_lt {n : Nat} {ss : List Str} (hv : vnet n ss = true) : ∀ u v L, SE ss u v L → u < n ∧ v < n := fun u v L h => by
  have := SE.pos hv h
  omega
theorem exists_short {n : Nat} {ss : List Str} (hv : vnet n ss = true) : ∀ (m : Nat) (X : Nat → Nat → Int), totX X n = m → Rlx ss n X → ∃ Y, Short (SE ss) n Y ∧ ∀ a b, a < n → b < n → -1 ≤ Y a b ∧ Y a b ≤ 54 := by
  intro m
  induction m using Nat.strongRecOn with
  | ind m ih =>
    intro X hm h
    have h7 := ((vnet_iff _ _).1 hv).1
    by_cases hc : ∃ a u v L, a < n ∧ u < n ∧ v < n ∧ SE ss u v L ∧ ¬ Cz X a u v L
    · obtain ⟨a, u, v, L, ha, hu, hv', he, hcz⟩ := hc
      have hL := SE.pos hv he
      have h0 : 0 ≤ X a u := by
        by_cases h0 : 0 ≤ X a u
        · exact h0
        · exact absurd (fun h1 => absurd h1 h0) hcz
      have hlt : X a v < 0 ∨ X a u + L < X a v := by
        by_cases h1 : X a v < 0 ∨ X a u + L < X a v
        · exact h1
        · exact absurd (fun _ => ⟨by omega, by omega⟩) hcz
      have hb := h.le (by omega) ha hu
      exact ih _ (by rw [← hm]; exact totX_step ha hv' (by omega) hlt) _ rfl (rlx_step h ha hu hv' he ⟨hL.1, hL.2.1⟩ h0 hlt)
    · refine ⟨X, rlx_short h (fun p u v hp h1 h2 hu hv' a ha => ⟨?_, ?_⟩) (se_lt hv), fun a b ha hb => h.le (by omega) ha hb⟩
      · by_cases hz : Cz X a u v p.2.2
        · exact hz
        · exact absurd ⟨a, u, v, _, ha, hu, hv', ⟨p, hp, rfl, .inl ⟨h1, h2⟩⟩, hz⟩ hc
      · by_cases hz : Cz X a v u p.2.2
        · exact hz
        · exact absurd ⟨a, v, u, _, ha, hv', hu, ⟨p, hp, rfl, .inr ⟨h1, h2⟩⟩, hz⟩ hc
open Classical in
/-- The table of shortest ways. -/
noncomputable def sht (n : Nat) (ss : List Str) : Nat → Nat → Int := if h : ∃ Y, Short (SE ss) n Y ∧ ∀ a b, a < n → b < n → -1 ≤ Y a b ∧ Y a b ≤ 54 then Classical.choose h else fun _ _ => 0
theorem sht_spec {n : Nat} {ss : List Str} (hv : vnet n ss = true) : Short (SE ss) n (sht n ss) ∧ ∀ a b, a < n → b < n → -1 ≤ sht n ss a b ∧ sht n ss a b ≤ 54 := by
  have h := exists_short hv _ ownX rfl (rlx_start ss n)
  unfold sht
  rw [dif_pos h]
  exact Classical.choose_spec h
theorem sht_is {n : Nat} {ss : List Str} (hv : vnet n ss = true) {X : Nat → Nat → Int} (h : Short (SE ss) n X) {a b : Nat} (ha : a < n) (hb : b < n) : X a b = sht n ss a b := h.unique (sht_spec hv).1 ha hb
end Go.Proofs.Ytkgomgfhhhdnjaa
namespace Go.Proofs.Ytkgomgfhhhdnjaa
open Go.ChangeShapes Go.WideShapes Go.ChangeAt Go.RowKit
set_option linter.unusedVariables false
set_option maxRecDepth 4000

/-- A table's row. -/
def rowX (X : Nat → Nat → Int) (n a : Nat) : List Int := (List.range n).map fun b => X a b
theorem rowX_len (X : Nat → Nat → Int) (n a : Nat) : (rowX X n a).length = n := by simp [rowX]
theorem rowX_get (X : Nat → Nat → Int) {n a b : Nat} (hb : b < n) : (rowX X n a).getD b 0 = X a b := by simp [rowX, List.getD, hb]
theorem rowX_congr {X Y : Nat → Nat → Int} {n a : Nat} (h : ∀ b, b < n → X a b = Y a b) : rowX X n a = rowX Y n a := by
  unfold rowX
  exact List.map_congr_left fun b hb => h b (List.mem_range.1 hb)
theorem rowX_step (X : Nat → Nat → Int) (n a : Nat) : rowX X (n + 1) a = rowX X n a ++ [X a n] := by
  unfold rowX
  rw [List.range_succ, List.map_append]; rfl
theorem rowX_set (X : Nat → Nat → Int) {n a b : Nat} (v : Int) (hb : b < n) : (rowX X n a).set b v = rowX (up2 X a b v) n a := by
  unfold rowX
  apply List.ext_getElem?
  intro i
  rw [List.getElem?_set]
  by_cases hi : i < n
  · by_cases e : b = i
    · subst e; simp [hi, up2_at]
    · have : ¬ (a = a ∧ i = b) := fun h => e h.2.symm
      simp [hi, e, up2_other X v this]
  · simp [hi]; omega
/-- A row more, made since. -/
theorem TT.addRow {w wq : World} {B m k : Nat} {VR : Nat → Value} {ls : Nat → List Int} {v : Value} {row : List Int} (h : TT w B m VR ls) (hB : B ≤ w.heap.size) (hb : Below w.heap.size w wq) (hk : row.length = k)
    (hown : wq.ownsRow w.heap.size 3 1 v k (row.map (Value.int .i64))) : TT wq B (m + 1) (upd VR m v) (upd ls m row) := by
  constructor
  · intro j hj
    by_cases e : j = m
    · subst e
      rw [upd_at, upd_at, hk]
      refine ⟨hown.1, ?_⟩
      rcases hown.2 with h0 | ⟨g, cap, cur, h1, h2, h3⟩
      · exact .inl h0
      · exact .inr ⟨g, cap, cur, h1, by omega, h3⟩
    · rw [upd_other _ _ e, upd_other _ _ e]
      exact ownN_below (h.own j (by omega)) hb
  · intro i j g hi hj h1 h2
    by_cases e1 : i = m <;> by_cases e2 : j = m
    · omega
    · rw [e1, upd_at] at h1; rw [upd_other _ _ e2] at h2
      have := (own_heap hown h1).2.1
      have := (own_heap (h.own j (by omega)) h2).2.2; omega
    · rw [e2, upd_at] at h2; rw [upd_other _ _ e1] at h1
      have := (own_heap hown h2).2.1
      have := (own_heap (h.own i (by omega)) h1).2.2; omega
    · rw [upd_other _ _ e1] at h1; rw [upd_other _ _ e2] at h2
      exact h.dis i j g (by omega) (by omega) h1 h2
/-- The new row lies in the table. -/
theorem tabX_end {w w2 w3 : World} {m g cA g3 c3 : Nat} {VR : Nat → Value} {ls : Nat → List Int} {v : Value} {o : Obj} (hT : TT w2 w.heap.size (m + 1) (upd VR m v) ls) (hO : Outer w2 w.heap.size m (.slice (some ⟨g, 0, none⟩) m cA) VR) (hB : Below w.heap.size w w2)
    (hown : w3.ownsRow w.heap.size 25 1 (.slice (some ⟨g3, 0, none⟩) (m + 1) c3) (m + 1) ((List.range m).map VR ++ [v])) (hg : (w2.alloc o).grownBy w3 (Value.slice (some ⟨g, 0, none⟩) m cA).ownBlock) (hs : (w2.alloc o).heap.size = w2.heap.size + 1) :
    Outer w3 w.heap.size (m + 1) (.slice (some ⟨g3, 0, none⟩) (m + 1) c3) (upd VR m v) ∧ TT w3 w.heap.size (m + 1) (upd VR m v) ls ∧ Below w.heap.size w w3 := by
  have hW := (Below.refl w2.heap.size w2).alloc (Nat.le_refl _) o
  obtain ⟨⟨cs, hc⟩, hB2, _⟩ := own_heap (ownN_below hO hW) (g := g) rfl
  refine ⟨?_, (hT.below hW).keptBy hg (fun g' e => ?_), (hB.trans (hW.mono hB.size)).grown hg (by rw [hs]; have := hB.size; omega) (fun g' e => ?_)⟩
  · unfold Outer
    rw [List.range_succ, List.map_append]
    have e : (List.range m).map (upd VR m v) = (List.range m).map VR := List.map_congr_left fun i hi => upd_other _ _ (by have := List.mem_range.1 hi; omega)
    rw [e]
    simpa [upd_at] using hown
  · have : g = g' := by simpa [Value.ownBlock] using e
    subst this
    exact ⟨cs, _, hc, by decide⟩
  · have : g = g' := by simpa [Value.ownBlock] using e
    subst this
    exact hB2
/-- The cells of an entry. -/
theorem tab_cells {w : World} {B n g c a b : Nat} {VR : Nat → Value} {X : Nat → Nat → Int} (hO : Outer w B n (.slice (some ⟨g, 0, none⟩) n c) VR) (hT : TT w B n VR (rowX X n)) (ha : a < n) (hb : b < n) :
    ∃ gr cr, VR a = .slice (some ⟨gr, 0, none⟩) n cr ∧ w.cell? ⟨g, a, none⟩ = some (.slice (some ⟨gr, 0, none⟩) n cr) ∧ w.cell? ⟨gr, b, none⟩ = some (.int .i64 (X a b)) ∧ w.frozen? ⟨gr, b, none⟩ = false := by
  obtain ⟨gr, cr, e, hc⟩ := hT.cells ha (k := b) (by rw [rowX_len]; exact hb)
  rw [rowX_len] at e
  rw [rowX_get X hb] at hc
  have h1 := Outer.cell hO ha
  rw [e] at h1
  have h2 := hT.own a ha
  rw [e, rowX_len] at h2
  exact ⟨gr, cr, e, h1, hc, h2.frozenAt b⟩
/-- An entry changed. -/
theorem tab_set {w : World} {B n g c a b gr cr : Nat} {VR : Nat → Value} {X : Nat → Nat → Int} (v : Int) (hO : Outer w B n (.slice (some ⟨g, 0, none⟩) n c) VR) (hT : TT w B n VR (rowX X n)) (ha : a < n) (hb : b < n) (he : VR a = .slice (some ⟨gr, 0, none⟩) n cr) :
    Outer (w.setCell ⟨gr, b, none⟩ (.int .i64 v)) B n (.slice (some ⟨g, 0, none⟩) n c) VR ∧ TT (w.setCell ⟨gr, b, none⟩ (.int .i64 v)) B n VR (rowX (up2 X a b v) n) ∧ B ≤ gr := by
  have h1 := hT.own a ha
  rw [he, rowX_len] at h1
  obtain ⟨⟨cs, hcs⟩, hB, -⟩ := own_heap h1 (g := gr) rfl
  refine ⟨ownsRow_setCell_other hO (fun e => ?_) _, ⟨fun j hj => ?_, hT.dis⟩, hB⟩
  · obtain ⟨⟨cs', hc'⟩, _⟩ := own_heap hO e
    exact types_apart hcs hc' (by decide) rfl
  · by_cases e : j = a
    · subst e
      have h2 := (World.ownsRow.stored h1 b (.int .i64 v)).1
      rw [he, rowX_len]
      rw [← List.map_set, rowX_set X v hb] at h2
      exact h2
    · have hrow : rowX (up2 X a b v) n j = rowX X n j := rowX_congr fun i _ => up2_other _ _ (fun h => e h.1)
      rw [hrow]
      exact ownsRow_setCell_other (hT.own j hj) (fun e' => e (hT.dis j a gr hj ha e' (by rw [he]; rfl))) _
/-- What a table's call answers. -/
def NTab (w : World) (n : Nat) (X : Nat → Nat → Int) (e : Ending) (w' : World) : Prop :=
  ∃ v VR, e = .returned v ∧ Outer w' w.heap.size n v VR ∧ TT w' w.heap.size n VR (rowX X n) ∧ Below w.heap.size w w'
/-- The rows so far. -/
def RowsRel (w : World) (n : Nat) (v i : Value) (wr : World) : Prop :=
  ∃ m : Nat, ∃ VR g cA, m ≤ n ∧ i = .int .i64 m ∧ v = .slice (some ⟨g, 0, none⟩) m cA ∧ Outer wr w.heap.size m v VR ∧ TT wr w.heap.size m VR (rowX ownX n) ∧ Below w.heap.size w wr
/-- The row so far. -/
def RowRelX (w : World) (n m : Nat) (r k : Value) (wr : World) : Prop :=
  ∃ j : Nat, j ≤ n ∧ k = .int .i64 j ∧ wr.ownsRow w.heap.size 3 1 r j ((rowX ownX j m).map (Value.int .i64)) ∧ Below w.heap.size w wr

/-- A street does not make row a shorter, in neither sense. -/
def CzS (X : Nat → Nat → Int) (n : Nat) (ss : List Str) (i a : Nat) : Prop :=
  ∀ u v : Nat, (ss.getD i str0).1 = u → (ss.getD i str0).2.1 = v → Cz X a u v (ss.getD i str0).2.2 ∧ Cz X a v u (ss.getD i str0).2.2
/-- Made shorter, or as it was and all that was looked at is short. -/
def Chg (X0 X : Nat → Nat → Int) (n : Nat) (ch : Bool) (C : Prop) : Prop := (ch = true ∧ totX X n < totX X0 n) ∨ (ch = false ∧ X = X0 ∧ C)
theorem Chg.imp {X0 X : Nat → Nat → Int} {n : Nat} {ch : Bool} {C D : Prop} (h : Chg X0 X n ch C) (hi : C → D) : Chg X0 X n ch D := h.imp_right fun ⟨h1, h2, h3⟩ => ⟨h1, h2, hi h3⟩
theorem Chg.step {X0 X Y : Nat → Nat → Int} {n : Nat} {ch : Bool} {C D : Prop} (h : Chg X0 X n ch C) (hl : totX Y n < totX X n) : Chg X0 Y n true D := by
  left
  refine ⟨rfl, ?_⟩
  rcases h with ⟨_, h1⟩ | ⟨_, rfl, _⟩ <;> omega
/-- All that the loops over streets and rows have looked at, down to the turn. -/
def Seen (X : Nat → Nat → Int) (n : Nat) (ss : List Str) (s a t : Nat) : Prop :=
  (∀ i, i < s → ∀ b, b < n → CzS X n ss i b) ∧ (∀ b, b < a → CzS X n ss s b) ∧
    ∀ u v : Nat, (ss.getD s str0).1 = u → (ss.getD s str0).2.1 = v → (1 ≤ t → Cz X a u v (ss.getD s str0).2.2) ∧ (2 ≤ t → Cz X a v u (ss.getD s str0).2.2)
theorem seen_start (X : Nat → Nat → Int) (n : Nat) (ss : List Str) : Seen X n ss 0 0 0 := ⟨fun i hi => by omega, fun b hb => by omega, fun u v _ _ => ⟨fun h => by omega, fun h => by omega⟩⟩
theorem Seen.row {X : Nat → Nat → Int} {n : Nat} {ss : List Str} {s a : Nat} (h : Seen X n ss s a 2) : Seen X n ss s (a + 1) 0 :=
  ⟨h.1, fun b hb => by
    by_cases e : b = a
    · subst e; exact fun u v h1 h2 => ⟨(h.2.2 u v h1 h2).1 (by omega), (h.2.2 u v h1 h2).2 (by omega)⟩
    · exact h.2.1 b (by omega), fun u v _ _ => ⟨fun h => by omega, fun h => by omega⟩⟩
theorem Seen.street {X : Nat → Nat → Int} {n : Nat} {ss : List Str} {s : Nat} (h : Seen X n ss s n 0) : Seen X n ss (s + 1) 0 0 :=
  ⟨fun i hi b hb => by
    by_cases e : i = s
    · subst e; exact h.2.1 b hb
    · exact h.1 i (by omega) b hb, fun b hb => by omega, fun u v _ _ => ⟨fun h => by omega, fun h => by omega⟩⟩
theorem Seen.first {X : Nat → Nat → Int} {n : Nat} {ss : List Str} {s a u v : Nat} {L : Int} (h : Seen X n ss s a 0) (hp : ss.getD s str0 = ((u : Int), (v : Int), L)) (hc : Cz X a u v L) : Seen X n ss s a 1 :=
  ⟨h.1, h.2.1, fun u' v' h1 h2 => ⟨fun _ => by
    rw [hp] at h1 h2 ⊢
    simp only at h1 h2 ⊢
    have e1 : u' = u := by omega
    have e2 : v' = v := by omega
    rw [e1, e2]; exact hc, fun h => by omega⟩⟩
theorem Seen.second {X : Nat → Nat → Int} {n : Nat} {ss : List Str} {s a u v : Nat} {L : Int} (h : Seen X n ss s a 1) (hp : ss.getD s str0 = ((u : Int), (v : Int), L)) (hc : Cz X a v u L) : Seen X n ss s a 2 :=
  ⟨h.1, h.2.1, fun u' v' h1 h2 => ⟨fun _ => (h.2.2 u' v' h1 h2).1 (by omega), fun _ => by
    rw [hp] at h1 h2 ⊢
    simp only at h1 h2 ⊢
    have e1 : u' = u := by omega
    have e2 : v' = v := by omega
    rw [e1, e2]; exact hc⟩⟩
theorem seen_short {X : Nat → Nat → Int} {n : Nat} {ss : List Str} (hv : vnet n ss = true) (h : Rlx ss n X) (hs : Seen X n ss ss.length 0 0) : Short (SE ss) n X :=
  rlx_short h (fun p u v hp h1 h2 hu hv' a ha => by
    obtain ⟨i, hi, e⟩ := mem_getD3 hp
    have := hs.1 i hi a ha u v (by rw [e]; exact h1) (by rw [e]; exact h2)
    rw [e] at this; exact this) (se_lt hv)
/-- What a round of NetTable's loop keeps. -/
def NetRel (w : World) (ss : List Str) (n g c : Nat) (VR : Nat → Value) (X0 : Nat → Nat → Int) (s a t : Nat) (ch : Value) (wr : World) : Prop :=
  ∃ X b, ch = .bool b ∧ Rlx ss n X ∧ Chg X0 X n b (Seen X n ss s a t) ∧ Outer wr w.heap.size n (.slice (some ⟨g, 0, none⟩) n c) VR ∧ TT wr w.heap.size n VR (rowX X n) ∧ Below w.heap.size w wr
end Go.Proofs.Ytkgomgfhhhdnjaa
namespace Go.Proofs.Ytkgomgfhhhdnjaa
open Go.ChangeShapes Go.WideShapes Go.ChangeAt Go.RowKit
set_option linter.unusedVariables false
set_option maxRecDepth 4000

/-- The nodes below m that have a way of at most far from node i, as bits. -/
def nmk (d : Nat → Nat → Int) (far : Int) (i : Nat) : Nat → Nat
  | 0 => 0
  | m + 1 => if ¬ d i m = -1 ∧ d i m ≤ far then nmk d far i m ||| 2 ^ m else nmk d far i m
theorem nmk_lt (d : Nat → Nat → Int) (far : Int) (i : Nat) : ∀ m, nmk d far i m < 2 ^ m
  | 0 => by simp [nmk]
  | m + 1 => by
    have h := nmk_lt d far i m
    have h2 : 2 ^ m < 2 ^ (m + 1) := Nat.pow_lt_pow_right (by omega) (by omega)
    simp only [nmk]
    split
    · exact Nat.or_lt_two_pow (by omega) h2
    · omega
theorem nmk_bit (d : Nat → Nat → Int) (far : Int) (i : Nat) : ∀ m v, (nmk d far i m).testBit v = true ↔ v < m ∧ ¬ d i v = -1 ∧ d i v ≤ far
  | 0, v => by simp [nmk]
  | m + 1, v => by
    have h := nmk_bit d far i m v
    simp only [nmk]
    split
    · rename_i hd
      rw [Nat.testBit_or, Bool.or_eq_true, h, Nat.testBit_two_pow]
      simp only [decide_eq_true_eq]
      constructor
      · rintro (⟨h1, h2⟩ | rfl)
        · exact ⟨by omega, h2⟩
        · exact ⟨by omega, hd⟩
      · rintro ⟨h1, h2⟩
        by_cases e : m = v
        · exact .inr e
        · exact .inl ⟨by omega, h2⟩
    · rename_i hd
      rw [h]
      constructor
      · rintro ⟨h1, h2⟩; exact ⟨by omega, h2⟩
      · rintro ⟨h1, h2⟩
        by_cases e : v = m
        · subst e; exact absurd h2 hd
        · exact ⟨by omega, h2⟩
theorem or_u64 : ∀ s : Fin 128, ∀ i : Fin 7, bits BinOp.or IntKind.u64 (s.val : Int) ((2 ^ i.val : Nat) : Int) = ((s.val ||| 2 ^ i.val : Nat) : Int) := by decide +kernel
theorem wrap_pow : ∀ i : Fin 7, IntKind.u64.wrap ((2 : Int) ^ i.val) = ((2 ^ i.val : Nat) : Int) := by decide +kernel
theorem wrap_pow8 : ∀ i : Fin 8, IntKind.u64.wrap ((2 : Int) ^ i.val) = ((2 ^ i.val : Nat) : Int) := by decide +kernel
theorem bc_le : ∀ f s, bc f s ≤ f
  | 0, _ => Nat.le_refl _
  | f + 1, s => by have := bc_le f (s / 2); simp only [bc]; omega
theorem or2_u64 : ∀ s : Fin 128, ∀ t : Fin 128, bits BinOp.or IntKind.u64 (s.val : Int) (t.val : Int) = ((s.val ||| t.val : Nat) : Int) := by decide +kernel
theorem and2_u64 : ∀ s : Fin 128, ∀ t : Fin 128, bits BinOp.and IntKind.u64 (s.val : Int) (t.val : Int) = ((s.val &&& t.val : Nat) : Int) := by decide +kernel
theorem vfar_any (x : Int) (w : World) : Calls Try.prog 46 #[.int .i64 x] w fun e w' => e = .returned (.bool (decide (0 ≤ x) && decide (x ≤ 50))) ∧ w = w' := by
  by_cases h1 : 0 ≤ x <;> by_cases h2 : x ≤ 50
  all_goals
    go_enter Try.func46, Try.ntmps46
    go_wp2
    go_ret
    exact ⟨ret_bool (by simp [h1, h2]), rfl⟩
theorem farOk_yes (x : Int) (w : World) (h1 : 0 ≤ x) (h2 : x ≤ 50) : Calls Try.prog 46 #[.int .i64 x] w fun e w' => e = .returned (.bool true) ∧ w = w' :=
  (vfar_any x w).mono fun _ _ ⟨he, hw⟩ => ⟨by rw [he]; simp [h1, h2], hw⟩
theorem farOk_no (x : Int) (w : World) (h : x < 0 ∨ 50 < x) : Calls Try.prog 46 #[.int .i64 x] w fun e w' => e = .returned (.bool false) ∧ w = w' :=
  (vfar_any x w).mono fun _ _ ⟨he, hw⟩ => ⟨by rw [he]; rcases h with h | h <;> simp <;> omega, hw⟩
def Ms (d : Nat → Nat → Int) (far : Int) (n i m : Nat) : List Value := (List.range n).map fun j => .int .u64 ((if j < i then nmk d far j n else if j = i then nmk d far i m else 0 : Nat) : Int)
theorem Ms_len (d : Nat → Nat → Int) (far : Int) (n i m : Nat) : (Ms d far n i m).length = n := by simp [Ms]
theorem Ms_get {d : Nat → Nat → Int} {far : Int} {n i m : Nat} (hi : i < n) : (Ms d far n i m)[i]? = some (.int .u64 (nmk d far i m : Nat)) := by simp [Ms, hi]
theorem Ms_set {d : Nat → Nat → Int} {far : Int} {n i m : Nat} (hi : i < n) : (Ms d far n i m).set i (.int .u64 (nmk d far i (m + 1) : Nat)) = Ms d far n i (m + 1) := by
  unfold Ms
  apply List.ext_getElem?
  intro j
  rw [List.getElem?_set]
  by_cases hj : j < n
  · by_cases e : i = j
    · subst e; simp [hi]
    · simp [hj, e, show ¬ j = i from fun h => e h.symm]
  · simp [hj]; omega
theorem Ms_next {d : Nat → Nat → Int} {far : Int} {n i : Nat} : Ms d far n i n = Ms d far n (i + 1) 0 := by
  unfold Ms
  refine List.map_congr_left fun j hj => ?_
  by_cases h1 : j < i
  · rw [if_pos h1, if_pos (by omega)]
  · by_cases h2 : j = i
    · subst h2; rw [if_neg h1, if_pos rfl, if_pos (by omega)]
    · rw [if_neg h1, if_neg h2, if_neg (by omega)]
      by_cases h3 : j = i + 1
      · rw [if_pos h3]; rfl
      · rw [if_neg h3]
theorem uInfo : (Try.prog.info? 68).map (fun i => (i.zero, i.size, i.bytes)) = some (some (.int .u64 0), 1, 8) := by kernel_rfl
def SetsPost (d : Nat → Nat → Int) (far : Int) (n : Nat) (w : World) (e : Ending) (w' : World) : Prop :=
  ∃ g, e = .returned (.slice (some ⟨g, 0, none⟩) n n) ∧ w'.ownsRow w.heap.size 68 1 (.slice (some ⟨g, 0, none⟩) n n) n (Ms d far n n 0) ∧ Below w.heap.size w w'
set_option maxHeartbeats 1600000 in
theorem nearSets_any (w : World) (B n g0 c : Nat) (far : Int) (VR : Nat → Value) (X : Nat → Nat → Int) (hn1 : 1 ≤ n) (hn7 : n ≤ 7) (hO : Outer w B n (.slice (some ⟨g0, 0, none⟩) n c) VR) (hT : TT w B n VR (rowX X n)) :
    Calls Try.prog 67 #[.slice (some ⟨g0, 0, none⟩) n c, .int .i64 far] w (SetsPost X far n w) := by
  obtain ⟨iu, hiu, hzu0, hzu1, hzu2⟩ := info_parts uInfo
  have HO := Lib.hid hO
  have HT := Lib.hid hT
  clear hO hT
  have hbi : iu.bytes * n ≤ 281474976710656 := by rw [hzu2]; omega
  have hml : n ≤ maxLen := by unfold maxLen; omega
  go_enter Try.func67, Try.ntmps67
  go_wp2_with (at_make; refine wpList_make_full _ rfl _ _ 61 rfl w.heap.size 68 iu _ 1 Try.underlying61 hiu hzu0 hzu1 _ _ _ _ n rfl rfl rfl rfl hbi hml (Nat.le_refl _) ?_; intro w1 hown1 hg1)
  have hb1 : Below w.heap.size w w1 := (Below.refl _ _).grown hg1 (Nat.le_refl _) (fun j hj => by cases hj)
  have ho1 : w1.ownsRow w.heap.size 68 1 (.slice (some ⟨w.heap.size, 0, none⟩) n n) n (Ms X far n 0 0) := by
    rw [Nat.mul_one] at hown1
    have e : (madeCells (Value.int .u64 0).cells n).toList = Ms X far n 0 0 := by
      rw [show (Value.int .u64 0).cells = #[Value.int .u64 0] from rfl, toList_madeCells_one]
      unfold Ms
      apply List.ext_getElem?
      intro i
      by_cases hi : i < n
      · by_cases h0 : i = 0
        · subst h0; simp [hi, nmk]
        · simp [hi, h0]
      · simp [hi]
    rw [← e]; exact hown1
  obtain ⟨G, HG⟩ : ∃ G, Hid (w.heap.size = G) := ⟨_, rfl⟩
  have hGB : w.heap.size ≤ G := Nat.le_of_eq HG.out
  rw [HG.out] at ho1
  rw [HG.out]
  rw [← HG.out] at ho1
  have ho2 : w1.ownsRow w.heap.size 68 1 (.slice (some ⟨G, 0, none⟩) n n) n (Ms X far n 0 0) := by rw [← HG.out]; exact ho1
  have HO1 := Lib.hid ho2
  have HB1 := Lib.hid hb1
  clear hown1 hg1 ho1 hb1 ho2
  go_loopw [15] (fun i wr => ∃ k : Nat, k ≤ n ∧ i = .int .i64 k ∧ wr.ownsRow w.heap.size 68 1 (.slice (some ⟨G, 0, none⟩) n n) n (Ms X far n k 0) ∧ Below w.heap.size w wr) (fun i _ => n - (intOf i).toNat)
  case atStart => exact ⟨0, by omega, rfl, HO1.out, HB1.out⟩
  case round =>
    clear HO1 HB1
    obtain ⟨k, hk, rfl, hown, hnx⟩ := hrel
    by_cases hlt : k < n
    · obtain ⟨Ak, ck, ek, hrk⟩ := HT.out.row hlt
      have cc := (hnx.cell (p := ⟨g0, k, none⟩) (own_heap HO.out (g := g0) rfl).2.2).trans (Outer.cell HO.out hlt)
      rw [ek, rowX_len] at cc
      have HRK := Lib.hid hrk
      have HOW := Lib.hid hown
      have HNX := Lib.hid hnx
      clear ek hrk hown hnx
      go_wp2
      go_loopw [22] (fun i wr => ∃ m : Nat, m ≤ n ∧ i = .int .i64 m ∧ wr.ownsRow w.heap.size 68 1 (.slice (some ⟨G, 0, none⟩) n n) n (Ms X far n k m) ∧ Below w.heap.size w wr) (fun i _ => n - (intOf i).toNat)
      case atStart => exact ⟨0, by omega, rfl, HOW.out, HNX.out⟩
      case round =>
        clear HOW HNX cc
        obtain ⟨m, hm, rfl, hown, hnx⟩ := hrel
        by_cases hlm : m < n
        · obtain ⟨b, off, x, rfl, -, Hx, hcx⟩ := (HRK.out.below hnx).x (k := m) (by rw [rowX_len]; exact hlm)
          have hx := Hx.out
          rw [rowX_get X hlm] at hx
          by_cases hd : ¬ x = -1 ∧ x ≤ far
          · have hx1 : (x != -1) = true := by rw [bne_iff_ne]; exact hd.1
            have hd2 := hd.2
            have cs : _ = some (Value.int .u64 (nmk X far k m : Nat)) := (hown.cellAt k (by omega)).trans (Ms_get hlt)
            have fs := hown.frozenAt k
            have h128 : nmk X far k m < 128 := pow_128 (by omega) (nmk_lt _ _ _ _)
            have hor := or_u64 ⟨nmk X far k m, h128⟩ ⟨m, by omega⟩
            have hst := (hown.stored k (.int .u64 (nmk X far k (m + 1) : Nat)))
            rw [Ms_set hlt] at hst
            have hnk : Hid (nmk X far k (m + 1) = nmk X far k m ||| 2 ^ m) := by show _ = _; simp only [nmk]; rw [if_pos (by rw [hx]; exact hd)]
            simp only at hor
            obtain ⟨S, HS⟩ : ∃ S, Hid (nmk X far k m = S) := ⟨_, rfl⟩
            rw [HS.out] at cs hor hnk
            have hval : bits BinOp.or IntKind.u64 (S : Int) (IntKind.u64.wrap ((2 : Int) ^ m)) = ((nmk X far k (m + 1) : Nat) : Int) := by
              rw [wrap_pow ⟨m, by omega⟩, hor, hnk.out]
            rw [← hval] at hst
            have HST := Lib.hid hst.1
            have HB2 := Lib.hid (hnx.grown hst.2 hnx.size (fun j e => by injection e with e; omega))
            clear hst hown hnx hx hor hval hd
            go_wp2
            go_region
            go_wp2
            go_roundw
            case rel => exact ⟨m + 1, by omega, by go_num, HST.out, HB2.out.drew⟩
            case measure => simp [intOf]; omega
          · have hnk : Hid (Ms X far n k (m + 1) = Ms X far n k m) := by
              have hz : nmk X far k (m + 1) = nmk X far k m := by simp only [nmk]; rw [if_neg (by rw [hx]; exact hd)]
              show _ = _
              unfold Ms
              refine List.map_congr_left fun j _ => ?_
              by_cases e : j = k
              · rw [e, hz]
              · rw [if_neg e, if_neg e]
            have HOW := Lib.hid hown
            have HNX := Lib.hid hnx
            clear hown hnx hx
            by_cases h1 : x = -1
            · subst h1
              go_wp2
              go_roundw
              case rel => exact ⟨m + 1, by omega, by go_num, by rw [hnk.out]; exact HOW.out, HNX.out⟩
              case measure => simp [intOf]; omega
            · have hx1 : (x != -1) = true := by rw [bne_iff_ne]; exact h1
              have hd2 : ¬ x ≤ far := fun h => hd ⟨h1, h⟩
              go_wp2
              go_roundw
              case rel => exact ⟨m + 1, by omega, by go_num, by rw [hnk.out]; exact HOW.out, HNX.out⟩
              case measure => simp [intOf]; omega
        · have hmn : m = n := by omega
          subst hmn
          rw [Ms_next] at hown
          have HOW := Lib.hid hown
          have HNX := Lib.hid hnx
          clear hown hnx
          go_wp2
          go_roundw
          case rel => exact ⟨k + 1, by omega, by go_num, HOW.out, HNX.out⟩
          case measure => simp [intOf]; omega
    · have hkn : k = n := by omega
      subst hkn
      have HOW := Lib.hid hown
      have HNX := Lib.hid hnx
      clear hown hnx
      go_wp2
      go_ret
      exact ⟨G, rfl, HOW.out, HNX.out⟩
/-- The slice with address A reads as the sets N k, .. (m of them), at offset off. -/
def RdU (w : World) (A : Option Addr) (N : Nat → Nat) (k m : Nat) : Prop := 0 < m → ∃ b off, A = some ⟨b, off, none⟩ ∧ ∀ i, i < m → w.cell? ⟨b, off + i, none⟩ = some (.int .u64 (N (k + i) : Nat))
set_option maxHeartbeats 600000 in
theorem mostW_any (N : Nat → Nat) (hN : ∀ i, N i < 128) : ∀ (m k T c : Nat) (A : Option Addr) (w : World), RdU w A N k m → m ≤ c → m ≤ 7 → T < 128 →
    Calls Try.prog 56 #[.slice A m c, .int .u64 T] w fun e w' => e = .returned (.int .i64 (mw N m k T : Nat)) ∧ ∃ q, w' = w.drewN q
  | 0, k, T, c, A, w, _, _, _, _ => by
    go_enter Try.func56, Try.ntmps56
    go_wp2
    go_ret
    exact ⟨rfl, 0, rfl⟩
  | m + 1, k, T, c, A, w, hr, hc, h7, hT => by
    obtain ⟨b, off, rfl, hcell⟩ := hr (by omega)
    have c0 := hcell 0 (by omega)
    rw [Nat.add_zero, Nat.add_zero] at c0
    obtain ⟨A2, hA2, hrest⟩ : ∃ A2 : Option Addr, ((c = 1 ∧ m = 0 ∧ A2 = some ⟨b, off, none⟩) ∨ (¬ c = 1 ∧ A2 = some ⟨b, off + 1, none⟩)) ∧ ∀ q, RdU (w.drewN q) A2 N (k + 1) m := by
      by_cases hc1 : c = 1
      · exact ⟨_, .inl ⟨hc1, by omega, rfl⟩, fun q hm => by omega⟩
      · refine ⟨_, .inr ⟨hc1, rfl⟩, fun q hm => ⟨b, off + 1, rfl, fun i hi => ?_⟩⟩
        have := hcell (i + 1) (by omega)
        rw [show off + (i + 1) = off + 1 + i by omega, show k + (i + 1) = k + 1 + i by omega] at this
        exact this
    have hand := and2_u64 ⟨N k, hN k⟩ ⟨T, hT⟩
    have hor := or2_u64 ⟨T, hT⟩ ⟨N k, hN k⟩
    simp only at hand hor
    have hT2 : T ||| N k < 128 := Nat.or_lt_two_pow (n := 7) hT (hN k)
    have ih1 := mostW_any N hN m (k + 1) T (c - 1) A2 w (hrest 0) (by omega) (by omega) hT
    have ih2 := fun q => mostW_any N hN m (k + 1) (T ||| N k) (c - 1) A2 (w.drewN q) (hrest q) (by omega) (by omega) hT2
    have b1 := mw_bd N m (k + 1) T
    have b2 := mw_bd N m (k + 1) (T ||| N k)
    have hz : (((m + 1 : Nat) : Int) == 0) = false := by rw [beq_eq_false_iff_ne]; omega
    have H1 := Lib.hid ih1
    have H2 := Lib.hid ih2
    obtain ⟨M1, HM1⟩ : ∃ M, Hid (mw N m (k + 1) T = M) := ⟨_, rfl⟩
    obtain ⟨M2, HM2⟩ : ∃ M, Hid (mw N m (k + 1) (T ||| N k) = M) := ⟨_, rfl⟩
    have hmw0 : Hid (mw N (m + 1) k T = if N k &&& T = 0 then max M1 (1 + M2) else M1) := by show _ = _; simp only [mw]; rw [HM1.out, HM2.out]
    rw [HM1.out] at H1 b1
    rw [HM2.out] at H2 b2
    clear ih1 ih2 hrest hcell hr
    by_cases hd : N k &&& T = 0
    · rw [hd] at hand
      have hmw : Hid (mw N (m + 1) k T = max M1 (1 + M2)) := by show _ = _; rw [hmw0.out, if_pos hd]
      have hS1 : bits BinOp.and IntKind.u64 (N k : Int) (T : Int) = 0 := hand
      clear hand hd hmw0
      have w1' : IntKind.i64.wrap (1 + (M2 : Int)) = 1 + (M2 : Int) := IntWalk.i64_in _ (by omega)
      rcases hA2 with ⟨rfl, rfl, rfl⟩ | ⟨hc1, rfl⟩
      all_goals
        go_enter Try.func56, Try.ntmps56
        go_wp2_with fail
        refine H1.out.mono ?_
        rintro e w1 ⟨rfl, q1, rfl⟩
        have Hd := Lib.hid (H2.out (q1 + 1))
        have Hdr : Hid ((w.drewN q1).drew = w.drewN (q1 + 1)) := rfl
        have cq : ∀ a, (w.drewN a).cell? ⟨b, off, none⟩ = some (.int .u64 (N k : Nat)) := fun a => c0
        have cq2 : (w.drewN q1).drew.cell? ⟨b, off, none⟩ = some (.int .u64 (N k : Nat)) := c0
        go_wp2
        go_region_with (
          go_at_call 56
          refine Hd.out.mono ?_
          rintro e wz ⟨rfl, q3, rfl⟩)
        all_goals
          go_wp2
          all_goals
            go_ret
            refine ⟨ret_int (Eq.trans (b := ((max M1 (1 + M2) : Nat) : Int)) ?_ (congrArg (fun x : Nat => (x : Int)) hmw.out.symm)), _, rfl⟩
            rw [Nat.max_def]
            split <;> omega
    · have hmw : Hid (mw N (m + 1) k T = M1) := by show _ = _; rw [hmw0.out, if_neg hd]
      have hne : (((N k &&& T : Nat) : Int) == 0) = false := by rw [beq_eq_false_iff_ne]; omega
      clear hmw0
      rcases hA2 with ⟨rfl, rfl, rfl⟩ | ⟨hc1, rfl⟩
      all_goals
        go_enter Try.func56, Try.ntmps56
        go_wp2_with fail
        refine H1.out.mono ?_
        rintro e w1 ⟨rfl, q1, rfl⟩
        go_wp2
        go_ret
        exact ⟨ret_int (by rw [hmw.out]), _, rfl⟩
end Go.Proofs.Ytkgomgfhhhdnjaa
namespace Go.Proofs.Ytkgomgfhhhdnjaa
open Go.ChangeShapes Go.WideShapes Go.ChangeAt Go.RowKit
set_option linter.unusedVariables false
set_option maxRecDepth 4000

theorem ones_bc : ∀ s : Fin 128, (bitsOf s.val).length = bc 7 s.val := by decide +kernel
/-- Each of the first n sets meets S. -/
def hits (N : Nat → Nat) (S n : Nat) : Bool := (List.range n).all fun i => !decide (N i &&& S = 0)
theorem hits_iff {N : Nat → Nat} {S n : Nat} : hits N S n = true ↔ ∀ v, v < n → ¬ N v &&& S = 0 := by
  unfold hits
  rw [List.all_eq_true]
  simp only [List.mem_range, Bool.not_eq_true', decide_eq_false_iff_not]
theorem hits_no {N : Nat → Nat} {S n v : Nat} (hv : v < n) (h : N v &&& S = 0) : hits N S n = false := by
  rw [Bool.eq_false_iff]
  intro h2
  exact hits_iff.1 h2 v hv h
theorem nmk_iff {d : Nat → Nat → Int} {far : Int} {n : Nat} (hb : ∀ a b, a < n → b < n → -1 ≤ d a b) {i : Nat} (hi : i < n) (v : Nat) : (nmk d far i n).testBit v = true ↔ v < n ∧ 0 ≤ d i v ∧ d i v ≤ far := by
  rw [nmk_bit]
  constructor
  · rintro ⟨h1, h2, h3⟩
    have := hb i v hi h1
    exact ⟨h1, by omega, h3⟩
  · rintro ⟨h1, h2, h3⟩
    exact ⟨h1, by omega, h3⟩
/-- A cover is a set that each node's near ones meet. -/
theorem cover_hits {d : Nat → Nat → Int} {far : Int} {n S : Nat} (hb : ∀ a b, a < n → b < n → -1 ≤ d a b) : cvF d far S n n = hits (fun i => nmk d far i n) S n := by
  rw [Bool.eq_iff_iff, hits_iff, cover_iff (N := fun i => nmk d far i n) (fun i hi v => nmk_iff hb hi v)]

theorem miss_is (x S pb : Nat) (w : World) (hx : x < 128) (hS : S < 128) (hc : w.cell? ⟨pb, 0, none⟩ = some (.int .u64 S)) {b : Bool} (h : decide (x &&& S = 0) = b) :
    Calls Try.prog 86 #[.int .u64 x, .pointer (some ⟨pb, 0, none⟩)] w fun e w' => e = .returned (.bool b) ∧ ∃ q, w' = w.drewN q := by
  have ha := and2_u64 ⟨x, hx⟩ ⟨S, hS⟩
  simp only at ha
  obtain ⟨y, Hy⟩ : ∃ y, Hid (x &&& S = y) := ⟨_, rfl⟩
  rw [Hy.out] at ha h
  have hb : (((y : Nat) : Int) == 0) = b := by
    rw [← h]
    by_cases e : y = 0
    · subst e; rfl
    · rw [decide_eq_false e, beq_eq_false_iff_ne]; omega
  clear h
  go_enter Try.func86, Try.ntmps86
  go_wp2
  go_ret
  exact ⟨rfl, 0, rfl⟩
def HitIdx (N : Nat → Nat) (S n : Nat) (w : World) (e : Ending) (w' : World) : Prop := ∃ r : Int, e = .returned (.int .i64 r) ∧ (hits N S n = true → r = -1) ∧ (hits N S n = false → 0 ≤ r) ∧ Below w.heap.size w w'
set_option maxHeartbeats 800000 in
theorem indexHit_any (N : Nat → Nat) (A : Option Addr) (c n S pb : Nat) (w : World) (hN : ∀ i, N i < 128) (hS : S < 128) (h7 : n ≤ 7) (hpb : pb < w.heap.size) (hr : ∀ w', Below w.heap.size w w' → RdU w' A N 0 n) (hc : w.cell? ⟨pb, 0, none⟩ = some (.int .u64 S)) :
    Calls Try.prog 93 #[.slice A n c, .func (.func 86) #[] #[.pointer (some ⟨pb, 0, none⟩)]] w (HitIdx N S n w) := by
  have HR := Lib.hid hr
  clear hr
  go_enter Try.func93, Try.ntmps93
  go_wp2
  go_loopw [8] (fun i wr => ∃ k : Nat, k ≤ n ∧ i = .int .i64 k ∧ Hid (∀ v, v < k → ¬ N v &&& S = 0) ∧ Below w.heap.size w wr) (fun i _ => n - (intOf i).toNat)
  case atStart => exact ⟨0, by omega, rfl, fun v hv => by omega, Below.refl _ _⟩
  case round =>
    obtain ⟨k, hk, rfl, Ho, hnx⟩ := hrel
    have hc2 : wr.cell? ⟨pb, 0, none⟩ = some (.int .u64 S) := (hnx.cell (p := ⟨pb, 0, none⟩) hpb).trans hc
    by_cases hlt : k < n
    · obtain ⟨b, off, rfl, hcell⟩ := HR.out wr hnx (by omega)
      have hx := hcell k hlt
      rw [Nat.zero_add] at hx
      have hN128 := hN k
      by_cases h1 : N k &&& S = 0
      · have Hs := Lib.hid (hits_no hlt h1)
        have Hf := Lib.hid (miss_is (N k) S pb wr hN128 hS hc2 (b := true) (decide_eq_true h1))
        clear h1 hc2 hcell
        go_wp2_with fail
        refine Hf.out.mono ?_
        rintro e w' ⟨rfl, q, rfl⟩
        go_wp2
        go_ret
        exact ⟨_, rfl, fun h => absurd (Hs.out.symm.trans h) (by decide), fun _ => by omega, below_drewN hnx q⟩
      · have Hs : Hid (∀ v, v < k + 1 → ¬ N v &&& S = 0) := fun v hv => by
          by_cases e : v = k
          · subst e; exact h1
          · exact Ho.out v (by omega)
        have Hf := Lib.hid (miss_is (N k) S pb wr hN128 hS hc2 (b := false) (decide_eq_false h1))
        clear h1 hc2 hcell
        go_wp2_with fail
        refine Hf.out.mono ?_
        rintro e w' ⟨rfl, q, rfl⟩
        go_wp2
        go_roundw
        case rel => exact ⟨k + 1, by omega, by go_num, Hs, below_drewN hnx q⟩
        case measure => simp [intOf]; omega
    · obtain rfl : k = n := by omega
      have Hs := Lib.hid (hits_iff.2 Ho.out)
      go_wp2
      go_ret
      exact ⟨_, rfl, fun _ => rfl, fun h => absurd (Hs.out.symm.trans h) (by decide), hnx⟩
theorem containsHit_any (N : Nat → Nat) (A : Option Addr) (c n S pb : Nat) (w : World) (hN : ∀ i, N i < 128) (hS : S < 128) (h7 : n ≤ 7) (hpb : pb < w.heap.size) (hr : ∀ w', Below w.heap.size w w' → RdU w' A N 0 n) (hc : w.cell? ⟨pb, 0, none⟩ = some (.int .u64 S)) :
    Calls Try.prog 85 #[.slice A n c, .func (.func 86) #[] #[.pointer (some ⟨pb, 0, none⟩)]] w fun e w' => e = .returned (.bool (!(hits N S n))) ∧ Below w.heap.size w w' := by
  have H := Lib.hid (indexHit_any N A c n S pb w hN hS h7 hpb hr hc)
  clear hr hc
  go_enter Try.func85, Try.ntmps85
  go_wp2_with fail
  refine H.out.mono ?_
  rintro e w' ⟨r, rfl, h1, h2, hnx⟩
  by_cases hf : hits N S n = true
  · have := h1 hf
    subst this
    have Hf := Lib.hid hf
    clear h1 h2 hf
    go_wp2
    go_ret
    exact ⟨ret_bool (by rw [Hf.out]; rfl), hnx⟩
  · have hf' : hits N S n = false := by simpa using hf
    have hr0 := h2 hf'
    have Hf := Lib.hid hf'
    clear h1 h2 hf hf'
    go_wp2
    go_ret
    exact ⟨ret_bool (by rw [Hf.out]; simp), hnx⟩
theorem hasAll_any (N : Nat → Nat) (A : Option Addr) (c n S : Nat) (w : World) (hN : ∀ i, N i < 128) (hS : S < 128) (h7 : n ≤ 7) (hr : ∀ w', Below w.heap.size w w' → RdU w' A N 0 n) :
    Calls Try.prog 73 #[.slice A n c, .int .u64 S] w fun e w' => e = .returned (.bool (hits N S n)) ∧ Below w.heap.size w w' := by
  have hb0 := (Below.refl w.heap.size w).alloc (Nat.le_refl _) (.cells #[.int .u64 S] 68)
  obtain ⟨W, HW⟩ : ∃ W, Hid (w.alloc (.cells #[.int .u64 S] 68) = W) := ⟨_, rfl⟩
  have hsz : W.heap.size = w.heap.size + 1 := by rw [← HW.out]; exact size_alloc1 _ _
  have hcc : W.cell? ⟨w.heap.size, 0, none⟩ = some (.int .u64 S) := by rw [← HW.out, cell_of_row _ _ _ _ _ _ (heap_alloc_new w _)]; rfl
  rw [HW.out] at hb0
  have Hf := Lib.hid (containsHit_any N A c n S w.heap.size W hN hS h7 (by omega) (fun w' h => hr w' (hb0.trans (h.mono (by omega)))) hcc)
  have HB := Lib.hid hb0
  clear hr hb0 hcc hsz
  go_enter Try.func73, Try.ntmps73
  go_wp2_with fail
  rw [HW.out]
  refine Hf.out.mono ?_
  rintro e w' ⟨rfl, hnx2⟩
  go_wp2
  go_ret
  exact ⟨ret_bool (by simp), HB.out.trans (hnx2.mono HB.out.size)⟩
end Go.Proofs.Ytkgomgfhhhdnjaa
