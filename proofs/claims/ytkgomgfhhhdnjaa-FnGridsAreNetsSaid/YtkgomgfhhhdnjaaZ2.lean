/-
  Grids as mathematics: steps between cells, fewest cells near all, most cells apart, grids turned, rows.
  Conditions: small grids (at most five columns and rows, at most ten cells).
  Ascending lists below a limit; ascendingBelow of the program, walked.
  Conditions: fewer than 2^60 numbers.
  Closed grids as mathematics: steps round the end, cells that have exactly one near, slanting cells, lists that are moved.
  Conditions: at most ten columns and ten rows.
  Words for rows of ints that a call makes.
  Conditions: none beyond what each theorem states.
  The copy of a slice of ints and the comparison of two slices, walked.
  Conditions: the slice is shorter than 2^20 elements.
  How far two places are from each other: the program's distance, the model's gap.
  Conditions: places in -1000..1000.
  Rows in memory: words for slices that a call owns, and for tables of rows.
  Conditions: none beyond what each theorem states.
-/
import Derived.Test.YtkgomgfhhhdnjaaZ1
import Derived.Test.YtkgomgfhhhdnjaaZ0
import Derived.Laws.Rows
import Derived.Laws.OwnMore
import Derived.Deep.Draws
import Derived.BigRegion
import Derived.Deep.AppendLies
namespace Go.Proofs.Ytkgomgfhhhdnjaa
open Go.ChangeShapes Go.WideShapes Go.ChangeAt Go.RowKit
set_option linter.unusedVariables false
set_option maxRecDepth 8000

def gpN (a b : Nat) : Nat := (a - b) + (b - a)
theorem gpN_comm (a b : Nat) : gpN a b = gpN b a := Nat.add_comm _ _
theorem gpN_self (a : Nat) : gpN a a = 0 := by unfold gpN; omega
theorem gpN_zero {a b : Nat} (h : gpN a b = 0) : a = b := by unfold gpN at h; omega
theorem gpN_le (a b : Nat) : gpN a b ≤ a + b := by unfold gpN; omega
/-- How many steps two cells of a grid with w columns are from each other. -/
def stN (w a b : Nat) : Nat := gpN (a / w) (b / w) + gpN (a % w) (b % w)
theorem stN_comm (w a b : Nat) : stN w a b = stN w b a := by unfold stN; rw [gpN_comm (a / w), gpN_comm (a % w)]
theorem stN_self (w a : Nat) : stN w a a = 0 := by unfold stN; rw [gpN_self, gpN_self]
theorem stN_zero {w a b : Nat} (h : stN w a b = 0) : a = b := by
  unfold stN at h
  have h1 := gpN_zero (a := a / w) (b := b / w) (by omega)
  have h2 := gpN_zero (a := a % w) (b := b % w) (by omega)
  rw [← Nat.div_add_mod a w, ← Nat.div_add_mod b w, h1, h2]
def stG (w a b : Nat) : Int := ((stN w a b : Nat) : Int)
theorem stG_self (w a : Nat) : stG w a a = 0 := by unfold stG; rw [stN_self]; rfl
theorem stG_comm (w a b : Nat) : stG w a b = stG w b a := by unfold stG; rw [stN_comm]
theorem stG_pos (w a b : Nat) : 0 ≤ stG w a b := by unfold stG; omega

/-- Small grids. -/
def gok (w h : Int) : Prop := (1 ≤ w ∧ w ≤ 5) ∧ (1 ≤ h ∧ h ≤ 5) ∧ w * h ≤ 10
instance (w h : Int) : Decidable (gok w h) := by unfold gok; infer_instance
structure Gd (w h : Nat) : Prop where
  w1 : 1 ≤ w
  w5 : w ≤ 5
  h1 : 1 ≤ h
  h5 : h ≤ 5
  n10 : w * h ≤ 10
theorem Gd.turn {w h : Nat} (g : Gd w h) : Gd h w := ⟨g.h1, g.h5, g.w1, g.w5, by rw [Nat.mul_comm]; exact g.n10⟩
theorem Gd.n1 {w h : Nat} (g : Gd w h) : 1 ≤ w * h := Nat.mul_pos g.w1 g.h1
theorem gok_nat {w h : Int} (g : gok w h) : ∃ a b : Nat, w = a ∧ h = b ∧ Gd a b := by
  obtain ⟨⟨a1, a5⟩, ⟨b1, b5⟩, hn⟩ := g
  obtain ⟨a, rfl⟩ := Int.eq_ofNat_of_zero_le (show 0 ≤ w by omega)
  obtain ⟨b, rfl⟩ := Int.eq_ofNat_of_zero_le (show 0 ≤ h by omega)
  rw [← Int.natCast_mul] at hn
  exact ⟨a, b, rfl, rfl, by omega, by omega, by omega, by omega, by omega⟩
theorem Gd.gok {w h : Nat} (g : Gd w h) : gok (w : Int) (h : Int) := by
  obtain ⟨a, b, c, d, e⟩ := g
  refine ⟨by omega, by omega, ?_⟩
  rw [← Int.natCast_mul]; omega
theorem gd_all {P : Nat → Nat → Bool} (h : ∀ w h : Fin 6, 1 ≤ w.val → 1 ≤ h.val → w.val * h.val ≤ 10 → P w.val h.val = true) {w h' : Nat} (g : Gd w h') : P w h' = true :=
  h ⟨w, by have := g.w5; omega⟩ ⟨h', by have := g.h5; omega⟩ g.w1 g.h1 g.n10

/-- The fewest of a cover; the most apart. -/
def FewG (d : Nat → Nat → Int) (far : Int) (n k : Nat) : Prop := (∃ P, Cov d far n P ∧ P.length = k) ∧ ∀ P, Cov d far n P → k ≤ P.length
def MostG (d : Nat → Nat → Int) (far : Int) (n k : Nat) : Prop := (∃ J, Apt d far n J ∧ J.length = k) ∧ ∀ J, Apt d far n J → J.length ≤ k
theorem FewG.eq {d : Nat → Nat → Int} {far : Int} {n k m : Nat} (h1 : FewG d far n k) (h2 : FewG d far n m) : k = m := by
  obtain ⟨⟨P, hP, hPl⟩, h3⟩ := h1
  obtain ⟨⟨Q, hQ, hQl⟩, h4⟩ := h2
  have := h3 Q hQ
  have := h4 P hP
  omega
theorem MostG.eq {d : Nat → Nat → Int} {far : Int} {n k m : Nat} (h1 : MostG d far n k) (h2 : MostG d far n m) : k = m := by
  obtain ⟨⟨P, hP, hPl⟩, h3⟩ := h1
  obtain ⟨⟨Q, hQ, hQl⟩, h4⟩ := h2
  have := h3 Q hQ
  have := h4 P hP
  omega
theorem few_cvT {d : Nat → Nat → Int} {far : Int} {n : Nat} (hn : n ≤ 10) (h0 : ∀ a, a < n → d a a = 0) (hf : 0 ≤ far) : FewG d far n (cvNT d far n (2 ^ n)) :=
  ⟨by obtain ⟨P, h1, _, h2⟩ := cov_leastT hn h0 hf; exact ⟨P, h1, h2⟩, fun P hP => cvN_le_covT hn hP⟩
theorem few_cv {d : Nat → Nat → Int} {far : Int} {n : Nat} (hn : n ≤ 7) (h0 : ∀ a, a < n → d a a = 0) (hf : 0 ≤ far) : FewG d far n (cvN d far n (2 ^ n)) :=
  ⟨by obtain ⟨P, h1, _, h2⟩ := cov_least hn h0 hf; exact ⟨P, h1, h2⟩, fun P hP => cvN_le_cov hn hP⟩
theorem most_pkT (d : Nat → Nat → Int) (far : Int) {n : Nat} (hn : n ≤ 10) : MostG d far n (pkBT d far n (2 ^ n)) := ⟨apt_mostT d far hn, fun J hJ => apt_le_pkBT hn hJ⟩
theorem most_pk (d : Nat → Nat → Int) (far : Int) {n : Nat} (hn : n ≤ 7) : MostG d far n (pkB d far n (2 ^ n)) := ⟨apt_most d far hn, fun J hJ => apt_le_pkB hn hJ⟩
theorem most_le_few {d : Nat → Nat → Int} {far : Int} {n k m : Nat} (hs : ∀ a b, a < n → b < n → d a b = d b a) (h1 : MostG d far n k) (h2 : FewG d far n m) : k ≤ m := by
  obtain ⟨⟨J, hJ, hJl⟩, _⟩ := h1
  obtain ⟨⟨P, hP, hPl⟩, _⟩ := h2
  rw [← hJl, ← hPl]
  exact apt_le_cov hs hP.1 hJ fun i hi => hP.2 i (hJ.1 i hi)
/-- A cover and cells apart that are as many settle both. -/
theorem both_of {d : Nat → Nat → Int} {far : Int} {n m : Nat} {P J : List Nat} (hs : ∀ a b, a < n → b < n → d a b = d b a) (hP : Cov d far n P) (hJ : Apt d far n J) (hPl : P.length = m) (hJl : J.length = m) : FewG d far n m ∧ MostG d far n m :=
  ⟨⟨⟨P, hP, hPl⟩, fun Q hQ => by rw [← hJl]; exact apt_le_cov hs hQ.1 hJ fun i hi => hQ.2 i (hJ.1 i hi)⟩,
   ⟨⟨J, hJ, hJl⟩, fun Q hQ => by rw [← hPl]; exact apt_le_cov hs hP.1 hQ fun i hi => hP.2 i (hQ.1 i hi)⟩⟩
/-- Cells under other numbers. -/
structure TurnG (n : Nat) (f g : Nat → Nat) (d e : Nat → Nat → Int) : Prop where
  lf : ∀ a, a < n → f a < n
  lg : ∀ a, a < n → g a < n
  fg : ∀ a, a < n → f (g a) = a
  gf : ∀ a, a < n → g (f a) = a
  eq : ∀ a b, a < n → b < n → d a b = e (f a) (f b)
theorem TurnG.back {n : Nat} {f g : Nat → Nat} {d e : Nat → Nat → Int} (t : TurnG n f g d e) : TurnG n g f e d :=
  ⟨t.lg, t.lf, t.gf, t.fg, fun a b ha hb => by rw [t.eq _ _ (t.lg a ha) (t.lg b hb), t.fg a ha, t.fg b hb]⟩
theorem TurnG.near {n : Nat} {f g : Nat → Nat} {d e : Nat → Nat → Int} (t : TurnG n f g d e) {far : Int} {v i : Nat} (hv : v < n) (hi : i < n) : Nr e far v (f i) ↔ Nr d far (g v) i := by
  unfold Nr; rw [t.eq (g v) i (t.lg v hv) hi, t.fg v hv]
theorem TurnG.cov {n : Nat} {f g : Nat → Nat} {d e : Nat → Nat → Int} (t : TurnG n f g d e) {far : Int} {P : List Nat} (h : Cov d far n P) : Cov e far n (P.map f) :=
  ⟨fun i hi => by obtain ⟨j, hj, rfl⟩ := List.mem_map.1 hi; exact t.lf j (h.1 j hj), fun v hv => by
    obtain ⟨i, hi, hn⟩ := h.2 (g v) (t.lg v hv)
    exact ⟨f i, List.mem_map.2 ⟨i, hi, rfl⟩, (t.near hv (h.1 i hi)).2 hn⟩⟩
theorem TurnG.apt {n : Nat} {f g : Nat → Nat} {d e : Nat → Nat → Int} (t : TurnG n f g d e) {far : Int} {J : List Nat} (h : Apt d far n J) : Apt e far n (J.map f) := by
  refine ⟨fun i hi => by obtain ⟨j, hj, rfl⟩ := List.mem_map.1 hi; exact t.lf j (h.1 j hj), ?_, ?_⟩
  · refine List.pairwise_map.2 (List.Pairwise.imp_of_mem ?_ h.2.1)
    intro a b ha hb hne he
    exact hne (by rw [← t.gf a (h.1 a ha), ← t.gf b (h.1 b hb), he])
  · intro i hi k hk hne v hv
    obtain ⟨a, ha, rfl⟩ := List.mem_map.1 hi
    obtain ⟨b, hb, rfl⟩ := List.mem_map.1 hk
    rw [t.near hv (h.1 a ha), t.near hv (h.1 b hb)]
    exact h.2.2 a ha b hb (fun e => hne (by rw [e])) (g v) (t.lg v hv)
theorem TurnG.few {n : Nat} {f g : Nat → Nat} {d e : Nat → Nat → Int} (t : TurnG n f g d e) {far : Int} {k : Nat} (h : FewG d far n k) : FewG e far n k := by
  obtain ⟨⟨P, hP, hPl⟩, h2⟩ := h
  refine ⟨⟨P.map f, t.cov hP, by rw [List.length_map, hPl]⟩, fun Q hQ => ?_⟩
  have := h2 _ (t.back.cov hQ)
  rwa [List.length_map] at this
theorem TurnG.most {n : Nat} {f g : Nat → Nat} {d e : Nat → Nat → Int} (t : TurnG n f g d e) {far : Int} {k : Nat} (h : MostG d far n k) : MostG e far n k := by
  obtain ⟨⟨P, hP, hPl⟩, h2⟩ := h
  refine ⟨⟨P.map f, t.apt hP, by rw [List.length_map, hPl]⟩, fun Q hQ => ?_⟩
  have := h2 _ (t.back.apt hQ)
  rwa [List.length_map] at this
theorem turn_same {n : Nat} {d e : Nat → Nat → Int} (h : ∀ a b, a < n → b < n → d a b = e a b) : TurnG n (fun a => a) (fun a => a) d e := ⟨fun _ h => h, fun _ h => h, fun _ _ => rfl, fun _ _ => rfl, h⟩

def trN (w h a : Nat) : Nat := (a % w) * h + a / w
def turnB (w h : Nat) : Bool := (List.range (w * h)).all fun a => decide (trN w h a < w * h) && decide (trN h w (trN w h a) = a) && (List.range (w * h)).all fun b => decide (stN w a b = stN h (trN w h a) (trN w h b))
theorem turn_all : ∀ w h : Fin 6, 1 ≤ w.val → 1 ≤ h.val → w.val * h.val ≤ 10 → turnB w.val h.val = true := by decide +kernel
theorem grid_turn {w h : Nat} (g : Gd w h) : TurnG (w * h) (trN w h) (trN h w) (stG w) (stG h) := by
  have h1 := gd_all turn_all g
  have h2 := gd_all turn_all g.turn
  unfold turnB at h1 h2
  rw [Nat.mul_comm h w] at h2
  simp only [List.all_eq_true, Bool.and_eq_true, decide_eq_true_eq, List.mem_range] at h1 h2
  exact ⟨fun a ha => (h1 a ha).1.1, fun a ha => (h2 a ha).1.1, fun a ha => (h2 a ha).1.2, fun a ha => (h1 a ha).1.2, fun a b ha hb => by unfold stG; rw [(h1 a ha).2 b hb]⟩

/-- GridCover and GridApart. -/
def gcv (w h far : Int) : Int := if gok w h ∧ 0 ≤ far ∧ far ≤ 50 then ((cvNT (stG w.toNat) far (w.toNat * h.toNat) (2 ^ (w.toNat * h.toNat)) : Nat) : Int) else -1
def gpk (w h far : Int) : Int := if gok w h ∧ 0 ≤ far ∧ far ≤ 50 then ((pkBT (stG w.toNat) far (w.toNat * h.toNat) (2 ^ (w.toNat * h.toNat)) : Nat) : Int) else -1
theorem gcv_yes {w h : Nat} {far : Int} (g : Gd w h) (h0 : 0 ≤ far) (h1 : far ≤ 50) : gcv w h far = ((cvNT (stG w) far (w * h) (2 ^ (w * h)) : Nat) : Int) := by unfold gcv; rw [if_pos ⟨g.gok, h0, h1⟩]; rfl
theorem gpk_yes {w h : Nat} {far : Int} (g : Gd w h) (h0 : 0 ≤ far) (h1 : far ≤ 50) : gpk w h far = ((pkBT (stG w) far (w * h) (2 ^ (w * h)) : Nat) : Int) := by unfold gpk; rw [if_pos ⟨g.gok, h0, h1⟩]; rfl
theorem gcv_no {w h far : Int} (hn : ¬ gok w h ∨ far < 0 ∨ 50 < far) : gcv w h far = -1 := by
  unfold gcv; rw [if_neg]; rintro ⟨h1, h2, h3⟩
  rcases hn with hn | hn | hn
  · exact hn h1
  · omega
  · omega
theorem gpk_no {w h far : Int} (hn : ¬ gok w h ∨ far < 0 ∨ 50 < far) : gpk w h far = -1 := by
  unfold gpk; rw [if_neg]; rintro ⟨h1, h2, h3⟩
  rcases hn with hn | hn | hn
  · exact hn h1
  · omega
  · omega
theorem gcv_few {w h : Nat} {far : Int} (g : Gd w h) (h0 : 0 ≤ far) (h1 : far ≤ 50) {k : Nat} (hk : FewG (stG w) far (w * h) k) : gcv w h far = (k : Int) := by
  rw [gcv_yes g h0 h1, (few_cvT g.n10 (fun a _ => stG_self w a) h0).eq hk]
theorem gpk_most {w h : Nat} {far : Int} (g : Gd w h) (h0 : 0 ≤ far) (h1 : far ≤ 50) {k : Nat} (hk : MostG (stG w) far (w * h) k) : gpk w h far = (k : Int) := by
  rw [gpk_yes g h0 h1, (most_pkT (stG w) far g.n10).eq hk]
theorem gcv_has {w h far : Int} (hh : 0 ≤ gcv w h far) : gok w h ∧ 0 ≤ far ∧ far ≤ 50 := by
  unfold gcv at hh; split at hh
  · assumption
  · omega
theorem gpk_has {w h far : Int} (hh : 0 ≤ gpk w h far) : gok w h ∧ 0 ≤ far ∧ far ≤ 50 := by
  unfold gpk at hh; split at hh
  · assumption
  · omega
theorem gcv_rng (w h far : Int) : -1 ≤ gcv w h far ∧ gcv w h far ≤ 10 := by
  unfold gcv; split
  · rename_i hh
    obtain ⟨a, b, rfl, rfl, g⟩ := gok_nat hh.1
    have h1 := cvN_bdT (stG a) far (a * b) (2 ^ (a * b))
    have := g.n10
    simp only [Int.toNat_natCast]
    omega
  · omega
theorem gpk_rng (w h far : Int) : -1 ≤ gpk w h far ∧ gpk w h far ≤ 10 := by
  unfold gpk; split
  · rename_i hh
    obtain ⟨a, b, rfl, rfl, g⟩ := gok_nat hh.1
    have h1 := pkB_le_nT (stG a) far g.n10
    have := g.n10
    simp only [Int.toNat_natCast]
    omega
  · omega

/-- The facts of FnGridCover and FnGridApart. -/
theorem grid_few {w h : Nat} {far : Int} (g : Gd w h) (h0 : 0 ≤ far) : FewG (stG w) far (w * h) (cvNT (stG w) far (w * h) (2 ^ (w * h))) := few_cvT g.n10 (fun a _ => stG_self w a) h0
theorem grid_le (w h far : Int) (hh : 0 ≤ gcv w h far) : gpk w h far ≤ gcv w h far := by
  obtain ⟨h1, h2, h3⟩ := gcv_has hh
  obtain ⟨a, b, rfl, rfl, g⟩ := gok_nat h1
  rw [gcv_yes g h2 h3, gpk_yes g h2 h3]
  have := most_le_few (fun a' b' _ _ => stG_comm a a' b') (most_pkT (stG a) far g.n10) (grid_few g h2)
  omega
theorem gok_turn {w h : Int} : gok w h ↔ gok h w := by
  unfold gok; rw [Int.mul_comm w h]
  exact ⟨fun ⟨a, b, c⟩ => ⟨b, a, c⟩, fun ⟨a, b, c⟩ => ⟨b, a, c⟩⟩
theorem not_ok {P : Prop} {far : Int} (hh : ¬ (P ∧ 0 ≤ far ∧ far ≤ 50)) : ¬ P ∨ far < 0 ∨ 50 < far := by
  by_cases e : P
  · right
    by_cases q : 0 ≤ far
    · right; exact Int.not_le.1 fun q2 => hh ⟨e, q, q2⟩
    · left; omega
  · exact .inl e
theorem gcv_turn (w h far : Int) : gcv h w far = gcv w h far := by
  by_cases hh : gok w h ∧ 0 ≤ far ∧ far ≤ 50
  · obtain ⟨h1, h2, h3⟩ := hh
    obtain ⟨a, b, rfl, rfl, g⟩ := gok_nat h1
    rw [gcv_yes g h2 h3]
    refine gcv_few g.turn h2 h3 ?_
    rw [Nat.mul_comm b a]
    exact (grid_turn g).few (grid_few g h2)
  · rw [gcv_no (w := w), gcv_no (w := h)]
    · rw [gok_turn]; exact not_ok hh
    · exact not_ok hh
theorem gpk_turn (w h far : Int) : gpk h w far = gpk w h far := by
  by_cases hh : gok w h ∧ 0 ≤ far ∧ far ≤ 50
  · obtain ⟨h1, h2, h3⟩ := hh
    obtain ⟨a, b, rfl, rfl, g⟩ := gok_nat h1
    rw [gpk_yes g h2 h3]
    refine gpk_most g.turn h2 h3 ?_
    rw [Nat.mul_comm b a]
    exact (grid_turn g).most (most_pkT (stG a) far g.n10)
  · rw [gpk_no (w := w), gpk_no (w := h)]
    · rw [gok_turn]; exact not_ok hh
    · exact not_ok hh
theorem gcv_zero {w h : Nat} (g : Gd w h) : gcv w h 0 = ((w * h : Nat) : Int) := by
  refine gcv_few g (by omega) (by omega) ⟨⟨List.range (w * h), ⟨fun i hi => List.mem_range.1 hi, fun v hv => ⟨v, List.mem_range.2 hv, by unfold Nr; rw [stG_self]; omega⟩⟩, List.length_range⟩, fun P hP => ?_⟩
  have := List.Nodup.length_le_of_subset (List.nodup_range (n := w * h)) (l₂ := P) (fun v hv => by
    obtain ⟨i, hi, h1, h2⟩ := hP.2 v (List.mem_range.1 hv)
    unfold stG at h1 h2
    have : v = i := stN_zero (w := w) (by omega)
    rwa [this])
  rwa [List.length_range] at this
theorem gpk_pos {w h far : Int} (hh : 0 ≤ gpk w h far) : 1 ≤ gpk w h far := by
  obtain ⟨h1, h2, h3⟩ := gpk_has hh
  obtain ⟨a, b, rfl, rfl, g⟩ := gok_nat h1
  rw [gpk_yes g h2 h3]
  have := pkB_posT (d := stG a) (far := far) g.n10 g.n1
  omega
theorem gcv_neg {w h far : Int} : gcv w h far < 0 ↔ gpk w h far < 0 := by
  constructor
  · intro h1
    rcases (show gpk w h far < 0 ∨ 0 ≤ gpk w h far by omega) with h2 | h2
    · exact h2
    · obtain ⟨a, b, c⟩ := gpk_has h2
      unfold gcv at h1; rw [if_pos ⟨a, b, c⟩] at h1; omega
  · intro h1
    rcases (show gcv w h far < 0 ∨ 0 ≤ gcv w h far by omega) with h2 | h2
    · exact h2
    · obtain ⟨a, b, c⟩ := gcv_has h2
      unfold gpk at h1; rw [if_pos ⟨a, b, c⟩] at h1; omega

/-- Rows. -/
def rowM (w far : Nat) : Nat := (w + 2 * far) / (2 * far + 1)
def rowP (w far : Nat) : List Nat := (List.range (rowM w far)).map fun j => min (far + j * (2 * far + 1)) (w - 1)
def rowJ (w far : Nat) : List Nat := (List.range (rowM w far)).map fun j => j * (2 * far + 1)
def rowB (w far : Nat) : Bool := (rowP w far).all (fun i => decide (i < w)) && (List.range w).all (fun v => (rowP w far).any fun i => decide (stN w v i ≤ far)) && (rowJ w far).all (fun i => decide (i < w)) && decide (rowJ w far).Nodup && (rowJ w far).all fun i => (rowJ w far).all fun k => decide (i = k) || (List.range w).all fun v => !(decide (stN w v i ≤ far) && decide (stN w v k ≤ far))
theorem row_all : ∀ w : Fin 6, ∀ far : Fin 51, 1 ≤ w.val → rowB w.val far.val = true := by decide +kernel
theorem row_both {w far : Nat} (h1 : 1 ≤ w) (h5 : w ≤ 5) (hf : far ≤ 50) : FewG (stG w) (far : Int) w (rowM w far) ∧ MostG (stG w) (far : Int) w (rowM w far) := by
  have h := row_all ⟨w, by omega⟩ ⟨far, by omega⟩ h1
  unfold rowB at h
  simp only [List.all_eq_true, List.any_eq_true, Bool.and_eq_true, Bool.or_eq_true, decide_eq_true_eq, List.mem_range, Bool.not_eq_true', Bool.and_eq_false_iff, decide_eq_false_iff_not] at h
  obtain ⟨⟨⟨⟨a, b⟩, c⟩, d⟩, e⟩ := h
  refine both_of (P := rowP w far) (J := rowJ w far) (fun a b _ _ => stG_comm w a b) ⟨a, fun v hv => ?_⟩ ⟨c, d, fun i hi k hk hne v hv => ?_⟩ (by simp [rowP]) (by simp [rowJ])
  · obtain ⟨i, hi, hs⟩ := b v hv
    exact ⟨i, hi, by unfold Nr stG; omega⟩
  · rintro ⟨⟨_, h2⟩, _, h4⟩
    unfold stG at h2 h4
    rcases e i hi k hk with h' | h'
    · exact hne h'
    · rcases h' v hv with h' | h' <;> omega
theorem gok_row {w h : Int} (g : gok w h) : gok w 1 := ⟨g.1, by omega, by have := g.1; omega⟩
theorem row_facts {w h : Nat} {far : Nat} (g : Gd w h) (hf : far ≤ 50) : gcv w 1 far = ((rowM w far : Nat) : Int) ∧ gpk w 1 far = ((rowM w far : Nat) : Int) := by
  have g1 : Gd w 1 := ⟨g.w1, g.w5, by omega, by omega, by have := g.w5; omega⟩
  obtain ⟨h1, h2⟩ := row_both g.w1 g.w5 hf
  have h1 : FewG (stG w) (far : Int) (w * 1) (rowM w far) := by rw [Nat.mul_one]; exact h1
  have h2 : MostG (stG w) (far : Int) (w * 1) (rowM w far) := by rw [Nat.mul_one]; exact h2
  have e1 := gcv_few (far := (far : Int)) (k := rowM w far) g1 (by omega) (by omega) h1
  have e2 := gpk_most (far := (far : Int)) (k := rowM w far) g1 (by omega) (by omega) h2
  exact ⟨e1, e2⟩

/-- The cells near a cell. -/
def ballN (w n c : Nat) (far : Int) : List Nat := (List.range n).filter fun i => decide (stG w c i ≤ far)
def ballL (w n c : Nat) (far : Int) : List Int := (ballN w n c far).map fun i : Nat => (i : Int)
theorem ballN_mem {w n c i : Nat} {far : Int} : i ∈ ballN w n c far ↔ i < n ∧ stG w c i ≤ far := by simp [ballN]
theorem ballN_len (w n c : Nat) (far : Int) : (ballN w n c far).length ≤ n := by
  have := List.length_filter_le (fun i => decide (stG w c i ≤ far)) (List.range n)
  rwa [List.length_range] at this
def ballB (w h : Nat) : Bool := (List.range (w * h)).all fun c => decide ((ballN w (w * h) c 0).length = 1) && decide ((ballN w (w * h) c 1).length ≤ 5)
theorem ball_all : ∀ w h : Fin 6, 1 ≤ w.val → 1 ≤ h.val → w.val * h.val ≤ 10 → ballB w.val h.val = true := by decide +kernel
theorem ball_zero {w h c : Nat} (g : Gd w h) (hc : c < w * h) : (ballN w (w * h) c 0).length = 1 := by
  have := gd_all ball_all g
  unfold ballB at this
  simp only [List.all_eq_true, Bool.and_eq_true, decide_eq_true_eq, List.mem_range] at this
  exact (this c hc).1
theorem ball_le {w h c : Nat} {far : Int} (g : Gd w h) (hc : c < w * h) (h0 : 0 ≤ far) : ((ballN w (w * h) c far).length : Int) ≤ 2 * far * (far + 1) + 1 := by
  by_cases e0 : far = 0
  · subst e0; rw [ball_zero g hc]; decide
  · by_cases e1 : far = 1
    · subst e1
      have := gd_all ball_all g
      unfold ballB at this
      simp only [List.all_eq_true, Bool.and_eq_true, decide_eq_true_eq, List.mem_range] at this
      have := (this c hc).2
      omega
    · have h1 := ballN_len w (w * h) c far
      have h2 := g.n10
      have h3 : 4 * 3 ≤ 2 * far * (far + 1) := Int.mul_le_mul (by omega) (by omega) (by omega) (by omega)
      omega
theorem ball_asc (w n c : Nat) (far : Int) : (ballN w n c far).Pairwise (· < ·) := List.Pairwise.filter _ List.pairwise_lt_range
end Go.Proofs.Ytkgomgfhhhdnjaa
namespace Go.Proofs.Ytkgomgfhhhdnjaa
open Go.ChangeShapes Go.WideShapes Go.ChangeAt Go.RowKit
set_option linter.unusedVariables false
set_option maxRecDepth 4000

/-- An ascending list of helpers below H. -/
def AscL (H : Int) (l : List Int) (k : Nat) : Prop := ∀ i, i < k → 0 ≤ l.getD i 0 ∧ l.getD i 0 ≤ H - 1 ∧ (0 < i → l.getD (i - 1) 0 < l.getD i 0)
instance (H : Int) (l : List Int) (k : Nat) : Decidable (AscL H l k) := by unfold AscL; infer_instance
theorem AscL.zero (H : Int) (l : List Int) : AscL H l 0 := fun i hi => by omega
theorem AscL.step {H : Int} {l : List Int} {k : Nat} {x : Int} (h : AscL H l k) (hx : l.getD k 0 = x) (h0 : 0 ≤ x) (h1 : x ≤ H - 1) (h2 : 0 < k → l.getD (k - 1) 0 < x) : AscL H l (k + 1) := fun i hi => by
  by_cases e : i = k
  · subst e; rw [hx]; exact ⟨h0, h1, h2⟩
  · exact h i (by omega)
/-- ascendingBelow. -/
theorem asc_no {H : Int} {l : List Int} {k : Nat} {x a : Int} (hk : k < l.length) (hx : l.getD k 0 = x) (ha : 0 < k → l.getD (k - 1) 0 = a) (ha0 : k = 0 → a = -1) (h : x ≤ a ∨ H ≤ x) : ¬ AscL H l l.length := fun h' => by
  obtain ⟨h1, h2, h3⟩ := h' k hk
  rw [hx] at h1 h2 h3
  rcases h with h | h
  · by_cases h0 : k = 0
    · have := ha0 h0; omega
    · have := h3 (by omega)
      rw [ha (by omega)] at this; omega
  · omega
set_option maxHeartbeats 800000 in
theorem ascBelow_any (A : Option Addr) (c n : Nat) (H : Int) (l : List Int) (w : World) (B : Nat) (hr : RdI w B A l) (hn : l.length = n) (hb : n ≤ 1152921504606846976) :
    Calls Try.prog 59 #[.slice A n c, .int .i64 H] w fun e w' => e = .returned (.bool (decide (AscL H l n))) ∧ w = w' := by
  have Hn := Lib.hid hn
  clear hn
  go_enter Try.func59, Try.ntmps59
  go_wp2
  go_loop [5, 10] (fun a i => ∃ k : Nat, ∃ p : Int, k ≤ n ∧ i = .int .i64 k ∧ a = .int .i64 p ∧ -1 ≤ p ∧ Hid (AscL H l k ∧ (0 < k → l.getD (k - 1) 0 = p) ∧ (k = 0 → p = -1))) (fun _ i => n - (intOf i).toNat)
  case atStart => exact ⟨0, -1, by omega, rfl, rfl, by omega, AscL.zero _ _, fun h => by omega, fun _ => rfl⟩
  case round =>
    obtain ⟨k, p, hk, rfl, rfl, hp, Ho⟩ := hrel
    by_cases hlt : k < n
    · obtain ⟨b, off, x, rfl, -, Hx, hcx⟩ := hr.x (k := k) (by rw [Hn.out]; omega)
      by_cases h1 : x ≤ p
      · have Hs : Hid (decide (AscL H l n) = false) := decide_eq_false (by rw [← Hn.out]; exact asc_no (by rw [Hn.out]; exact hlt) Hx.out Ho.out.2.1 Ho.out.2.2 (.inl h1))
        go_wp2
        go_ret
        exact ⟨ret_bool Hs.out.symm, rfl⟩
      · by_cases h2 : H ≤ x
        · have Hs : Hid (decide (AscL H l n) = false) := decide_eq_false (by rw [← Hn.out]; exact asc_no (by rw [Hn.out]; exact hlt) Hx.out Ho.out.2.1 Ho.out.2.2 (.inr h2))
          go_wp2
          go_ret
          exact ⟨ret_bool Hs.out.symm, rfl⟩
        · have Hs : Hid (AscL H l (k + 1) ∧ (0 < k + 1 → l.getD (k + 1 - 1) 0 = x) ∧ (k + 1 = 0 → x = -1)) := ⟨Ho.out.1.step Hx.out (by omega) (by omega) (fun h0 => by rw [Ho.out.2.1 h0]; omega), fun _ => by rw [Nat.add_sub_cancel]; exact Hx.out, fun h => by omega⟩
          go_wp2
          go_round
          case rel => exact ⟨k + 1, x, by omega, by go_num, rfl, by omega, Hs⟩
          case measure => simp [intOf]; omega
    · obtain rfl : k = n := by omega
      have Hs : Hid (decide (AscL H l k) = true) := decide_eq_true Ho.out.1
      go_wp2
      go_ret
      exact ⟨ret_bool Hs.out.symm, rfl⟩
end Go.Proofs.Ytkgomgfhhhdnjaa
namespace Go.Proofs.Ytkgomgfhhhdnjaa
open Go.ChangeShapes Go.WideShapes Go.ChangeAt Go.RowKit
set_option linter.unusedVariables false
set_option maxRecDepth 8000

def rsN (n a b : Nat) : Nat := min (gpN a b) (n - gpN a b)
/-- How many steps two cells of a closed grid are from each other. -/
def srN (w h a b : Nat) : Nat := rsN h (a / w) (b / w) + rsN w (a % w) (b % w)
theorem rsN_comm (n a b : Nat) : rsN n a b = rsN n b a := by unfold rsN; rw [gpN_comm]
theorem srN_comm (w h a b : Nat) : srN w h a b = srN w h b a := by unfold srN; rw [rsN_comm h, rsN_comm w]
def rok (w h : Int) : Prop := (1 ≤ w ∧ w ≤ 10) ∧ 1 ≤ h ∧ h ≤ 10
instance (w h : Int) : Decidable (rok w h) := by unfold rok; infer_instance
structure Rg (w h : Nat) : Prop where
  w1 : 1 ≤ w
  w10 : w ≤ 10
  h1 : 1 ≤ h
  h10 : h ≤ 10
theorem rok_nat {w h : Int} (g : rok w h) : ∃ a b : Nat, w = a ∧ h = b ∧ Rg a b := by
  obtain ⟨⟨a1, a5⟩, b1, b5⟩ := g
  obtain ⟨a, rfl⟩ := Int.eq_ofNat_of_zero_le (show 0 ≤ w by omega)
  obtain ⟨b, rfl⟩ := Int.eq_ofNat_of_zero_le (show 0 ≤ h by omega)
  exact ⟨a, b, rfl, rfl, by omega, by omega, by omega, by omega⟩
theorem Rg.rok {w h : Nat} (g : Rg w h) : rok (w : Int) (h : Int) := by
  obtain ⟨a, b, c, d⟩ := g
  exact ⟨by omega, by omega⟩
theorem Rg.n100 {w h : Nat} (g : Rg w h) : w * h ≤ 100 := Nat.mul_le_mul g.w10 g.h10
theorem Rg.n1 {w h : Nat} (g : Rg w h) : 1 ≤ w * h := Nat.mul_pos g.w1 g.h1
theorem rg_all {P : Nat → Nat → Bool} (h : ∀ w h : Fin 11, 1 ≤ w.val → 1 ≤ h.val → P w.val h.val = true) {w h' : Nat} (g : Rg w h') : P w h' = true :=
  h ⟨w, by have := g.w10; omega⟩ ⟨h', by have := g.h10; omega⟩ g.w1 g.h1

/-- How many of a list are near a cell. -/
def nrC (w h : Nat) (far : Int) (c : Nat) (zs : List Int) : Nat := (zs.filter fun z => decide (((srN w h c z.toNat : Nat) : Int) ≤ far)).length
theorem nrC_take {w h : Nat} {far : Int} {c k : Nat} {zs : List Int} {z : Int} (hk : k < zs.length) (hz : zs.getD k 0 = z) : nrC w h far c (zs.take (k + 1)) = nrC w h far c (zs.take k) + (if ((srN w h c z.toNat : Nat) : Int) ≤ far then 1 else 0) := by
  have e : zs.take (k + 1) = zs.take k ++ [z] := by
    rw [List.take_succ_eq_append_getElem hk]
    rw [← hz]; simp [List.getD, List.getElem?_eq_getElem hk]
  unfold nrC
  rw [e, List.filter_append, List.length_append]
  congr 1
  by_cases h : ((srN w h c z.toNat : Nat) : Int) ≤ far <;> simp [h]
theorem nrC_le (w h : Nat) (far : Int) (c : Nat) (zs : List Int) : nrC w h far c zs ≤ zs.length := List.length_filter_le _ _
/-- Each of the first n cells has exactly one near. -/
def ones (w h n : Nat) (far : Int) (zs : List Int) : Bool := (List.range n).all fun c => decide (nrC w h far c zs = 1)
theorem ones_iff {w h n : Nat} {far : Int} {zs : List Int} : ones w h n far zs = true ↔ ∀ c, c < n → nrC w h far c zs = 1 := by
  unfold ones; rw [List.all_eq_true]; simp only [List.mem_range, decide_eq_true_eq]
/-- IsPerfect. -/
def prf (w h : Int) (zs : List Int) (far : Int) : Bool := decide (rok w h ∧ (0 ≤ far ∧ far ≤ 50) ∧ AscL (w * h) zs zs.length) && ones w.toNat h.toNat (w.toNat * h.toNat) far zs
theorem prf_no {w h : Int} {zs : List Int} {far : Int} (hn : ¬ rok w h ∨ (far < 0 ∨ 50 < far) ∨ ¬ AscL (w * h) zs zs.length) : prf w h zs far = false := by
  unfold prf
  rw [decide_eq_false, Bool.false_and]
  rintro ⟨h1, h2, h3⟩
  rcases hn with hn | hn | hn
  · exact hn h1
  · omega
  · exact hn h3
theorem prf_yes {w h : Nat} {zs : List Int} {far : Int} (g : Rg w h) (h0 : 0 ≤ far) (h1 : far ≤ 50) (ha : AscL ((w * h : Nat) : Int) zs zs.length) : prf w h zs far = ones w h (w * h) far zs := by
  unfold prf
  rw [decide_eq_true ⟨g.rok, ⟨h0, h1⟩, by rw [← Int.natCast_mul]; exact ha⟩, Bool.true_and, Int.toNat_natCast, Int.toNat_natCast]
theorem prf_has {w h : Int} {zs : List Int} {far : Int} (hh : prf w h zs far = true) : rok w h ∧ (0 ≤ far ∧ far ≤ 50) ∧ AscL (w * h) zs zs.length := by
  unfold prf at hh
  rw [Bool.and_eq_true, decide_eq_true_eq] at hh
  exact hh.1

/-- Ascending lists. -/
theorem ascL_lt {H : Int} {zs : List Int} (h : AscL H zs zs.length) : ∀ j i, i < j → j < zs.length → zs.getD i 0 < zs.getD j 0
  | 0, i, hi, _ => by omega
  | j + 1, i, hi, hj => by
    have h1 := (h (j + 1) hj).2.2 (by omega)
    rw [Nat.add_sub_cancel] at h1
    by_cases e : i = j
    · subst e; exact h1
    · have := ascL_lt h j i (by omega) (by omega)
      omega
theorem getD_of_lt {zs : List Int} {i : Nat} (h : i < zs.length) : zs.getD i 0 = zs[i] := by simp [List.getD, List.getElem?_eq_getElem h]
theorem ascL_pair {H : Int} {zs : List Int} (h : AscL H zs zs.length) : zs.Pairwise (· < ·) := by
  rw [List.pairwise_iff_getElem]
  intro i j hi hj hij
  have := ascL_lt h j i hij hj
  rwa [getD_of_lt hi, getD_of_lt hj] at this
theorem ascL_rng {H : Int} {zs : List Int} (h : AscL H zs zs.length) : ∀ z ∈ zs, 0 ≤ z ∧ z < H := by
  intro z hz
  obtain ⟨i, hi, rfl⟩ := List.getElem_of_mem hz
  have := h i hi
  rw [getD_of_lt hi] at this
  omega
theorem ascL_of {H : Int} {zs : List Int} (hp : zs.Pairwise (· < ·)) (hr : ∀ z ∈ zs, 0 ≤ z ∧ z < H) : AscL H zs zs.length := by
  intro i hi
  have h1 := hr _ (List.getElem_mem hi)
  rw [getD_of_lt hi]
  refine ⟨h1.1, by omega, fun h0 => ?_⟩
  rw [getD_of_lt (show i - 1 < zs.length by omega)]
  exact List.pairwise_iff_getElem.1 hp (i - 1) i (by omega) hi (by omega)

/-- Sums over cells. -/
def sumC (f : Nat → Nat) : Nat → Nat
  | 0 => 0
  | n + 1 => sumC f n + f n
theorem sumC_add (f g : Nat → Nat) : ∀ n, sumC (fun c => f c + g c) n = sumC f n + sumC g n
  | 0 => rfl
  | n + 1 => by simp only [sumC]; rw [sumC_add f g n]; omega
theorem sumC_congr {f g : Nat → Nat} : ∀ n, (∀ c, c < n → f c = g c) → sumC f n = sumC g n
  | 0, _ => rfl
  | n + 1, h => by simp only [sumC]; rw [sumC_congr n fun c hc => h c (by omega), h n (by omega)]
theorem sumC_one : ∀ n, sumC (fun _ => 1) n = n
  | 0 => rfl
  | n + 1 => by simp only [sumC]; rw [sumC_one n]
theorem sumC_zero : ∀ n, sumC (fun _ => 0) n = 0
  | 0 => rfl
  | n + 1 => by simp only [sumC]; rw [sumC_zero n]
/-- Slanting cells. -/
def slN (w n a : Nat) : List Nat := (List.range n).filter fun c => decide ((c % w + 2 * (c / w)) % 5 = a)
def slL (w n a : Nat) : List Int := (slN w n a).map fun i : Nat => (i : Int)
theorem sl_sum (w : Nat) : ∀ n, (slN w n 0).length + (slN w n 1).length + (slN w n 2).length + (slN w n 3).length + (slN w n 4).length = n
  | 0 => rfl
  | n + 1 => by
    have ih := sl_sum w n
    have e : ∀ a, (slN w (n + 1) a).length = (slN w n a).length + if (n % w + 2 * (n / w)) % 5 = a then 1 else 0 := fun a => by
      unfold slN
      rw [List.range_succ, List.filter_append, List.length_append]
      congr 1
      by_cases hc : (n % w + 2 * (n / w)) % 5 = a <;> simp [hc]
    rw [e, e, e, e, e]
    generalize n % w + 2 * (n / w) = x
    have : x % 5 < 5 := Nat.mod_lt _ (by omega)
    repeat' split
    all_goals omega
def slB (w h : Nat) : Bool := (List.range 5).all fun a => ones w h (w * h) 1 (slL w (w * h) a)
theorem sl_all : slB 5 5 = true ∧ slB 5 10 = true ∧ slB 10 5 = true ∧ slB 10 10 = true := by decide +kernel
theorem slN_asc (w n a : Nat) : (slN w n a).Pairwise (· < ·) := List.Pairwise.filter _ List.pairwise_lt_range
theorem slN_mem {w n a i : Nat} : i ∈ slN w n a ↔ i < n ∧ (i % w + 2 * (i / w)) % 5 = a := by simp [slN]
theorem castL_asc {L : List Nat} (hp : L.Pairwise (· < ·)) {n : Nat} (hn : ∀ i ∈ L, i < n) : AscL (n : Int) (L.map fun i : Nat => (i : Int)) (L.map fun i : Nat => (i : Int)).length :=
  ascL_of (List.pairwise_map.2 (hp.imp fun h => by omega)) fun z hz => by
    obtain ⟨i, hi, rfl⟩ := List.mem_map.1 hz
    have := hn i hi
    omega
theorem slL_asc (w n a : Nat) : AscL (n : Int) (slL w n a) (slL w n a).length := castL_asc (slN_asc w n a) fun i hi => (slN_mem.1 hi).1
theorem sl_prf {w h a : Nat} (g : Rg w h) (hw : w % 5 = 0) (hh : h % 5 = 0) (ha : a < 5) : prf w h (slL w (w * h) a) 1 = true := by
  rw [prf_yes g (by omega) (by omega) (slL_asc _ _ _)]
  have h1 := sl_all
  unfold slB at h1
  simp only [List.all_eq_true, List.mem_range] at h1
  obtain ⟨a1, a2, a3, a4⟩ := g
  have hw2 : w = 5 ∨ w = 10 := by omega
  have hh2 : h = 5 ∨ h = 10 := by omega
  rcases hw2 with rfl | rfl <;> rcases hh2 with rfl | rfl
  · exact h1.1 a ha
  · exact h1.2.1 a ha
  · exact h1.2.2.1 a ha
  · exact h1.2.2.2 a ha

/-- A cell moved by one column, and back. -/
def mvN (w c : Nat) : Nat := c / w * w + (c % w + 1) % w
def mbN (w c : Nat) : Nat := c / w * w + (c % w + (w - 1)) % w
def mvB (w h : Nat) : Bool := (List.range (w * h)).all fun c => decide (mvN w c < w * h) && decide (mbN w c < w * h) && decide (mvN w (mbN w c) = c) && decide (mbN w (mvN w c) = c) && decide (mvN w c / w = c / w) && decide (mvN w c % w = (c % w + 1) % w)
theorem mv_all : ∀ w h : Fin 11, 1 ≤ w.val → 1 ≤ h.val → mvB w.val h.val = true := by decide +kernel
theorem rs_shift : ∀ w a b : Fin 11, a.val < w.val → b.val < w.val → rsN w.val ((a.val + 1) % w.val) ((b.val + 1) % w.val) = rsN w.val a.val b.val := by decide +kernel
structure MvC (w h c : Nat) : Prop where
  lt : mvN w c < w * h
  back : mbN w c < w * h
  mb : mvN w (mbN w c) = c
  bm : mbN w (mvN w c) = c
  row : mvN w c / w = c / w
  col : mvN w c % w = (c % w + 1) % w
theorem mv_at {w h c : Nat} (g : Rg w h) (hc : c < w * h) : MvC w h c := by
  have h1 := rg_all mv_all g
  unfold mvB at h1
  simp only [List.all_eq_true, Bool.and_eq_true, decide_eq_true_eq, List.mem_range] at h1
  obtain ⟨⟨⟨⟨⟨a, b⟩, d⟩, e⟩, f⟩, k⟩ := h1 c hc
  exact ⟨a, b, d, e, f, k⟩
theorem sr_shift {w h a b : Nat} (g : Rg w h) (ha : a < w * h) (hb : b < w * h) : srN w h (mvN w a) (mvN w b) = srN w h a b := by
  have h1 := mv_at g ha
  have h2 := mv_at g hb
  have hw := g.w10
  have ea := Nat.mod_lt a g.w1
  have eb := Nat.mod_lt b g.w1
  unfold srN
  rw [h1.row, h1.col, h2.row, h2.col]
  have := rs_shift ⟨w, by omega⟩ ⟨a % w, by omega⟩ ⟨b % w, by omega⟩ ea eb
  simp only at this
  rw [this]
/-- The list moved. -/
def mvd (w n : Nat) (zs : List Int) : List Nat := (List.range n).filter fun c => decide (((mvN w c : Nat) : Int) ∈ zs)
def mvL (w n : Nat) (zs : List Int) : List Int := (mvd w n zs).map fun i : Nat => (i : Int)
theorem mvd_mem {w n c : Nat} {zs : List Int} : c ∈ mvd w n zs ↔ c < n ∧ ((mvN w c : Nat) : Int) ∈ zs := by simp [mvd]
theorem mvd_asc (w n : Nat) (zs : List Int) : (mvd w n zs).Pairwise (· < ·) := List.Pairwise.filter _ List.pairwise_lt_range
theorem mvL_asc (w n : Nat) (zs : List Int) : AscL (n : Int) (mvL w n zs) (mvL w n zs).length := castL_asc (mvd_asc w n zs) fun i hi => (mvd_mem.1 hi).1
theorem pairs_nodup {zs : List Int} (h : zs.Pairwise (· < ·)) : zs.Nodup := h.imp fun h => by omega
/-- A part that is as many is all. -/
theorem sub_all {α : Type} [BEq α] [LawfulBEq α] {A B : List α} (hA : A.Nodup) (hs : ∀ a ∈ A, a ∈ B) (hl : A.length = B.length) : ∀ b ∈ B, b ∈ A := by
  intro b hb
  by_cases h : b ∈ A
  · exact h
  · have := List.Nodup.length_le_of_subset (List.nodup_cons.2 ⟨h, hA⟩) (l₂ := B) (fun x hx => by
      rcases List.mem_cons.1 hx with rfl | hx
      · exact hb
      · exact hs x hx)
    rw [List.length_cons] at this
    omega
theorem mvd_img {w h : Nat} (g : Rg w h) {zs : List Int} (hp : zs.Pairwise (· < ·)) (hl : (mvd w (w * h) zs).length = zs.length) : List.Perm ((mvd w (w * h) zs).map fun c => ((mvN w c : Nat) : Int)) zs := by
  have hnd : ((mvd w (w * h) zs).map fun c => ((mvN w c : Nat) : Int)).Nodup := by
    refine List.pairwise_map.2 (List.Pairwise.imp_of_mem ?_ (mvd_asc w (w * h) zs))
    intro a b ha hb hlt he
    have h1 := mv_at g (mvd_mem.1 ha).1
    have h2 := mv_at g (mvd_mem.1 hb).1
    have e : mvN w a = mvN w b := by omega
    have : a = b := by rw [← h1.bm, ← h2.bm, e]
    omega
  have hsub : ∀ z ∈ ((mvd w (w * h) zs).map fun c => ((mvN w c : Nat) : Int)), z ∈ zs := fun z hz => by
    obtain ⟨c, hc, rfl⟩ := List.mem_map.1 hz
    exact (mvd_mem.1 hc).2
  exact (List.perm_ext_iff_of_nodup hnd (pairs_nodup hp)).2 fun z => ⟨hsub z, sub_all hnd hsub (by rw [List.length_map, hl]) z⟩
theorem nrC_perm {w h : Nat} {far : Int} {c : Nat} {xs ys : List Int} (hp : List.Perm xs ys) : nrC w h far c xs = nrC w h far c ys := (hp.filter _).length_eq
theorem mvd_near {w h : Nat} (g : Rg w h) {far : Int} {zs : List Int} (hp : zs.Pairwise (· < ·)) (hl : (mvd w (w * h) zs).length = zs.length) {c : Nat} (hc : c < w * h) : nrC w h far c (mvL w (w * h) zs) = nrC w h far (mvN w c) zs := by
  rw [← nrC_perm (mvd_img g hp hl)]
  unfold nrC mvL
  rw [List.filter_map, List.filter_map, List.length_map, List.length_map]
  congr 1
  refine List.filter_congr fun m hm => ?_
  have hm2 := (mvd_mem.1 hm).1
  simp only [Function.comp, Int.toNat_natCast, sr_shift g hc hm2]
/-- Perfect cells may be moved. -/
theorem prf_moved {w h : Nat} (g : Rg w h) {far : Int} {zs : List Int} (hp : zs.Pairwise (· < ·)) (hl : (mvL w (w * h) zs).length = zs.length) : prf w h (mvL w (w * h) zs) far = prf w h zs far := by
  have hl2 : (mvd w (w * h) zs).length = zs.length := by rw [← hl]; simp [mvL]
  by_cases hf : 0 ≤ far ∧ far ≤ 50
  · have hz : AscL ((w * h : Nat) : Int) zs zs.length := ascL_of hp fun z hz => by
      have := (mvd_img g hp hl2).mem_iff (a := z)
      obtain ⟨c, hc, rfl⟩ := List.mem_map.1 (this.2 hz)
      have := (mv_at g (mvd_mem.1 hc).1).lt
      omega
    rw [prf_yes g hf.1 hf.2 hz, prf_yes g hf.1 hf.2 (mvL_asc _ _ _), Bool.eq_iff_iff, ones_iff, ones_iff]
    constructor
    · intro h1 c hc
      have hb := mv_at g hc
      have := h1 _ hb.back
      rwa [mvd_near g hp hl2 hb.back, hb.mb] at this
    · intro h1 c hc
      rw [mvd_near g hp hl2 hc]
      exact h1 _ (mv_at g hc).lt
  · rw [prf_no (.inr (.inl (by omega))), prf_no (.inr (.inl (by omega)))]
end Go.Proofs.Ytkgomgfhhhdnjaa
namespace Go.Proofs.Ytkgomgfhhhdnjaa
open Go.ChangeShapes Go.WideShapes Go.ChangeAt Go.RowKit
set_option linter.unusedVariables false

theorem made_ints (n : Nat) : (madeCells (Value.int .i64 0).cells (n * 1)).toList = List.replicate n (Value.int .i64 0) := by
  rw [Nat.mul_one]; exact toList_madeCells_one _ _

theorem rdI_of_own {w : World} {B b n cap : Nat} {zs : List Int} (h : w.ownsRow B 3 1 (.slice (some ⟨b, 0, none⟩) n cap) n (zs.map (Value.int .i64))) (hn : zs.length = n) : RdI w w.heap.size (some ⟨b, 0, none⟩) zs := fun _ =>
  ⟨b, 0, rfl, (h.lt b rfl).2, fun i hi => by
    rw [Nat.zero_add, h.cellAt i (by omega)]
    simp [List.getElem?_eq_getElem hi]⟩
end Go.Proofs.Ytkgomgfhhhdnjaa
namespace Go.Proofs.Ytkgomgfhhhdnjaa
open Go.ChangeShapes Go.WideShapes Go.ChangeAt Go.RowKit
set_option linter.unusedVariables false

def EqRel (n k : Nat) (zs zs' : List Int) : Prop := k ≤ n ∧ zs.take k = zs'.take k
theorem eqRel_step {n k : Nat} {zs zs' : List Int} (h : EqRel n k zs zs') (hn : zs.length = n) (hn' : zs'.length = n) (hk : k < n) (e : zs.getD k 0 = zs'.getD k 0) : EqRel n (k + 1) zs zs' := by
  refine ⟨hk, ?_⟩
  rw [List.take_succ_eq_append_getElem (by omega), List.take_succ_eq_append_getElem (by omega), h.2]
  have e1 : zs.getD k 0 = zs[k]'(by omega) := by simp [List.getD, List.getElem?_eq_getElem (show k < zs.length by omega)]
  have e2 : zs'.getD k 0 = zs'[k]'(by omega) := by simp [List.getD, List.getElem?_eq_getElem (show k < zs'.length by omega)]
  rw [e1, e2] at e
  rw [e]
theorem eqRel_no {k : Nat} {zs zs' : List Int} (e : ¬ zs.getD k 0 = zs'.getD k 0) : (zs == zs') = false := by
  rw [beq_eq_false_iff_ne]
  rintro rfl
  exact e rfl
theorem eqRel_end {n k : Nat} {zs zs' : List Int} (h : EqRel n k zs zs') (hn : zs.length = n) (hn' : zs'.length = n) (hk : n ≤ k) : (zs == zs') = true := by
  have := h.2
  rw [List.take_of_length_le (by omega), List.take_of_length_le (by omega)] at this
  rw [this]; simp

set_option maxHeartbeats 400000 in
theorem eqInt_any (A A' : Option Addr) (c c' n n' : Nat) (zs zs' : List Int) (w : World) (B B' : Nat) (hr : RdI w B A zs) (hn : zs.length = n) (hr' : RdI w B' A' zs') (hn' : zs'.length = n') (hb : n ≤ 1048576) :
    Calls Try.prog 36 #[.slice A n c, .slice A' n' c'] w fun e w' => e = .returned (.bool (zs == zs')) ∧ ∃ q, w' = w.drewN q := by
  by_cases hnn : n = n'
  · subst hnn
    have Hn := Lib.hid hn
    have Hn' := Lib.hid hn'
    clear hn hn'
    go_enter Try.func36, Try.ntmps36
    go_wp2
    go_loopw [5] (fun i wr => ∃ k : Nat, ∃ q, EqRel n k zs zs' ∧ i = .int .i64 k ∧ wr = w.drewN q) (fun i wr => n - (intOf i).toNat)
    case atStart => exact ⟨0, 0, ⟨Nat.zero_le _, rfl⟩, rfl, rfl⟩
    case round =>
      obtain ⟨k, q, hk, rfl, rfl⟩ := hrel
      by_cases hlt : k < n
      · obtain ⟨b, off, x, rfl, hbw, Hx, hc⟩ := hr.x (k := k) (by rw [Hn.out]; exact hlt)
        obtain ⟨b', off', y, rfl, hbw', Hy, hc'⟩ := hr'.x (k := k) (by rw [Hn'.out]; exact hlt)
        by_cases he : x = y
        · have hs := eqRel_step hk Hn.out Hn'.out hlt (Hx.out.trans (he.trans Hy.out.symm))
          subst he
          have hb1 : (x != x) = false := by simp
          have Hs := Lib.hid hs
          clear hs
          go_wp2
          go_quiet (fail)
          go_wp2
          go_roundw
          case rel => exact ⟨k + 1, _, Hs.out, by go_num, rfl⟩
          case measure => simp [intOf]; omega
        · have hs : (zs == zs') = false := eqRel_no (k := k) (by rw [Hx.out, Hy.out]; exact he)
          have hb1 : (x != y) = true := by rw [bne_iff_ne]; exact he
          have Hs := Lib.hid hs
          clear hs he
          go_wp2
          go_quiet (fail)
          go_wp2
          go_ret
          exact ⟨ret_bool Hs.out.symm, _, World.drewN_drewN _ _ _⟩
      · have hs := eqRel_end hk Hn.out Hn'.out (by omega)
        have Hs := Lib.hid hs
        clear hs
        go_wp2
        go_ret
        exact ⟨ret_bool Hs.out.symm, _, rfl⟩
  · have hs : (zs == zs') = false := by
      rw [beq_eq_false_iff_ne]
      rintro rfl
      omega
    have hb1 : ((n : Int) != (n' : Int)) = true := by rw [bne_iff_ne]; omega
    have Hs := Lib.hid hs
    clear hs hn hn' hnn
    go_enter Try.func36, Try.ntmps36
    go_wp2
    go_ret
    exact ⟨ret_bool Hs.out.symm, 0, rfl⟩
end Go.Proofs.Ytkgomgfhhhdnjaa
namespace Go.Proofs.Ytkgomgfhhhdnjaa
open Go.ChangeShapes Go.WideShapes Go.ChangeAt Go.RowKit
set_option linter.unusedVariables false

def gapI (a b : Int) : Int := if a - b < b - a then b - a else a - b
theorem gapI_nonneg (a b : Int) : 0 ≤ gapI a b := by unfold gapI; split <;> omega
theorem gapI_le {a b : Int} {M : Int} (h1 : -M ≤ a) (h2 : a ≤ M) (h3 : -M ≤ b) (h4 : b ≤ M) : gapI a b ≤ 2 * M := by unfold gapI; split <;> omega
theorem distance_any (a b : Int) (w : World) (h1 : -1000 ≤ a) (h2 : a ≤ 1000) (h3 : -1000 ≤ b) (h4 : b ≤ 1000) :
    Calls Try.prog 84 #[.int .i64 a, .int .i64 b] w fun e w' => e = .returned (.int .i64 (gapI a b)) ∧ w = w' := by
  go_enter Try.func84, Try.ntmps84
  go_wp2
  all_goals
    go_ret
    exact ⟨ret_int (by unfold gapI; split <;> omega), rfl⟩
theorem gap_any (a b : Int) (w : World) (h1 : -1000 ≤ a) (h2 : a ≤ 1000) (h3 : -1000 ≤ b) (h4 : b ≤ 1000) :
    Calls Try.prog 72 #[.int .i64 a, .int .i64 b] w fun e w' => e = .returned (.int .i64 (gapI a b)) ∧ w = w' := by
  go_enter Try.func72, Try.ntmps72
  go_wp2
  all_goals
    go_ret
    exact ⟨ret_int (by unfold gapI; split <;> omega), rfl⟩
end Go.Proofs.Ytkgomgfhhhdnjaa
namespace Go.Proofs.Ytkgomgfhhhdnjaa
open Go.ChangeShapes Go.WideShapes Go.ChangeAt Go.RowKit
set_option linter.unusedVariables false
set_option maxRecDepth 4000

theorem belowd {a w : World} (h : Below a.drew.heap.size a.drew w) : Below a.heap.size a w := ⟨h.os, h.tape, h.output, h.size, h.block⟩

/-- The first k numbers are there, then zeros. -/
def fillL (zs : List Int) (k : Nat) : List Value := (zs.take k).map (Value.int .i64) ++ List.replicate (zs.length - k) (Value.int .i64 0)
theorem fill_step {w : World} {B b n cap sz k : Nat} {t : TypeId} {zs : List Int} (hk : k < zs.length)
    (hown : w.ownsRow B t sz (.slice (some ⟨b, 0, none⟩) n cap) n (fillL zs k)) :
    (w.setCell ⟨b, k, none⟩ (Value.int .i64 (zs.getD k 0))).ownsRow B t sz (.slice (some ⟨b, 0, none⟩) n cap) n (fillL zs (k + 1)) := by
  have h := hown.stored k (Value.int .i64 (zs.getD k 0))
  have e : (fillL zs k).set k (Value.int .i64 (zs.getD k 0)) = fillL zs (k + 1) := by
    unfold fillL
    have hl : ((zs.take k).map (Value.int .i64)).length = k := by simp; omega
    rw [List.set_append_right _ _ (by omega), hl, Nat.sub_self]
    have hr : List.replicate (zs.length - k) (Value.int .i64 0) = Value.int .i64 0 :: List.replicate (zs.length - (k + 1)) (Value.int .i64 0) := by
      rw [show zs.length - k = (zs.length - (k + 1)) + 1 by omega]; rfl
    rw [hr, List.set_cons_zero, List.take_succ_eq_append_getElem (by omega), List.map_append]
    have hg : zs.getD k 0 = zs[k]'(by omega) := by simp [List.getD, List.getElem?_eq_getElem (show k < zs.length by omega)]
    rw [hg]; simp
  rw [e] at h
  exact h.1
theorem fillL_len (zs : List Int) {k : Nat} (hk : k ≤ zs.length) : (fillL zs k).length = zs.length := by unfold fillL; simp; omega
theorem fillL_all (zs : List Int) {k : Nat} (hk : zs.length ≤ k) : fillL zs k = zs.map (Value.int .i64) := by
  unfold fillL
  rw [List.take_of_length_le hk, show zs.length - k = 0 by omega]; simp
theorem rdI_of_ownN {w : World} {B b n cap sz : Nat} {t : TypeId} {zs : List Int} (h : w.ownsRow B t sz (.slice (some ⟨b, 0, none⟩) n cap) n (zs.map (Value.int .i64))) (hn : zs.length = n * sz) : RdI w w.heap.size (some ⟨b, 0, none⟩) zs := fun _ =>
  ⟨b, 0, rfl, (h.lt b rfl).2, fun i hi => by
    rw [Nat.zero_add, h.cellAt i (by omega)]
    simp [List.getElem?_eq_getElem hi]⟩
theorem ownN_below {w w' : World} {B s n : Nat} {e : TypeId} {v : Value} {xs : List Value} (h : w.ownsRow B e s v n xs) (hb : Below w.heap.size w w') : w'.ownsRow B e s v n xs := by
  refine ⟨h.1, ?_⟩
  rcases h.2 with h0 | ⟨g, cap, cur, h1, h2, hg, h3⟩
  · exact .inl h0
  · exact .inr ⟨g, cap, cur, h1, h2, (hb.block g (Array.getElem?_eq_some_iff.1 hg).1).trans hg, h3⟩
theorem own_sliceN {w : World} {B n sz : Nat} {t : TypeId} {v : Value} {xs : List Value} (h : w.ownsRow B t sz v n xs) : ∃ A c, v = .slice A n c ∧ n ≤ c ∧ c ≤ 9223372036854775807 ∧ (0 < n → ∃ g, A = some ⟨g, 0, none⟩ ∧ B ≤ g ∧ g < w.heap.size) := by
  have h0 := h
  rcases h.2 with ⟨rfl, rfl⟩ | ⟨g, cap, cur, rfl, _, _, hnc, hmx, _⟩
  · exact ⟨none, 0, rfl, Nat.le_refl _, by omega, fun hp => by omega⟩
  · exact ⟨_, cap, rfl, hnc, hmx, fun _ => ⟨g, rfl, h0.lt g rfl⟩⟩
theorem addr_add0 {b k : Nat} : (⟨b, 0, none⟩ : Addr).add k = ⟨b, k, none⟩ := by unfold Addr.add; split <;> simp_all
theorem own_cell {w : World} {B b n cap sz : Nat} {t : TypeId} {xs : List Value} (h : w.ownsRow B t sz (.slice (some ⟨b, 0, none⟩) n cap) n xs) {j : Nat} (hj : j < n * sz) (hl : xs.length = n * sz) : ∃ v, w.cell? ⟨b, j, none⟩ = some v := by
  rw [h.cellAt j hj]
  exact ⟨_, List.getElem?_eq_getElem (by omega)⟩
theorem gb_trans {R : Nat} {a b c : World} {row : Option Nat} (h : a.grownBy b (some R)) (k : b.grownBy c row) (hr : row = some R ∨ ∀ g, row = some g → a.heap.size ≤ g) : a.grownBy c (some R) :=
  ⟨k.os.trans h.os, k.tape.trans h.tape, k.output.trans h.output, Nat.le_trans h.size k.size, fun i hi hne => (k.block i (Nat.lt_of_lt_of_le hi h.size) (by
    rcases hr with hr | hr
    · rw [hr]; exact hne
    · intro e; have := hr i e.symm; omega)).trans (h.block i hi hne)⟩
theorem gb_below {R B : Nat} {a b : World} (h : a.grownBy b (some R)) (hB : B ≤ R) (hR : R ≤ a.heap.size) : Below B a b :=
  ⟨h.os, h.tape, h.output, h.size, fun i hi => h.block i (by omega) (by intro e; injection e with e; omega)⟩
theorem size_alloc1 (w : World) (o : Obj) : (w.alloc o).heap.size = w.heap.size + 1 := by show (w.heap.push o).size = _; simp
theorem grown_node {W w1 : World} {row : Option Nat} {Q : Nat} {o : Obj} (hg : W.grownBy w1 row) (hh : W.heap[Q]? = some o) (hne : row ≠ some Q) : w1.heap[Q]? = some o :=
  (hg.block Q (Array.getElem?_eq_some_iff.1 hh).1 (fun e => hne e.symm)).trans hh
theorem frozen_of_row (w : World) (g j : Nat) (cs : Array Value) (t : TypeId) (hh : w.heap[g]? = some (.cells cs t (0, 0))) : w.frozen? ⟨g, j, none⟩ = false := by simp [World.frozen?, hh]
theorem own_heap {w : World} {B s n : Nat} {e : TypeId} {v : Value} {xs : List Value} (h : w.ownsRow B e s v n xs) {g : Nat} (hg : v.ownBlock = some g) : (∃ cs, w.heap[g]? = some (.cells cs e (0, 0))) ∧ B ≤ g ∧ g < w.heap.size := by
  have hl := h.lt g hg
  rcases h.2 with ⟨rfl, _⟩ | ⟨g', cap, cur, rfl, h2, hb, h3⟩
  · simp [Value.ownBlock] at hg
  · have e : g' = g := by simpa [Value.ownBlock] using hg
    subst e
    exact ⟨⟨cur, hb⟩, hl⟩
theorem types_apart {w : World} {g g' : Nat} {cs cs' : Array Value} {ty ty' : TypeId} {fz fz' : Nat × Nat} (h : w.heap[g]? = some (.cells cs ty fz)) (h' : w.heap[g']? = some (.cells cs' ty' fz')) (hne : ty ≠ ty') : g ≠ g' := by
  rintro rfl
  rw [h] at h'
  injection h' with h'
  injection h' with _ e _
  exact hne e
theorem grown_refl (w : World) (row : Option Nat) : w.grownBy w row := ⟨rfl, rfl, rfl, Nat.le_refl _, fun _ _ _ => rfl⟩
theorem grown_trans {R : Nat} {a b c : World} (h : a.grownBy b (some R)) (k : b.grownBy c (some R)) : a.grownBy c (some R) := gb_trans h k (.inl rfl)
theorem own_blockN {w : World} {B b n : Nat} {t : TypeId} {xs : List Value} (h : w.ownsRow B t 1 (.slice (some ⟨b, 0, none⟩) n n) n xs) : w.heap[b]? = some (.cells xs.toArray t (0, 0)) := by
  rcases h.2 with ⟨h', _⟩ | ⟨g, cap, cur, h', _, hb, _, _, hs, ht⟩
  · simp at h'
  · injection h' with h1 h2 h3
    injection h1 with h1
    injection h1 with h1
    subst h1 h3
    rw [hb]
    congr 2
    rw [← ht]
    rw [List.take_of_length_le (by rw [Array.length_toList, hs]; omega)]
def upd {α : Type} (f : Nat → α) (r : Nat) (v : α) : Nat → α := fun i => if i = r then v else f i
theorem upd_at {α : Type} (f : Nat → α) (r : Nat) (v : α) : upd f r v r = v := if_pos rfl
theorem upd_other {α : Type} (f : Nat → α) {r i : Nat} (v : α) (h : i ≠ r) : upd f r v i = f i := if_neg h
/-- Rows of ints, each in a block of its own, from block B on. -/
structure TT (w : World) (B m : Nat) (VR : Nat → Value) (ls : Nat → List Int) : Prop where
  own : ∀ j, j < m → w.ownsRow B 3 1 (VR j) (ls j).length ((ls j).map (Value.int .i64))
  dis : ∀ i j g, i < m → j < m → (VR i).ownBlock = some g → (VR j).ownBlock = some g → i = j
theorem TT.below {w w' : World} {B m : Nat} {VR : Nat → Value} {ls : Nat → List Int} (h : TT w B m VR ls) (hb : Below w.heap.size w w') : TT w' B m VR ls :=
  ⟨fun j hj => ownN_below (h.own j hj) hb, h.dis⟩
theorem TT.congr {w : World} {B m : Nat} {VR : Nat → Value} {ls ls' : Nat → List Int} (h : TT w B m VR ls) (he : ∀ j, j < m → ls j = ls' j) : TT w B m VR ls' :=
  ⟨fun j hj => by rw [← he j hj]; exact h.own j hj, h.dis⟩
theorem TT.append {w W w2 : World} {B m r g2 l2 c2 : Nat} {d : Int} {VR : Nat → Value} {ls : Nat → List Int} (h : TT w B m VR ls) (hr : r < m) (hW : Below w.heap.size w W) (hg : W.grownBy w2 (VR r).ownBlock)
    (hown : w2.ownsRow B 3 1 (.slice (some ⟨g2, 0, none⟩) l2 c2) l2 ((ls r).map (Value.int .i64) ++ [Value.int .i64 d])) (hl2 : l2 = (ls r).length + 1) (hat : (VR r).ownBlock = some g2 ∨ g2 = W.heap.size) :
    TT w2 B m (upd VR r (.slice (some ⟨g2, 0, none⟩) l2 c2)) (upd ls r (ls r ++ [d])) := by
  have hTW := h.below hW
  have hlt : ∀ {i g}, i < m → (VR i).ownBlock = some g → g < w.heap.size := fun hi e => (own_heap (h.own _ hi) e).2.2
  constructor
  · intro j hj
    by_cases e : j = r
    · subst e
      rw [upd_at, upd_at]
      simp only [List.length_append, List.length_cons, List.length_nil, Nat.zero_add, ← hl2, List.map_append, List.map_cons, List.map_nil]
      exact hown
    · rw [upd_other _ _ e, upd_other _ _ e]
      exact (hTW.own j hj).kept hg (by
        rcases e' : (VR j).ownBlock with _ | g
        · exact .inl rfl
        · right; intro e2; exact e (h.dis j r g hj hr e' e2.symm))
  · intro i j g hi hj h1 h2
    have hs := hW.size
    by_cases e1 : i = r <;> by_cases e2 : j = r
    · omega
    · subst e1
      rw [upd_at] at h1; rw [upd_other _ _ e2] at h2
      have : g2 = g := by simpa [Value.ownBlock] using h1
      subst this
      rcases hat with ha | ha
      · exact h.dis i j _ hr hj ha h2
      · have := hlt hj h2; omega
    · subst e2
      rw [upd_at] at h2; rw [upd_other _ _ e1] at h1
      have : g2 = g := by simpa [Value.ownBlock] using h2
      subst this
      rcases hat with ha | ha
      · exact h.dis i j _ hi hr h1 ha
      · have := hlt hi h1; omega
    · rw [upd_other _ _ e1] at h1; rw [upd_other _ _ e2] at h2
      exact h.dis i j g hi hj h1 h2
theorem TT.store {w : World} {B m g k : Nat} {VR : Nat → Value} {ls : Nat → List Int} {v : Value} {cs : Array Value} {ty : TypeId} (h : TT w B m VR ls) (hc : w.heap[g]? = some (.cells cs ty (0, 0))) (hne : ty ≠ 3) : TT (w.setCell ⟨g, k, none⟩ v) B m VR ls :=
  ⟨fun j hj => ownsRow_setCell_other (h.own j hj) (fun e => by
    obtain ⟨⟨cs', hc'⟩, _⟩ := own_heap (h.own j hj) e
    exact types_apart hc hc' hne rfl) _, h.dis⟩
theorem TT.add {w : World} {B m : Nat} {VR : Nat → Value} {ls : Nat → List Int} (h : TT w B m VR ls) (hB : B ≤ w.heap.size) : TT (w.alloc (.cells #[] 3)) B (m + 1) (upd VR m (.slice (some ⟨w.heap.size, 0, none⟩) 0 0)) (upd ls m []) := by
  have hb := (Below.refl w.heap.size w).alloc (Nat.le_refl _) (.cells #[] 3)
  constructor
  · intro j hj
    by_cases e : j = m
    · subst e
      rw [upd_at, upd_at]
      exact World.ownsRow_lit w #[] 0 hB (by decide) rfl
    · rw [upd_other _ _ e, upd_other _ _ e]
      exact ownN_below (h.own j (by omega)) hb
  · intro i j g hi hj h1 h2
    by_cases e1 : i = m <;> by_cases e2 : j = m
    · omega
    · rw [e1, upd_at] at h1; rw [upd_other _ _ e2] at h2
      have : w.heap.size = g := by simpa [Value.ownBlock] using h1
      have := (own_heap (h.own j (by omega)) h2).2.2; omega
    · rw [e2, upd_at] at h2; rw [upd_other _ _ e1] at h1
      have : w.heap.size = g := by simpa [Value.ownBlock] using h2
      have := (own_heap (h.own i (by omega)) h1).2.2; omega
    · rw [upd_other _ _ e1] at h1; rw [upd_other _ _ e2] at h2
      exact h.dis i j g (by omega) (by omega) h1 h2
/-- The rows' outer slice. -/
def Outer (w : World) (B n : Nat) (v : Value) (VR : Nat → Value) : Prop := w.ownsRow B 25 1 v n ((List.range n).map VR)
theorem Outer.kept {w W w2 : World} {B n m r : Nat} {v : Value} {VR VR' : Nat → Value} {ls : Nat → List Int} (h : Outer w B n v VR) (ht : TT w B m VR' ls) (hr : r < m) (hW : Below w.heap.size w W) (hg : W.grownBy w2 (VR' r).ownBlock) : Outer w2 B n v VR :=
  (ownN_below h hW).kept hg (by
    rcases e : v.ownBlock with _ | g
    · exact .inl rfl
    · right
      intro e2
      obtain ⟨⟨cs, hc⟩, _⟩ := own_heap h e
      obtain ⟨⟨cs', hc'⟩, _⟩ := own_heap (ht.own r hr) e2.symm
      exact types_apart hc hc' (by decide) rfl)
theorem Outer.congr {w : World} {B n : Nat} {v : Value} {VR VR' : Nat → Value} (h : Outer w B n v VR) (he : ∀ j, j < n → VR j = VR' j) : Outer w B n v VR' := by
  unfold Outer at h ⊢
  rw [← List.map_congr_left (f := VR) fun i hi => he i (List.mem_range.1 hi)]; exact h
theorem Outer.cell {w : World} {B n g c : Nat} {VR : Nat → Value} (h : Outer w B n (.slice (some ⟨g, 0, none⟩) n c) VR) {j : Nat} (hj : j < n) : w.cell? ⟨g, j, none⟩ = some (VR j) := by
  rw [World.ownsRow.cellAt h j (by omega)]
  simp [hj]
theorem Outer.stored {w : World} {B n g c k : Nat} {VR : Nat → Value} {v : Value} (h : Outer w B n (.slice (some ⟨g, 0, none⟩) n c) VR) (hk : k < n) : Outer (w.setCell ⟨g, k, none⟩ v) B n (.slice (some ⟨g, 0, none⟩) n c) (upd VR k v) := by
  have h1 := (World.ownsRow.stored h k v).1
  unfold Outer
  have e : ((List.range n).map VR).set k v = (List.range n).map (upd VR k v) := by
    apply List.ext_getElem?
    intro i
    rw [List.getElem?_set]
    by_cases hi : i < n
    · by_cases e : k = i
      · subst e; simp [hi, upd_at]
      · simp [hi, e, upd_other VR v (fun h => e h.symm)]
    · simp [hi]; omega
  rw [← e]; exact h1
theorem TT.drewN {w : World} {B m : Nat} {VR : Nat → Value} {ls : Nat → List Int} (h : TT w B m VR ls) (q : Nat) : TT (w.drewN q) B m VR ls := ⟨fun j hj => h.own j hj, h.dis⟩
theorem Outer.drewN {w : World} {B n : Nat} {v : Value} {VR : Nat → Value} (h : Outer w B n v VR) (q : Nat) : Outer (w.drewN q) B n v VR := h
/-- A row's cells. -/
theorem TT.cells {w : World} {B m : Nat} {VR : Nat → Value} {ls : Nat → List Int} (h : TT w B m VR ls) {j k : Nat} (hj : j < m) (hk : k < (ls j).length) :
    ∃ g c, VR j = .slice (some ⟨g, 0, none⟩) (ls j).length c ∧ w.cell? ⟨g, k, none⟩ = some (.int .i64 ((ls j).getD k 0)) := by
  obtain ⟨A, c, e, _, _, h3⟩ := own_sliceN (h.own j hj)
  obtain ⟨g, rfl, _⟩ := h3 (by omega)
  have h1 := h.own j hj
  rw [e] at h1
  refine ⟨g, c, e, ?_⟩
  rw [h1.cellAt k (by omega)]
  simp [List.getElem?_eq_getElem hk]
theorem TT.keptBy {w w' : World} {B m : Nat} {VR : Nat → Value} {ls : Nat → List Int} {row : Option Nat} (h : TT w B m VR ls) (hg : w.grownBy w' row) (hr : ∀ g, row = some g → ∃ cs ty, w.heap[g]? = some (.cells cs ty (0, 0)) ∧ ty ≠ 3) : TT w' B m VR ls :=
  ⟨fun j hj => (h.own j hj).kept hg (by
    rcases e : (VR j).ownBlock with _ | g
    · exact .inl rfl
    · right
      intro e'
      obtain ⟨cs, ty, hc, hne⟩ := hr g e'.symm
      obtain ⟨⟨cs', hc'⟩, _⟩ := own_heap (h.own j hj) e
      exact types_apart hc hc' hne rfl), h.dis⟩
theorem slInfo2 : (Try.prog.info? 25).map (fun i => (i.zero, i.size, i.bytes)) = some (some (.slice none 0 0), 1, 24) := by kernel_rfl
theorem Outer.below {w w' : World} {B n : Nat} {v : Value} {VR : Nat → Value} (h : Outer w B n v VR) (hb : Below w.heap.size w w') : Outer w' B n v VR := ownN_below h hb
theorem Outer.keptRow {w w' : World} {B n b : Nat} {v : Value} {VR : Nat → Value} {cs : Array Value} {ty : TypeId} (h : Outer w B n v VR) (hg : w.grownBy w' (some b)) (hc : w.heap[b]? = some (.cells cs ty (0, 0))) (hne : ty ≠ 25) : Outer w' B n v VR :=
  World.ownsRow.kept h hg (by
    rcases e : v.ownBlock with _ | g
    · exact .inl rfl
    · right
      intro e2
      injection e2 with e2
      subst e2
      obtain ⟨⟨cs', hc'⟩, _⟩ := own_heap h e
      exact types_apart hc hc' hne rfl)
/-- A row of a table, as it is read. -/
theorem TT.row {w : World} {B m : Nat} {VR : Nat → Value} {ls : Nat → List Int} (h : TT w B m VR ls) {j : Nat} (hj : j < m) : ∃ A c, VR j = .slice A (ls j).length c ∧ RdI w w.heap.size A (ls j) := by
  have h1 := h.own j hj
  obtain ⟨A, c, e, _, _, h3⟩ := own_sliceN h1
  refine ⟨A, c, e, fun hp => ?_⟩
  obtain ⟨g, rfl, _, _⟩ := h3 hp
  rw [e] at h1
  exact rdI_of_own h1 rfl hp
end Go.Proofs.Ytkgomgfhhhdnjaa
