/-
  Lines are trees: homes on a line that are apart are nodes of the line's tree that are apart.
  Conditions: none beyond what each theorem states.
-/
import Derived.Test.YtggpdlcompokoaaT8
import Derived.Test.YtggpdlcompokoaaT1
import Derived.Test.YtggpdlcompokoaaR1
import Derived.Test.YtggpdlcompokoaaM1
import Derived.Test.YtggpdlcompokoaaP3
namespace Go.Proofs.Ytggpdlcompokoaa
open Go.ChangeShapes Go.WideShapes Go.ChangeAt Go.RowKit
set_option linter.unusedVariables false
set_option maxRecDepth 4000

def gapL (a b : Int) : Int := if a ≤ b then b - a else a - b
theorem gapL_symm (a b : Int) : gapL a b = gapL b a := by unfold gapL; split <;> split <;> omega
/-- Homes in a row, each one's road to the one ahead of it. -/
theorem dn_lineL {t : List (Int × Int)} {xs : List Int} {n : Nat} (h : ∀ i, 1 ≤ i → i < n → tto t i = i - 1 ∧ tlg t i = xs.getD i 0 - xs.getD (i - 1) 0) (hs : ∀ i j, i ≤ j → j < n → xs.getD i 0 ≤ xs.getD j 0) :
    ∀ m, m ≤ n → ∀ i k, i < m → k < m → dn t m i k = gapL (xs.getD i 0) (xs.getD k 0)
  | 0, _, _, _, h, _ => by omega
  | m + 1, hm, i, k, hi, hk => by
    have hz : ∀ a : Int, gapL a a = 0 := fun a => by simp [gapL]
    have key : ∀ k, k < m → dn t (m + 1) m k = gapL (xs.getD m 0) (xs.getD k 0) := fun k hk => by
      obtain ⟨h1, h2⟩ := h m (by omega) (by omega)
      rw [dn_new hk, h1, h2, dn_lineL h hs m (by omega) (m - 1) k (by omega) hk]
      have h3 := hs (m - 1) m (by omega) (by omega)
      have h4 := hs k (m - 1) (by omega) (by omega)
      generalize xs.getD m 0 = a at *
      generalize xs.getD (m - 1) 0 = b at *
      generalize xs.getD k 0 = c at *
      unfold gapL
      split <;> split <;> omega
    by_cases h1 : i = m
    · subst h1
      by_cases h2 : k = i
      · subst h2; rw [dn_diag t (k + 1) k (by omega), hz]
      · exact key k (by omega)
    · by_cases h2 : k = m
      · subst h2
        rw [dn_symm, key i (by omega), gapL_symm]
      · rw [dn_old (by omega) (by omega)]
        exact dn_lineL h hs m (by omega) i k (by omega) (by omega)

/-- A set of nodes below n that are apart, none of them past b. -/
def ApS (xs : List Int) (far : Int) (n : Nat) (b : Int) (s : Nat) : Prop :=
  s < 2 ^ n ∧ (∀ i, s.testBit i = true → xs.getD i 0 ≤ b) ∧ ∀ i k, i < k → s.testBit i = true → s.testBit k = true → 2 * far < xs.getD k 0 - xs.getD i 0
theorem apS_zero (xs : List Int) (far : Int) (n : Nat) (b : Int) : ApS xs far n b 0 :=
  ⟨Nat.two_pow_pos n, fun i h => by simp at h, fun i k _ h => by simp at h⟩
theorem bitL_lt {s n i : Nat} (h : s < 2 ^ n) (hi : s.testBit i = true) : i < n := by
  rcases Nat.lt_or_ge i n with h' | h'
  · exact h'
  · have := Nat.ge_two_pow_of_testBit hi
    have := Nat.pow_le_pow_right (show 2 > 0 by omega) h'
    omega
theorem apS_add {xs : List Int} {far : Int} {n : Nat} {x y : Int} {s p : Nat} (h7 : n ≤ 7) (hf : 0 ≤ far) (hinc : ∀ i k, i < k → k < n → xs.getD i 0 < xs.getD k 0) (h : ApS xs far n y s) (hy : 2 * far < x - y) (hp : p < n) (hx : xs.getD p 0 = x) :
    ApS xs far n x (s ||| 2 ^ p) ∧ bc 7 (s ||| 2 ^ p) = bc 7 s + 1 := by
  obtain ⟨h1, h2, h3⟩ := h
  have hb : ∀ i, (s ||| 2 ^ p).testBit i = true ↔ s.testBit i = true ∨ p = i := fun i => by
    rw [Nat.testBit_or, Nat.testBit_two_pow]; simp
  have hnp : s.testBit p = false := by
    cases e : s.testBit p with
    | false => rfl
    | true => have := h2 p e; omega
  refine ⟨⟨Nat.or_lt_two_pow h1 (Nat.pow_lt_pow_right (by omega) hp), fun i hi => ?_, fun i k hik hi hk => ?_⟩, ?_⟩
  · rcases (hb i).1 hi with e | e
    · have := h2 i e; omega
    · subst e; omega
  · rcases (hb i).1 hi with e | e
    · rcases (hb k).1 hk with e' | e'
      · exact h3 i k hik e e'
      · subst e'; have := h2 i e; omega
    · rcases (hb k).1 hk with e' | e'
      · subst e
        have := h2 k e'
        have := hinc p k hik (bitL_lt h1 e')
        omega
      · omega
  · exact or_all ⟨s, pow_128 h7 h1⟩ ⟨p, by omega⟩ hnp
theorem inn_set {xs zs bs : List Int} {far x : Int} {n : Nat} (h7 : n ≤ 7) (hf : 0 ≤ far) (hinc : ∀ i k, i < k → k < n → xs.getD i 0 < xs.getD k 0) {p : Nat} (hp : p < n) (hx : xs.getD p 0 = x) :
    ∀ m, (∀ j, j < m → ∃ s, ApS xs far n (zs.getD j 0) s ∧ bs.getD j 0 ≤ (bc 7 s : Int)) → ∃ s, ApS xs far n x s ∧ inn far x zs bs m ≤ (bc 7 s : Int)
  | 0, _ => by
    obtain ⟨h1, h2⟩ := apS_add h7 hf hinc (apS_zero xs far n (x - 2 * far - 1)) (by omega) hp hx
    refine ⟨_, h1, ?_⟩
    rw [h2]; simp only [inn]; omega
  | m + 1, h => by
    obtain ⟨s1, a1, b1⟩ := inn_set h7 hf hinc hp hx m fun j hj => h j (by omega)
    simp only [inn]
    by_cases e : 2 * far < x - zs.getD m 0
    · rw [if_pos e]
      obtain ⟨s2, a2, b2⟩ := h m (by omega)
      obtain ⟨a3, b3⟩ := apS_add h7 hf hinc a2 e hp hx
      rcases Int.le_total (inn far x zs bs m) (bs.getD m 0 + 1) with hle | hle
      · exact ⟨_, a3, by rw [b3]; omega⟩
      · exact ⟨_, a1, by omega⟩
    · rw [if_neg e]; exact ⟨_, a1, b1⟩
theorem bests_set {xs zs : List Int} {far : Int} {n : Nat} (h7 : n ≤ 7) (hf : 0 ≤ far) (hinc : ∀ i k, i < k → k < n → xs.getD i 0 < xs.getD k 0) :
    ∀ i, (∀ j, j < i → ∃ p, p < n ∧ xs.getD p 0 = zs.getD j 0) → ∀ j, j < i → ∃ s, ApS xs far n (zs.getD j 0) s ∧ (bests far zs i).getD j 0 ≤ (bc 7 s : Int)
  | 0, _, j, hj => by omega
  | i + 1, h, j, hj => by
    have ih := bests_set h7 hf hinc i fun j hj => h j (by omega)
    have hl := bests_length far zs i
    rcases Nat.lt_or_ge j i with h' | h'
    · have e : (bests far zs (i + 1)).getD j 0 = (bests far zs i).getD j 0 := by
        simp only [bests, List.getD_eq_getElem?_getD]
        rw [List.getElem?_append_left (by omega)]
      rw [e]
      exact ih j h'
    · obtain rfl : j = i := by omega
      have e : (bests far zs (j + 1)).getD j 0 = inn far (zs.getD j 0) zs (bests far zs j) j := by
        simp only [bests, List.getD_eq_getElem?_getD]
        rw [List.getElem?_append_right (by omega), hl, Nat.sub_self]; rfl
      rw [e]
      obtain ⟨p, hp, hx⟩ := h j (by omega)
      exact inn_set h7 hf hinc hp hx j ih
theorem topp_set {xs zs : List Int} {far : Int} {n : Nat} (h7 : n ≤ 7) (hf : 0 ≤ far) (hinc : ∀ i k, i < k → k < n → xs.getD i 0 < xs.getD k 0) :
    ∀ i, (∀ j, j < i → ∃ p, p < n ∧ xs.getD p 0 = zs.getD j 0) → ∃ s b, ApS xs far n b s ∧ topp far zs i ≤ (bc 7 s : Int)
  | 0, _ => ⟨0, 0, apS_zero _ _ _ _, by simp only [topp]; omega⟩
  | i + 1, h => by
    obtain ⟨s1, b1, a1, c1⟩ := topp_set h7 hf hinc i fun j hj => h j (by omega)
    obtain ⟨p, hp, hx⟩ := h i (by omega)
    obtain ⟨s2, a2, c2⟩ := inn_set h7 hf hinc hp hx i (bests_set h7 hf hinc i fun j hj => h j (by omega))
    simp only [topp]
    rcases Int.le_total (topp far zs i) (inn far (zs.getD i 0) zs (bests far zs i) i) with hle | hle
    · exact ⟨s2, _, a2, by omega⟩
    · exact ⟨s1, _, a1, by omega⟩

/-- The tree of the homes ahead of place k. -/
def LineT (zs : List Int) (k : Nat) (ts : List (Int × Int)) (last : Int) : Prop :=
  ∃ xs : List Int, ts.length = xs.length ∧ 1 ≤ xs.length ∧ xs.getD (xs.length - 1) 0 = last ∧ ts.getD 0 (-1, 0) = (-1, 0) ∧
    (∀ i, 1 ≤ i → i < xs.length → ts.getD i (-1, 0) = ((i : Int) - 1, xs.getD i 0 - xs.getD (i - 1) 0) ∧ 1 ≤ xs.getD i 0 - xs.getD (i - 1) 0 ∧ xs.getD i 0 - xs.getD (i - 1) 0 ≤ 9) ∧
    (∀ j, j < k → ∃ p, p < xs.length ∧ xs.getD p 0 = zs.getD j 0) ∧ (∀ j, j < k → zs.getD j 0 ≤ last) ∧ last = zs.getD (k - 1) 0 ∧ (xs.length : Int) = diffc zs k
theorem lineT_start {zs : List Int} : LineT zs 1 [(-1, 0)] (zs.getD 0 0) := by
  refine ⟨[zs.getD 0 0], rfl, by simp, rfl, rfl, fun i h1 h2 => by simp at h2; omega, fun j hj => ⟨0, by simp, ?_⟩, fun j hj => ?_, rfl, ?_⟩
  · obtain rfl : j = 0 := by omega
    rfl
  · obtain rfl : j = 0 := by omega
    exact Int.le_refl _
  · simp [diffc, hasB]
theorem getD_snoc_old {α : Type} {l : List α} {x d : α} {i : Nat} (h : i < l.length) : (l ++ [x]).getD i d = l.getD i d := by
  simp only [List.getD_eq_getElem?_getD]; rw [List.getElem?_append_left h]
theorem getD_snoc_new {α : Type} {l : List α} {x d : α} {i : Nat} (h : i = l.length) : (l ++ [x]).getD i d = x := by
  subst h; simp [List.getD_eq_getElem?_getD]
theorem take_all_le {zs : List Int} {k : Nat} {b : Int} (hk : k ≤ zs.length) (h : ∀ j, j < k → zs.getD j 0 ≤ b) : ∀ y ∈ zs.take k, y ≤ b := by
  intro y hy
  obtain ⟨i, hi, e⟩ := List.mem_iff_getElem.1 hy
  rw [List.length_take] at hi
  have := h i (by omega)
  rw [List.getD_eq_getElem?_getD, List.getElem?_eq_getElem (by omega)] at this
  rw [List.getElem_take] at e
  simp at this
  omega
theorem lineT_same {zs : List Int} {k : Nat} {ts : List (Int × Int)} {last x : Int} (h : LineT zs k ts last) (hk1 : 1 ≤ k) (hk : k < zs.length) (hx : zs.getD k 0 = x) (hs : last ≤ x) (hl : ¬ last < x) : LineT zs (k + 1) ts last := by
  obtain ⟨xs, e1, e2, e3, e4, e5, e6, e7, e8, e9⟩ := h
  have hxl : x = last := by omega
  have hin : hasB (zs.take k) x = true := by
    unfold hasB
    rw [List.contains_iff_mem, hxl, e8]
    have : zs.getD (k - 1) 0 = (zs.take k)[k - 1]'(by rw [List.length_take]; omega) := by
      rw [List.getElem_take, List.getD_eq_getElem?_getD, List.getElem?_eq_getElem (by omega)]; rfl
    rw [this]
    exact List.getElem_mem _
  refine ⟨xs, e1, e2, e3, e4, e5, fun j hj => ?_, fun j hj => ?_, ?_, ?_⟩
  · by_cases e : j = k
    · subst e; exact ⟨xs.length - 1, by omega, by rw [e3, hx, hxl]⟩
    · exact e6 j (by omega)
  · by_cases e : j = k
    · subst e; omega
    · exact e7 j (by omega)
  · rw [Nat.add_sub_cancel, hx, hxl]
  · rw [diffc_yes hx hin]; exact e9
theorem lineT_next {zs : List Int} {k : Nat} {ts : List (Int × Int)} {last x : Int} (h : LineT zs k ts last) (hk1 : 1 ≤ k) (hk : k < zs.length) (hx : zs.getD k 0 = x) (hl : last < x) (h9 : x - last ≤ 9) : LineT zs (k + 1) (ts ++ [((ts.length : Int) - 1, x - last)]) x := by
  obtain ⟨xs, e1, e2, e3, e4, e5, e6, e7, e8, e9⟩ := h
  have hin : hasB (zs.take k) x = false := by
    unfold hasB
    have := take_all_le (Nat.le_of_lt hk) e7
    cases e : (zs.take k).contains x with
    | false => rfl
    | true => rw [List.contains_iff_mem] at e; have := this x e; omega
  have hd : (xs ++ [x]).getD (xs.length) 0 = x := getD_snoc_new rfl
  refine ⟨xs ++ [x], by simp [e1], by simp, by simp, by rw [getD_snoc_old (by omega)]; exact e4, fun i h1 h2 => ?_, fun j hj => ?_, fun j hj => ?_, ?_, ?_⟩
  · rw [List.length_append, List.length_singleton] at h2
    by_cases e : i = xs.length
    · subst e
      rw [getD_snoc_new e1.symm, hd, getD_snoc_old (by omega), e3, e1]
      exact ⟨rfl, by omega, h9⟩
    · rw [getD_snoc_old (by omega), getD_snoc_old (by omega), getD_snoc_old (by omega)]
      exact e5 i h1 (by omega)
  · rw [List.length_append, List.length_singleton]
    by_cases e : j = k
    · subst e; exact ⟨xs.length, by omega, by rw [hd, hx]⟩
    · obtain ⟨p, hp, hq⟩ := e6 j (by omega)
      exact ⟨p, by omega, by rw [getD_snoc_old hp]; exact hq⟩
  · by_cases e : j = k
    · subst e; omega
    · have := e7 j (by omega); omega
  · rw [Nat.add_sub_cancel, hx]
  · rw [diffc_no hx hin, List.length_append, List.length_singleton]; omega
theorem diffc_mono {zs : List Int} {a b : Nat} (h : a ≤ b) : diffc zs a ≤ diffc zs b := by
  induction h with
  | refl => exact Int.le_refl _
  | step _ ih => simp only [diffc]; split <;> omega
theorem lineT_len {zs : List Int} {k : Nat} {ts : List (Int × Int)} {last : Int} (h : LineT zs k ts last) : 1 ≤ ts.length ∧ (ts.length : Int) = diffc zs k := by
  obtain ⟨xs, e1, e2, -, -, -, -, -, -, e9⟩ := h
  exact ⟨by omega, by rw [e1]; exact e9⟩
theorem lineT_last {zs : List Int} {k : Nat} {ts : List (Int × Int)} {last : Int} (h : LineT zs k ts last) : last = zs.getD (k - 1) 0 := by
  obtain ⟨xs, -, -, -, -, -, -, -, e8, -⟩ := h
  exact e8
theorem lineT_vt {zs : List Int} {k : Nat} {ts : List (Int × Int)} {last : Int} (h : LineT zs k ts last) (h7 : diffc zs k ≤ 7) : vt ts = true := by
  obtain ⟨xs, e1, e2, e3, e4, e5, e6, e7, e8, e9⟩ := h
  refine (vt_iff ts).2 ⟨by omega, by omega, by rw [e4], by rw [e4], fun i h1 h2 => ?_⟩
  obtain ⟨a, b, c⟩ := e5 i h1 (by omega)
  rw [a]
  simp only [okRoad, Bool.and_eq_true, decide_eq_true_eq]
  omega
theorem line_pk {zs : List Int} {ts : List (Int × Int)} {last far : Int} (h : LineT zs zs.length ts last) (h7 : diffc zs zs.length ≤ 7) (hf : 0 ≤ far) :
    topp far zs zs.length ≤ (pkB (dn ts ts.length) far ts.length (2 ^ ts.length) : Int) := by
  obtain ⟨xs, e1, e2, e3, e4, e5, e6, e7, e8, e9⟩ := h
  have hinc : ∀ d i, i + d + 1 < xs.length → xs.getD i 0 < xs.getD (i + d + 1) 0 := by
    intro d
    induction d with
    | zero => intro i hi; have := (e5 (i + 1) (by omega) (by omega)).2.1; rw [Nat.add_sub_cancel] at this; show _ < xs.getD (i + 1) 0; omega
    | succ d ih =>
      intro i hi
      have h1 := ih i (by omega)
      have h2 := (e5 (i + (d + 1) + 1) (by omega) (by omega)).2.1
      rw [Nat.add_sub_cancel] at h2
      have : xs.getD (i + (d + 1)) 0 = xs.getD (i + d + 1) 0 := rfl
      omega
  have hinc' : ∀ i k, i < k → k < xs.length → xs.getD i 0 < xs.getD k 0 := fun i k hik hk => by
    have := hinc (k - i - 1) i (by omega)
    rwa [show i + (k - i - 1) + 1 = k by omega] at this
  rw [e1]
  obtain ⟨s, b, ⟨a1, a2, a3⟩, hc⟩ := topp_set (zs := zs) (by omega) hf hinc' zs.length e6
  refine Int.le_trans hc (Int.ofNat_le.2 (le_pkB a1 ?_))
  have hdn := dn_lineL (t := ts) (xs := xs) (n := xs.length) (fun i h1 h2 => by
    obtain ⟨a, -, -⟩ := e5 i h1 h2
    unfold tto tlg
    rw [a]
    exact ⟨by show ((i : Int) - 1).toNat = i - 1; omega, rfl⟩) (fun i j hij hj => by
      rcases Nat.lt_or_ge i j with h' | h'
      · exact Int.le_of_lt (hinc' i j h' hj)
      · obtain rfl : i = j := by omega
        exact Int.le_refl _) xs.length (Nat.le_refl _)
  rw [fnB_iff]
  intro v hv
  refine nrB_one fun i k hik hk ⟨h1, _, h3⟩ ⟨h4, _, h6⟩ => ?_
  have := a3 i k hik h1 h4
  rw [hdn v i hv (by omega)] at h3
  rw [hdn v k hv hk] at h6
  unfold gapL at h3 h6
  split at h3 <;> split at h6 <;> omega
/-- Valid homes go up. -/
theorem ok_step {zs : List Int} : ∀ {a : Int} {k : Nat}, okFrom a zs = true → k + 1 < zs.length → zs.getD k 0 ≤ zs.getD (k + 1) 0 := by
  induction zs with
  | nil => intro a k _ h; simp at h
  | cons y r ih =>
    intro a k h hk
    simp only [okFrom, Bool.and_eq_true, decide_eq_true_eq] at h
    cases k with
    | zero =>
      cases r with
      | nil => simp at hk
      | cons z q =>
        have h2 := h.2.2
        simp only [okFrom, Bool.and_eq_true, decide_eq_true_eq] at h2
        simp
        omega
    | succ k =>
      simp only [List.getD_cons_succ]
      exact ih h.2.2 (by simpa using hk)
end Go.Proofs.Ytggpdlcompokoaa
