/-
  Rounds as mathematics: where a helper is, the times at a spot, the longest gap; a gap is the least length whose every stretch holds a visit.
  Conditions: none beyond what each theorem states.
-/
import Derived.Test.YtdkonaaoanggiaaGP
namespace Go.Proofs.Ytdkonaaoanggiaa
open Go.ChangeShapes Go.WideShapes Go.ChangeAt Go.RowKit
set_option linter.unusedVariables false

/-- Where a helper is who goes the round again and again. -/
def psY (zs : List Int) (t : Int) : Int := zs.getD (t % (zs.length : Int)).toNat 0
/-- The time of the round at which the second helper is, who is l times behind. -/
def bhI (m l i : Nat) : Nat := (i + m - l % m) % m
def atY (zs : List Int) (l : Nat) (s : Int) (i : Nat) : Bool := (zs.getD i 0 == s) || (zs.getD (bhI zs.length l i) 0 == s)
def tmY (zs : List Int) (l : Nat) (s : Int) (k : Nat) : List Nat := (List.range k).filter (atY zs l s)
def dG (m : Nat) (ts : List Nat) (i : Nat) : Nat := if i + 1 < ts.length then ts.getD (i + 1) 0 - ts.getD i 0 else ts.getD 0 0 + m - ts.getD i 0
def mxG (m : Nat) (ts : List Nat) : Nat → Nat
  | 0 => 0
  | k + 1 => max (mxG m ts k) (dG m ts k)
def lgY (m : Nat) (ts : List Nat) : Int := if ts.length = 0 then -1 else (mxG m ts ts.length : Int)
def gpY (n : Nat) (zs : List Int) (l : Nat) : List Int := (List.range n).map fun (s : Nat) => lgY zs.length (tmY zs l (s : Int) zs.length)
def mxI (gs : List Int) : Nat → Int
  | 0 => 0
  | k + 1 => max (mxI gs k) (gs.getD k 0)
def wrY (gs : List Int) : Int := if gs.contains (-1) then -1 else mxI gs gs.length
def vsY (n : Nat) (zs : List Int) (k : Nat) : List Int := (List.range n).map fun (s : Nat) => ((tmY zs 0 (s : Int) k).length : Int)
def swY (n : Nat) : List Int := (List.range n).map (fun (i : Nat) => (i : Int)) ++ (List.range (n - 2)).map (fun (i : Nat) => ((n - 2 - i : Nat) : Int))
/-- A round of a row. -/
def Rnd (n : Int) (zs : List Int) : Prop :=
  1 ≤ n ∧ n ≤ 8 ∧ 1 ≤ zs.length ∧ zs.length ≤ 20 ∧ (∀ i, i < zs.length → 0 ≤ zs.getD i 0 ∧ zs.getD i 0 < n) ∧ (∀ i, i < zs.length → gapI (zs.getD i 0) (zs.getD ((i + 1) % zs.length) 0) ≤ 1)
instance rndDec (n : Int) (zs : List Int) : Decidable (Rnd n zs) := by unfold Rnd; infer_instance
def vrY (n : Int) (zs : List Int) : Bool := decide (Rnd n zs)

/-! ### windows -/
def Win (v : Int → Prop) (g : Int) : Prop := ∀ t : Int, ∃ d : Int, 1 ≤ d ∧ d ≤ g ∧ v (t + d)
def Tgt (v : Int → Prop) (g : Int) : Prop := ∃ t : Int, ∀ d : Int, 1 ≤ d → d < g → ¬ v (t + d)
theorem win_le {u v : Int → Prop} {g h : Int} (hw : Win v g) (ht : Tgt u h) (hs : ∀ t, v t → u t) : h ≤ g := by
  obtain ⟨t, ht⟩ := ht
  obtain ⟨d, h1, h2, h3⟩ := hw t
  rcases (show d < h ∨ h ≤ d by omega) with hlt | hge
  · exact absurd (hs _ h3) (ht d h1 hlt)
  · omega
def Asc (ts : List Nat) (m : Nat) : Prop := (∀ i j, i < j → j < ts.length → ts.getD i 0 < ts.getD j 0) ∧ ∀ i, i < ts.length → ts.getD i 0 < m
theorem dG_le {m : Nat} {ts : List Nat} : ∀ {k i : Nat}, i < k → dG m ts i ≤ mxG m ts k
  | 0, i, h => by omega
  | k + 1, i, h => by
    unfold mxG
    by_cases e : i = k
    · subst e; omega
    · have := dG_le (m := m) (ts := ts) (show i < k by omega); omega
theorem mxG_att {m : Nat} {ts : List Nat} : ∀ {k : Nat}, 0 < k → ∃ i, i < k ∧ mxG m ts k = dG m ts i
  | k + 1, _ => by
    unfold mxG
    by_cases hk : k = 0
    · subst hk; exact ⟨0, by omega, by simp [mxG]⟩
    · obtain ⟨i, hi, e⟩ := mxG_att (m := m) (ts := ts) (show 0 < k by omega)
      by_cases hm : mxG m ts k ≤ dG m ts k
      · exact ⟨k, by omega, by omega⟩
      · exact ⟨i, by omega, by omega⟩
theorem asc_le {ts : List Nat} {m i j : Nat} (h : Asc ts m) (hij : i ≤ j) (hj : j < ts.length) : ts.getD i 0 ≤ ts.getD j 0 := by
  by_cases e : i = j
  · subst e; exact Nat.le_refl _
  · exact Nat.le_of_lt (h.1 i j (by omega) hj)
theorem dG_pos {ts : List Nat} {m i : Nat} (h : Asc ts m) (hi : i < ts.length) : 1 ≤ dG m ts i ∧ dG m ts i ≤ m := by
  have h1 := h.2 i hi
  have h2 := asc_le h (Nat.zero_le i) hi
  unfold dG
  by_cases e : i + 1 < ts.length
  · rw [if_pos e]
    have h3 := h.1 i (i + 1) (by omega) e
    have h4 := h.2 (i + 1) e
    omega
  · rw [if_neg e]; omega
theorem find_next {ts : List Nat} {r : Nat} : ∀ j, j ≤ ts.length → (∃ i, i < j ∧ r < ts.getD i 0 ∧ ∀ i', i' < i → ts.getD i' 0 ≤ r) ∨ (∀ i, i < j → ts.getD i 0 ≤ r)
  | 0, _ => .inr (fun i h => by omega)
  | j + 1, hj => by
    rcases find_next (ts := ts) (r := r) j (by omega) with ⟨i, hi, h1, h2⟩ | h
    · exact .inl ⟨i, by omega, h1, h2⟩
    · by_cases hr : r < ts.getD j 0
      · exact .inl ⟨j, by omega, hr, h⟩
      · refine .inr (fun i hi => ?_)
        by_cases e : i = j
        · subst e; omega
        · exact h i (by omega)
theorem gap_win {m : Nat} {ts : List Nat} {v : Int → Prop} (hm : 0 < m) (hA : Asc ts m) (hk : 0 < ts.length) (hv : ∀ i, i < ts.length → v (ts.getD i 0 : Nat)) (hp : ∀ t q : Int, v t → v (t + m * q)) :
    Win v (mxG m ts ts.length) := by
  intro t
  have hr0 : 0 ≤ t % (m : Int) := Int.emod_nonneg _ (by omega)
  have hr1 : t % (m : Int) < m := Int.emod_lt_of_pos _ (by omega)
  obtain ⟨r, hr⟩ : ∃ r : Nat, t % (m : Int) = r := ⟨_, (Int.toNat_of_nonneg hr0).symm⟩
  have ht : t = r + m * (t / (m : Int)) := by have := Int.emod_add_mul_ediv t m; omega
  rw [hr] at hr1
  clear hr0 hr
  generalize t / (m : Int) = q at ht
  subst ht
  have hmul : (m : Int) * (q + 1) = m * q + m := by rw [Int.mul_add, Int.mul_one]
  rcases find_next (ts := ts) (r := r) ts.length (Nat.le_refl _) with ⟨i, hi, h1, h2⟩ | h
  · refine ⟨(ts.getD i 0 : Nat) - (r : Int), by omega, ?_, ?_⟩
    · by_cases e : i = 0
      · subst e
        have hd := dG_le (m := m) (ts := ts) (show ts.length - 1 < ts.length by omega)
        have hl := hA.2 (ts.length - 1) (by omega)
        unfold dG at hd
        rw [if_neg (by omega)] at hd
        omega
      · have hd := dG_le (m := m) (ts := ts) (show i - 1 < ts.length by omega)
        have hl := h2 (i - 1) (by omega)
        unfold dG at hd
        rw [if_pos (by omega), Nat.sub_add_cancel (by omega)] at hd
        omega
    · have := hp _ q (hv i hi)
      have e : (r : Int) + m * q + ((ts.getD i 0 : Nat) - (r : Int)) = (ts.getD i 0 : Nat) + m * q := by omega
      rw [e]; exact this
  · have hd := dG_le (m := m) (ts := ts) (show ts.length - 1 < ts.length by omega)
    have hl := hA.2 (ts.length - 1) (by omega)
    have hl2 := h (ts.length - 1) (by omega)
    unfold dG at hd
    rw [if_neg (by omega)] at hd
    refine ⟨(ts.getD 0 0 : Nat) + m - (r : Int), by omega, by omega, ?_⟩
    have := hp _ (q + 1) (hv 0 hk)
    have e : (r : Int) + m * q + ((ts.getD 0 0 : Nat) + m - (r : Int)) = (ts.getD 0 0 : Nat) + m * (q + 1) := by rw [hmul]; omega
    rw [e]; exact this
theorem gap_tgt {m : Nat} {ts : List Nat} {v : Int → Prop} (hA : Asc ts m) (hk : 0 < ts.length) (hv : ∀ i : Nat, i < m → v i → ∃ j, j < ts.length ∧ ts.getD j 0 = i) (hp : ∀ t : Int, v (t + m) → v t) :
    Tgt v (mxG m ts ts.length) := by
  obtain ⟨i, hi, e⟩ := mxG_att (m := m) (ts := ts) hk
  refine ⟨(ts.getD i 0 : Nat), fun d h1 h2 hd => ?_⟩
  rw [e] at h2
  have him := hA.2 i hi
  unfold dG at h2
  by_cases hl : i + 1 < ts.length
  · rw [if_pos hl] at h2
    have h3 := hA.1 i (i + 1) (by omega) hl
    have h4 := hA.2 (i + 1) hl
    obtain ⟨d, rfl⟩ := Int.eq_ofNat_of_zero_le (show 0 ≤ d by omega)
    obtain ⟨j, hj, ej⟩ := hv (ts.getD i 0 + d) (by omega) (by simpa using hd)
    rcases Nat.lt_or_ge i j with hij | hij
    · have := asc_le hA (show i + 1 ≤ j by omega) hj; omega
    · have := asc_le hA hij hi; omega
  · rw [if_neg hl] at h2
    have h0 := hA.2 0 hk
    obtain ⟨d, rfl⟩ := Int.eq_ofNat_of_zero_le (show 0 ≤ d by omega)
    by_cases hm : ts.getD i 0 + d < m
    · obtain ⟨j, hj, ej⟩ := hv (ts.getD i 0 + d) hm (by simpa using hd)
      have := asc_le hA (show j ≤ i by omega) hi
      omega
    · have hv2 : v ((ts.getD i 0 + d - m : Nat) : Int) := hp _ (by
        have e : (((ts.getD i 0 + d - m : Nat) : Int) + m) = (ts.getD i 0 : Nat) + (d : Int) := by omega
        rw [e]; exact hd)
      obtain ⟨j, hj, ej⟩ := hv (ts.getD i 0 + d - m) (by omega) hv2
      have := asc_le hA (Nat.zero_le j) hj
      omega
/-- The gaps fill the round. -/
theorem gap_fill {m : Nat} {ts : List Nat} (hA : Asc ts m) (hk : 0 < ts.length) : m ≤ mxG m ts ts.length * ts.length := by
  have hs : ∀ j, j < ts.length → ts.getD j 0 ≤ ts.getD 0 0 + mxG m ts ts.length * j := by
    intro j
    induction j with
    | zero => intro _; omega
    | succ j ih =>
      intro hj
      have h1 := ih (by omega)
      have hd := dG_le (m := m) (ts := ts) (show j < ts.length by omega)
      have h3 := hA.1 j (j + 1) (by omega) hj
      unfold dG at hd
      rw [if_pos hj] at hd
      rw [Nat.mul_succ]; omega
  have hd := dG_le (m := m) (ts := ts) (show ts.length - 1 < ts.length by omega)
  have h1 := hs (ts.length - 1) (by omega)
  unfold dG at hd
  rw [if_neg (by omega)] at hd
  have e : mxG m ts ts.length * ts.length = mxG m ts ts.length * (ts.length - 1) + mxG m ts ts.length := by
    rw [← Nat.mul_succ, show (ts.length - 1).succ = ts.length by omega]
  rw [e]; omega

/-! ### the times of a round -/
theorem mem_tmY {zs : List Int} {l k i : Nat} {s : Int} : i ∈ tmY zs l s k ↔ i < k ∧ atY zs l s i = true := by simp [tmY]
theorem tmY_asc (zs : List Int) (l : Nat) (s : Int) (k : Nat) : Asc (tmY zs l s k) k := by
  have hp : (tmY zs l s k).Pairwise (· < ·) := List.pairwise_lt_range.filter _
  have hg : ∀ i, i < (tmY zs l s k).length → ∃ h : i < (tmY zs l s k).length, (tmY zs l s k).getD i 0 = (tmY zs l s k)[i] := fun i hi => ⟨hi, by simp [List.getD, List.getElem?_eq_getElem hi]⟩
  refine ⟨fun i j hij hj => ?_, fun i hi => ?_⟩
  · obtain ⟨h1, e1⟩ := hg i (by omega)
    obtain ⟨h2, e2⟩ := hg j hj
    rw [e1, e2]
    exact List.pairwise_iff_getElem.1 hp i j h1 h2 hij
  · obtain ⟨h1, e1⟩ := hg i hi
    rw [e1]
    exact (mem_tmY.1 (List.getElem_mem h1)).1
theorem tmY_succ (zs : List Int) (l : Nat) (s : Int) (k : Nat) : tmY zs l s (k + 1) = tmY zs l s k ++ (if atY zs l s k = true then [k] else []) := by
  unfold tmY
  rw [List.range_succ, List.filter_append]
  congr 1
  by_cases h : atY zs l s k = true
  · simp [h]
  · simp [h]
/-- One of the helpers is at a spot. -/
def vi (zs : List Int) (l : Nat) (s : Int) (t : Int) : Prop := psY zs t = s ∨ psY zs (t - l) = s
theorem psY_per (zs : List Int) (t q : Int) : psY zs (t + zs.length * q) = psY zs t := by
  unfold psY; rw [Int.add_mul_emod_self_left]
theorem psY_nat (zs : List Int) {i : Nat} (h : i < zs.length) : psY zs i = zs.getD i 0 := by
  unfold psY
  rw [Int.emod_eq_of_lt (by omega) (by omega)]; simp
theorem bhI_lt {m l i : Nat} (hm : 0 < m) : bhI m l i < m := Nat.mod_lt _ hm
theorem bhI_is {m l i : Nat} (hm : 0 < m) : ((bhI m l i : Nat) : Int) = ((i : Int) - l) % (m : Int) := by
  unfold bhI
  have h1 : l % m < m := Nat.mod_lt _ hm
  have h2 : (l : Int) = (l % m : Nat) + m * (l / m : Nat) := by have := Nat.mod_add_div l m; omega
  rw [Int.natCast_emod]
  have e : (((i + m - l % m : Nat)) : Int) = ((i : Int) - l) + m * (1 + (l / m : Nat)) := by
    rw [Int.mul_add, Int.mul_one]; omega
  rw [e, Int.add_mul_emod_self_left]
theorem psY_beh (zs : List Int) {l i : Nat} (hm : 0 < zs.length) : psY zs ((i : Int) - l) = zs.getD (bhI zs.length l i) 0 := by
  unfold psY
  rw [← bhI_is hm]; simp
theorem atY_iff {zs : List Int} {l i : Nat} {s : Int} (h : i < zs.length) : atY zs l s i = true ↔ vi zs l s i := by
  unfold atY vi
  rw [psY_nat zs h, psY_beh zs (by omega)]
  simp
theorem vi_per {zs : List Int} {l : Nat} {s t : Int} (q : Int) : vi zs l s (t + zs.length * q) ↔ vi zs l s t := by
  unfold vi
  rw [psY_per, show t + zs.length * q - (l : Int) = (t - l) + zs.length * q by omega, psY_per]
/-- What the longest gap is. -/
theorem lg_spec (zs : List Int) (l : Nat) (s : Int) (hm : 0 < zs.length) :
    (lgY zs.length (tmY zs l s zs.length) = -1 ∧ (tmY zs l s zs.length).length = 0 ∧ ∀ t, ¬ vi zs l s t) ∨
    (∃ g : Nat, lgY zs.length (tmY zs l s zs.length) = g ∧ 0 < (tmY zs l s zs.length).length ∧ 1 ≤ g ∧ g ≤ zs.length ∧ zs.length ≤ g * (tmY zs l s zs.length).length ∧ Win (vi zs l s) g ∧ Tgt (vi zs l s) g) := by
  have hA := tmY_asc zs l s zs.length
  have hmem : ∀ i : Nat, i < zs.length → vi zs l s i → i ∈ tmY zs l s zs.length := fun i hi h => mem_tmY.2 ⟨hi, (atY_iff hi).2 h⟩
  have hget : ∀ i, i ∈ tmY zs l s zs.length → ∃ j, j < (tmY zs l s zs.length).length ∧ (tmY zs l s zs.length).getD j 0 = i := by
    intro i hi
    obtain ⟨j, hj, e⟩ := List.getElem_of_mem hi
    exact ⟨j, hj, by simp [List.getD, List.getElem?_eq_getElem hj, e]⟩
  have hat : ∀ i, i < (tmY zs l s zs.length).length → vi zs l s ((tmY zs l s zs.length).getD i 0 : Nat) := by
    intro i hi
    have e : (tmY zs l s zs.length).getD i 0 = (tmY zs l s zs.length)[i] := by simp [List.getD, List.getElem?_eq_getElem hi]
    have hm2 := List.getElem_mem hi
    rw [← e] at hm2
    obtain ⟨h1, h2⟩ := mem_tmY.1 hm2
    exact (atY_iff h1).1 h2
  by_cases h0 : (tmY zs l s zs.length).length = 0
  · refine .inl ⟨by unfold lgY; rw [if_pos h0], h0, fun t ht => ?_⟩
    have hr0 : 0 ≤ t % (zs.length : Int) := Int.emod_nonneg _ (by omega)
    have hr1 : t % (zs.length : Int) < zs.length := Int.emod_lt_of_pos _ (by omega)
    have ht2 : vi zs l s ((t % (zs.length : Int)).toNat : Nat) := by
      rw [Int.toNat_of_nonneg hr0]
      have e : t = t % (zs.length : Int) + zs.length * (t / zs.length) := (Int.emod_add_mul_ediv t _).symm
      rw [e] at ht
      exact (vi_per _).1 ht
    have := hmem _ (by omega) ht2
    rw [List.length_eq_zero_iff.1 h0] at this
    cases this
  · refine .inr ⟨mxG zs.length (tmY zs l s zs.length) (tmY zs l s zs.length).length, by unfold lgY; rw [if_neg h0], by omega, ?_, ?_, gap_fill hA (by omega), ?_, ?_⟩
    · obtain ⟨i, hi, e⟩ := mxG_att (m := zs.length) (ts := tmY zs l s zs.length) (show 0 < (tmY zs l s zs.length).length by omega)
      rw [e]; exact (dG_pos hA hi).1
    · obtain ⟨i, hi, e⟩ := mxG_att (m := zs.length) (ts := tmY zs l s zs.length) (show 0 < (tmY zs l s zs.length).length by omega)
      rw [e]; exact (dG_pos hA hi).2
    · exact gap_win hm hA (by omega) hat (fun t q h => (vi_per q).2 h)
    · refine gap_tgt hA (by omega) (fun i hi h => hget i (hmem i hi h)) (fun t h => ?_)
      have := (vi_per (zs := zs) (l := l) (s := s) (t := t) 1)
      rw [Int.mul_one] at this
      exact this.1 h
end Go.Proofs.Ytdkonaaoanggiaa
