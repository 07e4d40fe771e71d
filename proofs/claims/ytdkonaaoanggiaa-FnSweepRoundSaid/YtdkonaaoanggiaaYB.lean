/-
  Facts on rounds that the laws of chapter 7 ask for.
  Conditions: none beyond what each theorem states.
-/
import Derived.Test.YtdkonaaoanggiaaYA
namespace Go.Proofs.Ytdkonaaoanggiaa
open Go.ChangeShapes Go.WideShapes Go.ChangeAt Go.RowKit
set_option linter.unusedVariables false

theorem gpY_len (n : Nat) (zs : List Int) (l : Nat) : (gpY n zs l).length = n := by simp [gpY]
theorem vsY_len (n : Nat) (zs : List Int) (k : Nat) : (vsY n zs k).length = n := by simp [vsY]
theorem gpY_at {n : Nat} {zs : List Int} {l s : Nat} (h : s < n) : (gpY n zs l).getD s 0 = lgY zs.length (tmY zs l (s : Int) zs.length) := by simp [gpY, h]
theorem vsY_at {n : Nat} {zs : List Int} {k s : Nat} (h : s < n) : (vsY n zs k).getD s 0 = ((tmY zs 0 (s : Int) k).length : Int) := by simp [vsY, h]
theorem mem_gpY {n : Nat} {zs : List Int} {l : Nat} {x : Int} : x ∈ gpY n zs l ↔ ∃ s, s < n ∧ lgY zs.length (tmY zs l (s : Int) zs.length) = x := by simp [gpY]

/-! ### the longest gap is told by the windows -/
theorem lg_same {zs zs' : List Int} {l l' : Nat} {s : Int} (hm : 0 < zs.length) (hm' : 0 < zs'.length)
    (he : (∃ t, vi zs l s t) ↔ ∃ t, vi zs' l' s t) (hw : ∀ g : Int, Win (vi zs l s) g → Win (vi zs' l' s) g) (hw' : ∀ g : Int, Win (vi zs' l' s) g → Win (vi zs l s) g)
    (ht : ∀ g : Int, Tgt (vi zs l s) g → Tgt (vi zs' l' s) g) (ht' : ∀ g : Int, Tgt (vi zs' l' s) g → Tgt (vi zs l s) g) :
    lgY zs.length (tmY zs l s zs.length) = lgY zs'.length (tmY zs' l' s zs'.length) := by
  rcases lg_spec zs l s hm with ⟨e1, _, h1⟩ | ⟨g, e1, _, g1, _, _, w1, t1⟩ <;> rcases lg_spec zs' l' s hm' with ⟨e2, _, h2⟩ | ⟨g', e2, _, g1', _, _, w2, t2⟩
  · rw [e1, e2]
  · obtain ⟨d, _, _, hd⟩ := w2 0
    obtain ⟨t, ht⟩ := he.2 ⟨_, hd⟩
    exact absurd ht (h1 t)
  · obtain ⟨d, _, _, hd⟩ := w1 0
    obtain ⟨t, ht⟩ := he.1 ⟨_, hd⟩
    exact absurd ht (h2 t)
  · have a := win_le w1 (ht' _ t2) (fun _ h => h)
    have b := win_le w2 (ht _ t1) (fun _ h => h)
    rw [e1, e2]; omega
theorem vi_zero (zs : List Int) (s t : Int) : vi zs 0 s t ↔ psY zs t = s := by
  unfold vi
  rw [show t - ((0 : Nat) : Int) = t by omega]; simp
theorem psY_rev (zs : List Int) (hm : 0 < zs.length) (t : Int) : psY zs.reverse t = psY zs (-1 - t) := by
  unfold psY
  rw [List.length_reverse]
  have hr0 : 0 ≤ t % (zs.length : Int) := Int.emod_nonneg _ (by omega)
  have hr1 : t % (zs.length : Int) < zs.length := Int.emod_lt_of_pos _ (by omega)
  have e : (-1 - t) % (zs.length : Int) = (zs.length : Int) - 1 - t % (zs.length : Int) := by
    have e1 : -1 - t = ((zs.length : Int) - 1 - t % (zs.length : Int)) + zs.length * (-1 - t / (zs.length : Int)) := by
      have := Int.emod_add_mul_ediv t zs.length
      rw [Int.mul_sub, Int.mul_neg, Int.mul_one]; omega
    rw [e1, Int.add_mul_emod_self_left, Int.emod_eq_of_lt (by omega) (by omega)]
  rw [e]
  obtain ⟨r, hr⟩ : ∃ r : Nat, t % (zs.length : Int) = r := ⟨_, (Int.toNat_of_nonneg hr0).symm⟩
  rw [hr] at hr1 ⊢
  have hr2 : r < zs.length := by omega
  have e3 : ((zs.length : Int) - 1 - (r : Int)).toNat = zs.length - 1 - r := by omega
  rw [e3, Int.toNat_natCast]
  simp only [List.getD]
  rw [List.getElem?_reverse hr2]
theorem psY_twice (zs : List Int) (hm : 0 < zs.length) (t : Int) : psY (zs ++ zs) t = psY zs t := by
  unfold psY
  rw [List.length_append]
  have hM : ((zs.length + zs.length : Nat) : Int) = zs.length * 2 := by omega
  rw [hM]
  have hr0 : 0 ≤ t % ((zs.length : Int) * 2) := Int.emod_nonneg _ (by omega)
  have hr1 : t % ((zs.length : Int) * 2) < (zs.length : Int) * 2 := Int.emod_lt_of_pos _ (by omega)
  have e : t % (zs.length : Int) = (t % ((zs.length : Int) * 2)) % (zs.length : Int) := (Int.emod_emod_of_dvd _ ⟨2, rfl⟩).symm
  rw [e]
  obtain ⟨r, hr⟩ : ∃ r : Nat, t % ((zs.length : Int) * 2) = r := ⟨_, (Int.toNat_of_nonneg hr0).symm⟩
  rw [hr] at hr1 ⊢
  rw [← Int.natCast_emod, Int.toNat_natCast, Int.toNat_natCast]
  simp only [List.getD]
  by_cases h : r < zs.length
  · rw [List.getElem?_append_left h, Nat.mod_eq_of_lt h]
  · rw [List.getElem?_append_right (by omega), Nat.mod_eq_sub_mod (by omega), Nat.mod_eq_of_lt (by omega)]
theorem win_rev {v : Int → Prop} {g : Int} (h : Win v g) : Win (fun t => v (-1 - t)) g := by
  intro t
  obtain ⟨d, h1, h2, h3⟩ := h (-1 - t - g - 1)
  refine ⟨g + 1 - d, by omega, by omega, ?_⟩
  show v _
  rw [show -1 - (t + (g + 1 - d)) = -1 - t - g - 1 + d by omega]; exact h3
theorem tgt_rev {v : Int → Prop} {g : Int} (h : Tgt v g) : Tgt (fun t => v (-1 - t)) g := by
  obtain ⟨t, ht⟩ := h
  refine ⟨-1 - t - g, fun d h1 h2 hv => ht (g - d) (by omega) (by omega) ?_⟩
  have hv2 : v (-1 - (-1 - t - g + d)) := hv
  rw [show t + (g - d) = -1 - (-1 - t - g + d) by omega]; exact hv2
theorem vi_rev (zs : List Int) (hm : 0 < zs.length) (s : Int) : vi zs.reverse 0 s = fun t => vi zs 0 s (-1 - t) := by
  funext t
  rw [vi_zero, vi_zero, psY_rev zs hm]
theorem vi_rev' (zs : List Int) (hm : 0 < zs.length) (s : Int) : vi zs 0 s = fun t => vi zs.reverse 0 s (-1 - t) := by
  funext t
  rw [vi_rev zs hm]
  show _ = vi zs 0 s _
  rw [show -1 - (-1 - t) = t by omega]
theorem gpY_rev (n : Nat) (zs : List Int) (hm : 0 < zs.length) : gpY n zs.reverse 0 = gpY n zs 0 := by
  unfold gpY
  refine List.map_congr_left (fun s _ => ?_)
  have he : (∃ t, vi zs 0 (s : Int) t) ↔ ∃ t, vi zs.reverse 0 (s : Int) t := by
    constructor
    · rintro ⟨t, h⟩
      refine ⟨-1 - t, ?_⟩
      rw [vi_rev' zs hm] at h; exact h
    · rintro ⟨t, h⟩
      refine ⟨-1 - t, ?_⟩
      rw [vi_rev zs hm] at h; exact h
  have h1 : ∀ g : Int, Win (vi zs 0 (s : Int)) g → Win (vi zs.reverse 0 (s : Int)) g := fun g h => by rw [vi_rev zs hm]; exact win_rev h
  have h2 : ∀ g : Int, Win (vi zs.reverse 0 (s : Int)) g → Win (vi zs 0 (s : Int)) g := fun g h => by rw [vi_rev' zs hm]; exact win_rev h
  have h3 : ∀ g : Int, Tgt (vi zs 0 (s : Int)) g → Tgt (vi zs.reverse 0 (s : Int)) g := fun g h => by rw [vi_rev zs hm]; exact tgt_rev h
  have h4 : ∀ g : Int, Tgt (vi zs.reverse 0 (s : Int)) g → Tgt (vi zs 0 (s : Int)) g := fun g h => by rw [vi_rev' zs hm]; exact tgt_rev h
  exact (lg_same hm (by rw [List.length_reverse]; exact hm) he h1 h2 h3 h4).symm
theorem vi_twice (zs : List Int) (hm : 0 < zs.length) (s : Int) : vi (zs ++ zs) 0 s = vi zs 0 s := by
  funext t
  rw [vi_zero, vi_zero, psY_twice zs hm]
theorem gpY_twice (n : Nat) (zs : List Int) (hm : 0 < zs.length) : gpY n (zs ++ zs) 0 = gpY n zs 0 := by
  unfold gpY
  refine List.map_congr_left (fun s _ => ?_)
  refine (lg_same hm (by rw [List.length_append]; omega) (by rw [vi_twice zs hm]) (fun g h => ?_) (fun g h => ?_) (fun g h => ?_) (fun g h => ?_)).symm
  all_goals first | (rw [vi_twice zs hm]; exact h) | (rw [vi_twice zs hm] at h; exact h)

/-! ### rounds -/
theorem Rnd.n1 {n : Int} {zs : List Int} (h : Rnd n zs) : 1 ≤ n := h.1
theorem Rnd.n8 {n : Int} {zs : List Int} (h : Rnd n zs) : n ≤ 8 := h.2.1
theorem Rnd.l1 {n : Int} {zs : List Int} (h : Rnd n zs) : 1 ≤ zs.length := h.2.2.1
theorem Rnd.l20 {n : Int} {zs : List Int} (h : Rnd n zs) : zs.length ≤ 20 := h.2.2.2.1
theorem Rnd.inn {n : Int} {zs : List Int} (h : Rnd n zs) {i : Nat} (hi : i < zs.length) : 0 ≤ zs.getD i 0 ∧ zs.getD i 0 < n := h.2.2.2.2.1 i hi
theorem Rnd.adj {n : Int} {zs : List Int} (h : Rnd n zs) {i : Nat} (hi : i < zs.length) : gapI (zs.getD i 0) (zs.getD ((i + 1) % zs.length) 0) ≤ 1 := h.2.2.2.2.2 i hi
theorem gapI_symm (a b : Int) : gapI a b = gapI b a := by unfold gapI; split <;> split <;> omega
/-- The spot of a time beside the one ahead of it. -/
theorem psY_mod (zs : List Int) (t : Int) : psY zs (t % (zs.length : Int)) = psY zs t := by unfold psY; rw [Int.emod_emod_of_dvd _ ⟨1, by omega⟩]
theorem rnd_step {n : Int} {zs : List Int} (h : Rnd n zs) (t : Int) : gapI (psY zs t) (psY zs (t + 1)) ≤ 1 := by
  have hm := h.l1
  have hr0 : 0 ≤ t % (zs.length : Int) := Int.emod_nonneg _ (by omega)
  have hr1 : t % (zs.length : Int) < zs.length := Int.emod_lt_of_pos _ (by omega)
  obtain ⟨r, hr⟩ : ∃ r : Nat, t % (zs.length : Int) = r := ⟨_, (Int.toNat_of_nonneg hr0).symm⟩
  have e1 : psY zs t = psY zs (r : Int) := by rw [← hr, psY_mod]
  have e2 : psY zs (t + 1) = psY zs ((r : Int) + 1) := by
    rw [← hr, ← psY_mod zs (t + 1), ← psY_mod zs (t % (zs.length : Int) + 1), Int.emod_add_emod]
  have hr2 : r < zs.length := by omega
  have e3 : psY zs ((r : Int) + 1) = zs.getD ((r + 1) % zs.length) 0 := by
    rw [← psY_nat zs (Nat.mod_lt (r + 1) (by omega)), Int.natCast_emod, psY_mod]; rfl
  rw [e1, e2, e3, psY_nat zs hr2]
  exact h.adj hr2
theorem rnd_of_step {n : Int} {zs : List Int} (h1 : 1 ≤ n) (h2 : n ≤ 8) (h3 : 1 ≤ zs.length) (h4 : zs.length ≤ 20) (h5 : ∀ i, i < zs.length → 0 ≤ zs.getD i 0 ∧ zs.getD i 0 < n)
    (h6 : ∀ t, gapI (psY zs t) (psY zs (t + 1)) ≤ 1) : Rnd n zs := by
  refine ⟨h1, h2, h3, h4, h5, fun i hi => ?_⟩
  have h := h6 i
  have e3 : psY zs ((i : Int) + 1) = zs.getD ((i + 1) % zs.length) 0 := by
    rw [← psY_nat zs (Nat.mod_lt (i + 1) (by omega)), Int.natCast_emod, psY_mod]; rfl
  rw [e3, psY_nat zs hi] at h
  exact h
theorem rnd_rev {n : Int} {zs : List Int} (h : Rnd n zs) : Rnd n zs.reverse := by
  have hm := h.l1
  refine rnd_of_step h.n1 h.n8 (by rw [List.length_reverse]; exact h.l1) (by rw [List.length_reverse]; exact h.l20) (fun i hi => ?_) (fun t => ?_)
  · rw [List.length_reverse] at hi
    have e : zs.reverse.getD i 0 = zs.getD (zs.length - 1 - i) 0 := by simp only [List.getD]; rw [List.getElem?_reverse hi]
    rw [e]; exact h.inn (by omega)
  · rw [psY_rev zs (by omega), psY_rev zs (by omega), gapI_symm]
    have := rnd_step h (-1 - (t + 1))
    rw [show -1 - (t + 1) + 1 = -1 - t by omega] at this
    exact this

/-! ### visits -/
theorem at0 {zs : List Int} {s : Int} {i : Nat} (h : i < zs.length) : atY zs 0 s i = (zs.getD i 0 == s) := by
  unfold atY bhI
  rw [Nat.zero_mod, Nat.sub_zero, Nat.add_mod_right, Nat.mod_eq_of_lt h, Bool.or_self]
def sumY (f : Nat → Int) : Nat → Int
  | 0 => 0
  | n + 1 => sumY f n + f n
theorem sumY_add (f g : Nat → Int) : ∀ n, sumY (fun i => f i + g i) n = sumY f n + sumY g n
  | 0 => rfl
  | n + 1 => by simp only [sumY]; rw [sumY_add f g n]; omega
theorem sumY_congr {f g : Nat → Int} : ∀ {n : Nat}, (∀ i, i < n → f i = g i) → sumY f n = sumY g n
  | 0, _ => rfl
  | n + 1, h => by simp only [sumY]; rw [sumY_congr (fun i hi => h i (by omega)), h n (by omega)]
theorem sumY_zero : ∀ n, sumY (fun _ => 0) n = 0
  | 0 => rfl
  | n + 1 => by simp only [sumY]; rw [sumY_zero n]; rfl
theorem sumY_one {x : Int} : ∀ {n : Nat}, 0 ≤ x → sumY (fun s => if x = (s : Int) then 1 else 0) n = if x < n then 1 else 0
  | 0, h => by simp [sumY]; omega
  | n + 1, h => by
    simp only [sumY]
    rw [sumY_one h]
    by_cases e : x = (n : Int)
    · rw [if_pos e, if_neg (by omega), if_pos (by omega)]; rfl
    · rw [if_neg e]
      by_cases h2 : x < (n : Int)
      · rw [if_pos h2, if_pos (by omega)]; rfl
      · rw [if_neg h2, if_neg (by omega)]; rfl
theorem visits_sum {n : Nat} {zs : List Int} (h : Rnd n zs) : ∀ k, k ≤ zs.length → sumY (fun s => ((tmY zs 0 (s : Int) k).length : Int)) n = k
  | 0, _ => by
    rw [sumY_congr (g := fun _ => 0) (fun i _ => by simp [tmY]), sumY_zero]; rfl
  | k + 1, hk => by
    have h1 := visits_sum h k (by omega)
    have hin := h.inn (i := k) (by omega)
    rw [sumY_congr (g := fun s => ((tmY zs 0 (s : Int) k).length : Int) + (if zs.getD k 0 = (s : Int) then 1 else 0)) (fun s _ => by
      rw [tmY_succ, List.length_append, at0 (show k < zs.length by omega)]
      by_cases e : zs.getD k 0 = (s : Int)
      · rw [if_pos e, if_pos (beq_iff_eq.2 e)]; simp
      · rw [if_neg e, if_neg (fun h => e (beq_iff_eq.1 h))]; simp)]
    rw [sumY_add, h1, sumY_one hin.1, if_pos (by omega)]; rfl

/-! ### the greatest gap -/
theorem mxI_le {gs : List Int} : ∀ {k i : Nat}, i < k → gs.getD i 0 ≤ mxI gs k
  | 0, i, h => by omega
  | k + 1, i, h => by
    simp only [mxI]
    by_cases e : i = k
    · subst e; omega
    · have := mxI_le (gs := gs) (show i < k by omega); omega
theorem mxI_mono {gs gs' : List Int} : ∀ {k : Nat}, (∀ i, i < k → gs.getD i 0 ≤ gs'.getD i 0) → mxI gs k ≤ mxI gs' k
  | 0, _ => by simp [mxI]
  | k + 1, h => by
    simp only [mxI]
    have h1 := mxI_mono (gs := gs) (gs' := gs') (k := k) (fun i hi => h i (by omega))
    have h2 := h k (by omega)
    omega
theorem gpY_ge {n : Nat} {zs : List Int} {l : Nat} (hm : 0 < zs.length) {x : Int} (h : x ∈ gpY n zs l) : x = -1 ∨ 1 ≤ x ∧ x ≤ zs.length := by
  obtain ⟨s, hs, rfl⟩ := mem_gpY.1 h
  rcases lg_spec zs l s hm with ⟨e, _⟩ | ⟨g, e, _, g1, g2, _⟩
  · exact .inl e
  · right; rw [e]; omega
theorem gpY_get {n : Nat} {zs : List Int} {l s : Nat} (hm : 0 < zs.length) (h : s < n) : (gpY n zs l).getD s 0 = -1 ∨ 1 ≤ (gpY n zs l).getD s 0 ∧ (gpY n zs l).getD s 0 ≤ zs.length := by
  refine gpY_ge (n := n) (l := l) hm ?_
  rw [gpY_at h]
  exact mem_gpY.2 ⟨s, h, rfl⟩
/-- What holds of the visits and gaps of one spot. -/
theorem spot_facts {n : Nat} {zs : List Int} {s : Nat} (hm : 0 < zs.length) (h : s < n) :
    ((gpY n zs 0).getD s 0 = -1 ∧ (vsY n zs zs.length).getD s 0 = 0) ∨
    (∃ g v : Nat, (gpY n zs 0).getD s 0 = g ∧ (vsY n zs zs.length).getD s 0 = v ∧ 0 < v ∧ v ≤ zs.length ∧ 1 ≤ g ∧ g ≤ zs.length ∧ zs.length ≤ g * v) := by
  rw [gpY_at h, vsY_at h]
  have hv : (tmY zs 0 (s : Int) zs.length).length ≤ zs.length := by
    have := List.length_filter_le (atY zs 0 (s : Int)) (List.range zs.length)
    rw [List.length_range] at this
    exact this
  rcases lg_spec zs 0 s hm with ⟨e, e2, _⟩ | ⟨g, e, e2, g1, g2, g3, _⟩
  · left; rw [e, e2]; exact ⟨rfl, rfl⟩
  · right; exact ⟨g, _, e, rfl, e2, hv, g1, g2, g3⟩
theorem wrY_no {gs : List Int} (h : -1 ∈ gs) : wrY gs = -1 := by unfold wrY; rw [if_pos (by simpa using h)]
theorem wrY_yes {gs : List Int} (h : ¬ -1 ∈ gs) : wrY gs = mxI gs gs.length := by unfold wrY; rw [if_neg (by simpa using h)]
/-- No round is better than to and fro. -/
theorem worst_wide {n : Nat} {zs : List Int} (h : Rnd n zs) (hno : ¬ -1 ∈ gpY n zs 0) : 2 * ((n : Int) - 1) ≤ mxI (gpY n zs 0) n := by
  have hm := h.l1
  have hn := h.n1
  have hsp : ∀ s : Nat, s < n → ∃ g : Nat, (gpY n zs 0).getD s 0 = g ∧ Win (vi zs 0 (s : Int)) g := by
    intro s hs
    rw [gpY_at hs]
    rcases lg_spec zs 0 s (by omega) with ⟨e, _⟩ | ⟨g, e, _, _, _, _, w, _⟩
    · exact absurd (mem_gpY.2 ⟨s, hs, e⟩) hno
    · exact ⟨g, e, w⟩
  obtain ⟨g, eg, wg⟩ := hsp 0 (by omega)
  obtain ⟨g', _, wg'⟩ := hsp (n - 1) (by omega)
  obtain ⟨d, _, _, hd⟩ := wg' 0
  rw [vi_zero] at hd
  generalize (0 : Int) + d = t at hd
  have hle := mxI_le (gs := gpY n zs 0) (show 0 < n by omega)
  rw [eg] at hle
  -- a helper who is at the last spot is not at the first one for so long
  have hfar : ∀ k : Nat, ∀ x : Int, psY zs x - psY zs (x + k) ≤ k ∧ psY zs (x + k) - psY zs x ≤ k := by
    intro k
    induction k with
    | zero => intro x; rw [show x + ((0 : Nat) : Int) = x by omega]; omega
    | succ k ih =>
      intro x
      have h1 := ih x
      have h2 := rnd_step h (x + k)
      rw [show x + ((k + 1 : Nat) : Int) = x + k + 1 by omega]
      unfold gapI at h2
      split at h2 <;> omega
  obtain ⟨d, d1, d2, hd2⟩ := wg (t - ((n : Int) - 1))
  rw [vi_zero] at hd2
  rcases (show d < (n : Int) - 1 ∨ (n : Int) - 1 ≤ d by omega) with hlt | hge
  · have := hfar ((n : Int) - 1 - d).toNat (t - ((n : Int) - 1) + d)
    rw [show t - ((n : Int) - 1) + d + (((n : Int) - 1 - d).toNat : Int) = t by omega, hd, hd2] at this
    omega
  · have := hfar (d - ((n : Int) - 1)).toNat t
    rw [show t + ((d - ((n : Int) - 1)).toNat : Int) = t - ((n : Int) - 1) + d by omega, hd, hd2] at this
    omega
/-- Two wait no longer. -/
theorem two_le {n : Nat} {zs : List Int} {l : Nat} (hm : 0 < zs.length) (hno : ¬ -1 ∈ gpY n zs 0) : ¬ -1 ∈ gpY n zs l ∧ mxI (gpY n zs l) n ≤ mxI (gpY n zs 0) n := by
  have key : ∀ s : Nat, s < n → lgY zs.length (tmY zs l (s : Int) zs.length) ≠ -1 ∧ (gpY n zs l).getD s 0 ≤ (gpY n zs 0).getD s 0 := by
    intro s hs
    rw [gpY_at hs, gpY_at hs]
    have hsub : ∀ t, vi zs 0 (s : Int) t → vi zs l (s : Int) t := fun t h => .inl ((vi_zero _ _ _).1 h)
    rcases lg_spec zs 0 s hm with ⟨e, _⟩ | ⟨g, e, _, _, _, _, w, _⟩
    · exact absurd (mem_gpY.2 ⟨s, hs, e⟩) hno
    · rcases lg_spec zs l s hm with ⟨_, _, h2⟩ | ⟨g', e', _, _, _, _, _, t'⟩
      · obtain ⟨d, _, _, hd⟩ := w 0
        exact absurd (hsub _ hd) (h2 _)
      · have := win_le w t' hsub
        rw [e, e']; omega
  refine ⟨fun hc => ?_, mxI_mono (fun s hs => (key s hs).2)⟩
  obtain ⟨s, hs, e⟩ := mem_gpY.1 hc
  exact (key s hs).1 e
theorem two_pos {n : Nat} {zs : List Int} {l : Nat} (hm : 0 < zs.length) (hn : 0 < n) (hno : ¬ -1 ∈ gpY n zs l) : 1 ≤ mxI (gpY n zs l) n := by
  have hle := mxI_le (gs := gpY n zs l) (show 0 < n by omega)
  rcases gpY_get (l := l) hm hn with e | ⟨e, _⟩
  · rw [gpY_at hn] at e
    exact absurd (mem_gpY.2 ⟨0, hn, e⟩) hno
  · omega

/-! ### to and fro -/
theorem sweep_round : ∀ n : Nat, n ≤ 8 → 1 ≤ n → Rnd n (swY n) ∧ ((swY n).length : Int) = max (2 * ((n : Int) - 1)) 1 ∧ wrY (gpY n (swY n) 0) = max (2 * ((n : Int) - 1)) 1 := by decide +kernel
theorem sweep_shared : ∀ n : Nat, n ≤ 8 → 2 ≤ n → wrY (gpY n (swY n) ((swY n).length / 2)) ≤ wrY (gpY n (swY n) 0) ∧ wrY (gpY n (swY n) 0) ≤ 2 * wrY (gpY n (swY n) ((swY n).length / 2)) := by decide +kernel
end Go.Proofs.Ytdkonaaoanggiaa
