/-
  Districts found street by street, as mathematics: the best rows, the least greatest one, the greatest least one.
  Conditions: none beyond what each theorem states.
-/
import Derived.Test.YtoappopbjnlbdaaZA
namespace Go.Proofs.Ytoappopbjnlbdaa
open Go.RowKit
set_option linter.unusedVariables false

/-- The greatest, and the least, of numbers of people. -/
def gM (ds : List Int) : Int := ds.foldl max 0
def gN (ds : List Int) : Int := ds.foldl min 100000
def fN (ds : List Int) : Int := - gN ds
theorem gM_snoc (a : List Int) (x : Int) : gM (a ++ [x]) = max (gM a) x := by simp [gM]
theorem gN_snoc (a : List Int) (x : Int) : gN (a ++ [x]) = min (gN a) x := by simp [gN]
theorem gM_le {ds : List Int} {u : Int} (h0 : 0 ≤ u) : (∀ d, d ∈ ds → d ≤ u) → gM ds ≤ u :=
  snoc_ind (P := fun ds => (∀ d, d ∈ ds → d ≤ u) → gM ds ≤ u) (fun _ => h0) (fun z x ih h => by
    rw [gM_snoc]
    have h1 := ih fun d hd => h d (by simp [hd])
    have h2 := h x (by simp)
    omega) ds
theorem gM_ge {ds : List Int} : ∀ d, d ∈ ds → d ≤ gM ds :=
  snoc_ind (P := fun ds => ∀ d, d ∈ ds → d ≤ gM ds) (fun d h => by simp at h) (fun z x ih d h => by
    rw [gM_snoc]
    rcases List.mem_append.1 h with h | h
    · have := ih d h; omega
    · simp only [List.mem_singleton] at h; omega) ds
theorem gN_ge {ds : List Int} {u : Int} (h0 : u ≤ 100000) : (∀ d, d ∈ ds → u ≤ d) → u ≤ gN ds :=
  snoc_ind (P := fun ds => (∀ d, d ∈ ds → u ≤ d) → u ≤ gN ds) (fun _ => h0) (fun z x ih h => by
    rw [gN_snoc]
    have h1 := ih fun d hd => h d (by simp [hd])
    have h2 := h x (by simp)
    omega) ds
theorem gN_le {ds : List Int} : ∀ d, d ∈ ds → gN ds ≤ d :=
  snoc_ind (P := fun ds => ∀ d, d ∈ ds → gN ds ≤ d) (fun d h => by simp at h) (fun z x ih d h => by
    rw [gN_snoc]
    rcases List.mem_append.1 h with h | h
    · have := ih d h; omega
    · simp only [List.mem_singleton] at h; omega) ds
/-- A key that grows with what is ahead of the last district. -/
def KeyOk (f : List Int → Int) : Prop := ∀ a b x, f a ≤ f b → f (a ++ [x]) ≤ f (b ++ [x])
theorem keyOk_M : KeyOk gM := fun a b x h => by rw [gM_snoc, gM_snoc]; omega
theorem keyOk_N : KeyOk fN := fun a b x h => by unfold fN at *; rw [gN_snoc, gN_snoc]; omega

def NoCut (zs : List Int) (j e : Nat) : Prop := ∀ d, CutOf (zs.take e) d → d.length ≠ j
def Opt (f : List Int → Int) (zs : List Int) (j e : Nat) (d : List Int) : Prop := CutOf (zs.take e) d ∧ d.length = j ∧ ∀ d', CutOf (zs.take e) d' → d'.length = j → f d ≤ f d'
/-- The best districts of the first e streets, j of them; none if they cannot be cut so. -/
def OptO (f : List Int → Int) (zs : List Int) (j e : Nat) : Option (List Int) → Prop
  | none => NoCut zs j e
  | some d => Opt f zs j e d
/-- How many people live from street i to street e. -/
def sg (zs : List Int) (i e : Nat) : Int := sm ((zs.take e).drop i)
theorem sg_end (zs : List Int) (e : Nat) : sg zs e e = 0 := by unfold sg; rw [List.drop_eq_nil_of_le (by rw [List.length_take]; omega)]; rfl
theorem sg_step {zs : List Int} {i e : Nat} (hi : i < e) (he : e ≤ zs.length) : sg zs i e = zs.getD i 0 + sg zs (i + 1) e := by
  unfold sg
  have hl : i < (zs.take e).length := by rw [List.length_take]; omega
  rw [List.drop_eq_getElem_cons hl]
  simp only [sm]
  rw [List.getElem_take]
  simp [List.getD, List.getElem?_eq_getElem (show i < zs.length by omega)]
theorem sg_bd {zs : List Int} {e : Nat} (hz : ∀ x, x ∈ zs → 0 ≤ x ∧ x ≤ 20) (he : e ≤ zs.length) : ∀ j, j ≤ e → 0 ≤ sg zs (e - j) e ∧ sg zs (e - j) e ≤ 20 * j
  | 0, _ => by rw [Nat.sub_zero, sg_end]; simp
  | j + 1, hj => by
    have h1 := sg_bd hz he j (by omega)
    have h2 := hz _ (getD_mem (zs := zs) (k := e - (j + 1)) (by omega))
    rw [sg_step (by omega) he, show e - (j + 1) + 1 = e - j by omega]
    omega
/-- What has been found while the last districts from street a on have been looked at. -/
def Sc (f : List Int → Int) (zs : List Int) (j e a : Nat) : Option (List Int) → Prop
  | none => ∀ i, a ≤ i → i < e → NoCut zs j i
  | some d => CutOf (zs.take e) d ∧ d.length = j + 1 ∧ ∀ i, a ≤ i → i < e → ∀ d', CutOf (zs.take i) d' → d'.length = j → f d ≤ f (d' ++ [sg zs i e])
theorem sc_start (f : List Int → Int) (zs : List Int) (j e : Nat) : Sc f zs j e e none := fun i h1 h2 => by omega
theorem sc_skip {f : List Int → Int} {zs : List Int} {j e i : Nat} {o : Option (List Int)} (h : Sc f zs j e (i + 1) o) (hn : NoCut zs j i) : Sc f zs j e i o := by
  cases o with
  | none =>
    intro q h1 h2
    by_cases e' : q = i
    · rw [e']; exact hn
    · exact h q (by omega) h2
  | some d => exact ⟨h.1, h.2.1, fun q h1 h2 d' hc hl => by
      by_cases e' : q = i
      · rw [e'] at hc; exact absurd hl (hn d' hc)
      · exact h.2.2 q (by omega) h2 d' hc hl⟩
theorem sc_cut {f : List Int → Int} {zs : List Int} {j e i : Nat} {d : List Int} (hie : i < e) (he : e ≤ zs.length) (ho : Opt f zs j i d) : CutOf (zs.take e) (d ++ [sg zs i e]) ∧ (d ++ [sg zs i e]).length = j + 1 := by
  refine ⟨?_, by simp [ho.2.1]⟩
  have hy : (zs.take e).drop i ≠ [] := by
    intro h
    have : ((zs.take e).drop i).length = 0 := by rw [h]; rfl
    rw [List.length_drop, List.length_take] at this; omega
  have := cut_snoc ho.1 hy
  rwa [show zs.take i ++ (zs.take e).drop i = zs.take e by
    have h1 := List.take_append_drop i (zs.take e)
    rwa [List.take_take, Nat.min_eq_left (by omega)] at h1] at this
theorem sc_take {f : List Int → Int} (hf : KeyOk f) {zs : List Int} {j e i : Nat} {o : Option (List Int)} {d : List Int} (hie : i < e) (he : e ≤ zs.length) (h : Sc f zs j e (i + 1) o) (ho : Opt f zs j i d)
    (hb : ∀ d0, o = some d0 → f (d ++ [sg zs i e]) < f d0) : Sc f zs j e i (some (d ++ [sg zs i e])) := by
  obtain ⟨h1, h2⟩ := sc_cut hie he ho
  refine ⟨h1, h2, fun q hq1 hq2 d' hc hl => ?_⟩
  by_cases e' : q = i
  · subst e'; exact hf _ _ _ (ho.2.2 d' hc hl)
  · cases o with
    | none => exact absurd hl (h q (by omega) hq2 d' hc)
    | some d0 =>
      have := h.2.2 q (by omega) hq2 d' hc hl
      have := hb d0 rfl
      omega
theorem sc_keep {f : List Int → Int} (hf : KeyOk f) {zs : List Int} {j e i : Nat} {d0 d : List Int} (hie : i < e) (he : e ≤ zs.length) (h : Sc f zs j e (i + 1) (some d0)) (ho : Opt f zs j i d)
    (hb : ¬ f (d ++ [sg zs i e]) < f d0) : Sc f zs j e i (some d0) :=
  ⟨h.1, h.2.1, fun q hq1 hq2 d' hc hl => by
    by_cases e' : q = i
    · subst e'
      have := hf _ _ (sg zs q e) (ho.2.2 d' hc hl)
      omega
    · exact h.2.2 q (by omega) hq2 d' hc hl⟩
theorem sc_end {f : List Int → Int} {zs : List Int} {j e : Nat} {o : Option (List Int)} (he : e ≤ zs.length) (h : Sc f zs j e 0 o) : OptO f zs (j + 1) e o := by
  have key : ∀ d', CutOf (zs.take e) d' → d'.length = j + 1 → ∃ i d0, i < e ∧ CutOf (zs.take i) d0 ∧ d0.length = j ∧ d' = d0 ++ [sg zs i e] := by
    intro d' hc hl
    have hne : d' ≠ [] := by rintro rfl; simp at hl
    obtain ⟨d0, s, rfl⟩ := snoc_of hne
    obtain ⟨a, y, hz, hy, rfl, hc0⟩ := cut_last hc
    have hlen : (zs.take e).length = a.length + y.length := by rw [hz, List.length_append]
    rw [List.length_take, Nat.min_eq_left he] at hlen
    have hy' : 0 < y.length := List.length_pos_iff.2 hy
    have ha : zs.take a.length = a := by
      have h1 : (zs.take e).take a.length = a := by rw [hz, List.take_left]
      rwa [List.take_take, Nat.min_eq_left (by omega)] at h1
    have hs : sg zs a.length e = sm y := by unfold sg; rw [hz, List.drop_left]
    exact ⟨a.length, d0, by omega, by rw [ha]; exact hc0, by simpa using hl, by rw [hs]⟩
  cases o with
  | none =>
    intro d' hc hl
    obtain ⟨i, d0, hi, h1, h2, _⟩ := key d' hc hl
    exact h i (Nat.zero_le _) hi d0 h1 h2
  | some d => exact ⟨h.1, h.2.1, fun d' hc hl => by
      obtain ⟨i, d0, hi, h1, h2, rfl⟩ := key d' hc hl
      exact h.2.2 i (Nat.zero_le _) hi d0 h1 h2⟩
theorem opt_zero (f : List Int → Int) (zs : List Int) : OptO f zs 0 0 (some []) :=
  ⟨by rw [List.take_zero]; exact cut_nil, rfl, fun d' _ hl => by rw [List.length_eq_zero_iff.1 hl]; omega⟩
theorem opt_zero_none (f : List Int → Int) (zs : List Int) {e : Nat} (h1 : 1 ≤ e) (h2 : e ≤ zs.length) : OptO f zs 0 e none := fun d hc hl => by
  rw [List.length_eq_zero_iff.1 hl] at hc
  have := cut_of_nil hc
  have h3 : (zs.take e).length = 0 := by rw [this]; rfl
  rw [List.length_take] at h3; omega
theorem opt_end {f : List Int → Int} {zs : List Int} {k : Nat} {o : Option (List Int)} (h1 : 1 ≤ k) (h2 : k ≤ zs.length) (h : OptO f zs k zs.length o) : ∃ d, o = some d ∧ Opt f zs k zs.length d := by
  cases o with
  | some d => exact ⟨d, rfl, h⟩
  | none =>
    obtain ⟨ds, hc, hl⟩ := cut_some zs k h1 h2
    exact absurd hl (h ds (by rwa [List.take_length]))
theorem opt_least {zs : List Int} {k : Nat} {d : List Int} (hz : Ge0 zs) (hne : zs ≠ []) (h1 : 1 ≤ k) (h : Opt gM zs (min k zs.length) zs.length d) : IsLeast zs k (gM d) := by
  obtain ⟨hc, hl, hb⟩ := h
  rw [List.take_length] at hc hb
  have hl0 : 0 < zs.length := List.length_pos_iff.2 hne
  refine ⟨⟨d, hc, by omega, gM_ge⟩, fun u hu => ?_⟩
  have hu0 := leK_pos hz hne hu
  obtain ⟨ds, g1, g2, g3⟩ := hu
  have g4 := cut_len g1
  obtain ⟨ds', g5, g6, g7⟩ := cut_exact hz g1 g3 (min k zs.length - ds.length) (by omega)
  have := hb ds' g5 (by omega)
  have := gM_le hu0 g7
  omega
theorem opt_most {zs : List Int} {k : Nat} {d : List Int} (hz : Ge0 zs) (hs : sm zs ≤ 100000) (h1 : 1 ≤ k) (h : Opt fN zs k zs.length d) : IsMost zs k (gN d) := by
  obtain ⟨hc, hl, hb⟩ := h
  rw [List.take_length] at hc hb
  refine ⟨⟨d, hc, hl, gN_le⟩, fun u hu => ?_⟩
  have hk := geK_total hu
  obtain ⟨ds, g1, g2, g3⟩ := hu
  have h2 := hb ds g1 g2
  have h3 : u ≤ gN ds := by
    refine gN_ge ?_ g3
    have hd : ds ≠ [] := by rintro rfl; simp at g2; omega
    obtain ⟨a, x, rfl⟩ := snoc_of hd
    have e1 := g3 x (by simp)
    have e2 := sm_mem (cut_ge0 g1 hz) x (by simp)
    rw [cut_sum g1] at e2
    omega
  unfold fN at h2
  omega

/-- The model's answers, by the last district. -/
def bpF (g : Nat → Int) (t : Int) : Nat → Int
  | 0 => t
  | i + 1 => min (bpF g t i) (g (i + 1))
def bpV : Nat → List Int → Int
  | 0, zs => sm zs
  | k + 1, zs => bpF (fun i => max (bpV k (zs.take i)) (sm (zs.drop i))) (sm zs) (zs.length - 1)
def mlF (g : Nat → Int) : Nat → Int
  | 0 => -1
  | i + 1 => max (mlF g i) (g i)
def mlV : Nat → List Int → Int
  | 0, zs => sm zs
  | k + 1, zs => mlF (fun i => min (mlV k (zs.take (k + 1 + i))) (sm (zs.drop (k + 1 + i)))) (zs.length - (k + 1))
theorem bpF_le (g : Nat → Int) (t : Int) : ∀ n, bpF g t n ≤ t ∧ ∀ i, 1 ≤ i → i ≤ n → bpF g t n ≤ g i
  | 0 => ⟨by simp [bpF], fun i h1 h2 => by omega⟩
  | n + 1 => by
    have ih := bpF_le g t n
    simp only [bpF]
    refine ⟨by omega, fun i h1 h2 => ?_⟩
    by_cases e : i = n + 1
    · rw [e]; omega
    · have := ih.2 i h1 (by omega); omega
theorem bpF_is (g : Nat → Int) (t : Int) : ∀ n, bpF g t n = t ∨ ∃ i, 1 ≤ i ∧ i ≤ n ∧ bpF g t n = g i
  | 0 => .inl rfl
  | n + 1 => by
    simp only [bpF]
    rcases Int.le_total (bpF g t n) (g (n + 1)) with h | h
    · rw [Int.min_eq_left h]
      rcases bpF_is g t n with e | ⟨i, h1, h2, e⟩
      · exact .inl e
      · exact .inr ⟨i, h1, by omega, e⟩
    · rw [Int.min_eq_right h]; exact .inr ⟨n + 1, by omega, by omega, rfl⟩
theorem mlF_ge (g : Nat → Int) : ∀ n i, i < n → g i ≤ mlF g n
  | 0, i, h => by omega
  | n + 1, i, h => by
    simp only [mlF]
    by_cases e : i = n
    · rw [e]; omega
    · have := mlF_ge g n i (by omega); omega
theorem mlF_is (g : Nat → Int) : ∀ n, mlF g n = -1 ∨ ∃ i, i < n ∧ mlF g n = g i
  | 0 => .inl rfl
  | n + 1 => by
    simp only [mlF]
    rcases Int.le_total (mlF g n) (g n) with h | h
    · rw [Int.max_eq_right h]; exact .inr ⟨n, by omega, rfl⟩
    · rw [Int.max_eq_left h]
      rcases mlF_is g n with e | ⟨i, h1, e⟩
      · exact .inl e
      · exact .inr ⟨i, by omega, e⟩
theorem part_of {zs a y : List Int} (h : zs = a ++ y) : zs.take a.length = a ∧ zs.drop a.length = y := by subst h; exact ⟨List.take_left, List.drop_left⟩
theorem bpV_least : ∀ (k : Nat) (zs : List Int), Ge0 zs → zs ≠ [] → IsLeast zs (k + 1) (bpV k zs)
  | 0, zs, _, hne => isLeast_one hne
  | k + 1, zs, hz, hne => by
    obtain ⟨g, Hg⟩ : ∃ g : Nat → Int, (fun i => max (bpV k (zs.take i)) (sm (zs.drop i))) = g := ⟨_, rfl⟩
    have hgi : ∀ i, g i = max (bpV k (zs.take i)) (sm (zs.drop i)) := fun i => by rw [← Hg]
    have hv : bpV (k + 1) zs = bpF g (sm zs) (zs.length - 1) := by simp only [bpV, Hg]
    rw [hv]
    have hl : 0 < zs.length := List.length_pos_iff.2 hne
    refine ⟨?_, fun u hu => ?_⟩
    · rcases bpF_is g (sm zs) (zs.length - 1) with e | ⟨i, h1, h2, e⟩
      · rw [e]; exact ⟨_, cut_whole hne, by simp, by simp⟩
      · rw [e, hgi]
        have ht : zs.take i ≠ [] := by intro h; have : (zs.take i).length = 0 := by rw [h]; rfl
                                       rw [List.length_take] at this; omega
        have hd : zs.drop i ≠ [] := by intro h; have : (zs.drop i).length = 0 := by rw [h]; rfl
                                       rw [List.length_drop] at this; omega
        obtain ⟨⟨ds, c1, c2, c3⟩, _⟩ := bpV_least k (zs.take i) (hz.sub fun x hx => List.mem_of_mem_take hx) ht
        have hc := cut_snoc c1 hd
        rw [List.take_append_drop] at hc
        refine ⟨_, hc, by simp; omega, fun d hd' => ?_⟩
        rcases List.mem_append.1 hd' with h | h
        · have := c3 d h; omega
        · simp only [List.mem_singleton] at h; omega
    · obtain ⟨ds, c1, c2, c3⟩ := hu
      have hd : ds ≠ [] := by rintro rfl; exact hne (cut_of_nil c1)
      obtain ⟨ds', s, rfl⟩ := snoc_of hd
      obtain ⟨a, y, hzz, hy, rfl, hc⟩ := cut_last c1
      have hs := c3 (sm y) (by simp)
      have hb := bpF_le g (sm zs) (zs.length - 1)
      by_cases ha : a = []
      · subst ha
        simp only [List.nil_append] at hzz
        have := hb.1
        rw [← hzz] at hs; omega
      · have hla : 0 < a.length := List.length_pos_iff.2 ha
        have hly : 0 < y.length := List.length_pos_iff.2 hy
        have hll : zs.length = a.length + y.length := by rw [hzz, List.length_append]
        have h1 := hb.2 a.length hla (by omega)
        rw [hgi, (part_of hzz).1, (part_of hzz).2] at h1
        have h2 := (bpV_least k a (hz.sub fun x hx => by rw [hzz]; simp [hx]) ha).2 u ⟨ds', hc, by simp at c2; omega, fun d hd => c3 d (by simp [hd])⟩
        omega
theorem isMost_ge0 {zs : List Int} {k : Nat} {v : Int} (hz : Ge0 zs) (h : IsMost zs k v) : 0 ≤ v := by
  obtain ⟨⟨ds, c1, c2, c3⟩, h2⟩ := h
  exact h2 0 ⟨ds, c1, c2, cut_ge0 c1 hz⟩
theorem mlV_most : ∀ (k : Nat) (zs : List Int), Ge0 zs → k + 1 ≤ zs.length → IsMost zs (k + 1) (mlV k zs)
  | 0, zs, _, hl => isMost_one (List.length_pos_iff.1 (by omega))
  | k + 1, zs, hz, hl => by
    obtain ⟨g, Hg⟩ : ∃ g : Nat → Int, (fun i => min (mlV k (zs.take (k + 1 + i))) (sm (zs.drop (k + 1 + i)))) = g := ⟨_, rfl⟩
    have hgi : ∀ i, g i = min (mlV k (zs.take (k + 1 + i))) (sm (zs.drop (k + 1 + i))) := fun i => by rw [← Hg]
    have hv : mlV (k + 1) zs = mlF g (zs.length - (k + 1)) := by simp only [mlV, Hg]
    rw [hv]
    have hI : ∀ i, k + 1 + i ≤ zs.length → IsMost (zs.take (k + 1 + i)) (k + 1) (mlV k (zs.take (k + 1 + i))) := fun i hi =>
      mlV_most k _ (hz.sub fun x hx => List.mem_of_mem_take hx) (by rw [List.length_take]; omega)
    have hg0 : ∀ i, k + 1 + i ≤ zs.length → 0 ≤ g i := fun i hi => by
      rw [hgi]
      have h1 := isMost_ge0 (hz.sub fun x hx => List.mem_of_mem_take hx) (hI i hi)
      have h2 := sm_ge0 (zs := zs.drop (k + 1 + i)) (hz.sub fun x hx => List.mem_of_mem_drop hx)
      omega
    refine ⟨?_, fun u hu => ?_⟩
    · rcases mlF_is g (zs.length - (k + 1)) with e | ⟨i, h1, e⟩
      · have h2 := mlF_ge g (zs.length - (k + 1)) 0 (by omega)
        have h3 := hg0 0 (by omega)
        omega
      · rw [e, hgi]
        obtain ⟨⟨ds, c1, c2, c3⟩, _⟩ := hI i (by omega)
        have hd : zs.drop (k + 1 + i) ≠ [] := by
          intro h
          have : (zs.drop (k + 1 + i)).length = 0 := by rw [h]; rfl
          rw [List.length_drop] at this; omega
        have hc := cut_snoc c1 hd
        rw [List.take_append_drop] at hc
        refine ⟨_, hc, by simp; omega, fun d hd' => ?_⟩
        rcases List.mem_append.1 hd' with h | h
        · have := c3 d h; omega
        · simp only [List.mem_singleton] at h; omega
    · obtain ⟨ds, c1, c2, c3⟩ := hu
      have hd : ds ≠ [] := by rintro rfl; simp at c2
      obtain ⟨ds', s, rfl⟩ := snoc_of hd
      obtain ⟨a, y, hzz, hy, rfl, hc⟩ := cut_last c1
      have hs := c3 (sm y) (by simp)
      have hly : 0 < y.length := List.length_pos_iff.2 hy
      have hll : zs.length = a.length + y.length := by rw [hzz, List.length_append]
      have hca := cut_len hc
      have hds : ds'.length = k + 1 := by simpa using c2
      have h1 := mlF_ge g (zs.length - (k + 1)) (a.length - (k + 1)) (by omega)
      rw [hgi, show k + 1 + (a.length - (k + 1)) = a.length by omega, (part_of hzz).1, (part_of hzz).2] at h1
      have h2 := (mlV_most k a (hz.sub fun x hx => by rw [hzz]; simp [hx]) (by omega)).2 u ⟨ds', hc, hds, fun d hd => c3 d (by simp [hd])⟩
      omega
end Go.Proofs.Ytoappopbjnlbdaa
