/-
  Streets cut into districts, as mathematics: sums of cuts, the greedy cut, the fewest districts.
  Conditions: none beyond what each theorem states.
-/
import Derived.WalkKit
namespace Go.Proofs.Ytoappopbjnlbdaa
open Go.RowKit
set_option linter.unusedVariables false

/-- The sum of numbers. -/
def sm : List Int → Int
  | [] => 0
  | x :: r => x + sm r
theorem sm_app (a b : List Int) : sm (a ++ b) = sm a + sm b := by
  induction a with
  | nil => simp [sm]
  | cons x r ih => simp only [List.cons_append, sm, ih]; omega
theorem sm_one (x : Int) : sm [x] = x := by simp [sm]
theorem sm_rev (a : List Int) : sm a.reverse = sm a := by
  induction a with
  | nil => rfl
  | cons x r ih => rw [List.reverse_cons, sm_app, ih, sm_one]; simp only [sm]; omega
def Ge0 (zs : List Int) : Prop := ∀ x, x ∈ zs → 0 ≤ x
theorem sm_ge0 : ∀ {zs : List Int}, Ge0 zs → 0 ≤ sm zs
  | [], _ => by simp [sm]
  | x :: r, h => by
    have h1 := h x (by simp)
    have h2 := sm_ge0 (zs := r) fun y hy => h y (by simp [hy])
    simp only [sm]; omega
theorem sm_mem : ∀ {zs : List Int}, Ge0 zs → ∀ x, x ∈ zs → x ≤ sm zs
  | [], _, x, hx => by simp at hx
  | y :: r, h, x, hx => by
    have h1 := h y (by simp)
    have hr : Ge0 r := fun z hz => h z (by simp [hz])
    have h2 := sm_ge0 hr
    simp only [sm]
    rcases List.mem_cons.1 hx with rfl | hx
    · omega
    · have := sm_mem hr x hx; omega
theorem Ge0.sub {a b : List Int} (h : Ge0 a) (hs : ∀ x, x ∈ b → x ∈ a) : Ge0 b := fun x hx => h x (hs x hx)
theorem sm_le_mul : ∀ {ds : List Int} {u : Int}, (∀ d, d ∈ ds → d ≤ u) → sm ds ≤ ds.length * u
  | [], u, _ => by simp [sm]
  | x :: r, u, h => by
    have h1 := h x (by simp)
    have h2 := sm_le_mul (ds := r) (u := u) fun d hd => h d (by simp [hd])
    simp only [sm, List.length_cons]
    rw [Int.natCast_add, Int.add_mul]; simp; omega
theorem sm_ge_mul : ∀ {ds : List Int} {u : Int}, (∀ d, d ∈ ds → u ≤ d) → ds.length * u ≤ sm ds
  | [], u, _ => by simp [sm]
  | x :: r, u, h => by
    have h1 := h x (by simp)
    have h2 := sm_ge_mul (ds := r) (u := u) fun d hd => h d (by simp [hd])
    simp only [sm, List.length_cons]
    rw [Int.natCast_add, Int.add_mul]; simp; omega
theorem snoc_ind {P : List Int → Prop} (h0 : P []) (h1 : ∀ z x, P z → P (z ++ [x])) (z : List Int) : P z := by
  have h : ∀ r : List Int, P r.reverse := by
    intro r
    induction r with
    | nil => exact h0
    | cons x r ih => rw [List.reverse_cons]; exact h1 _ _ ih
  have := h z.reverse
  rwa [List.reverse_reverse] at this
theorem snoc_of {α : Type} {l : List α} (h : l ≠ []) : ∃ a x, l = a ++ [x] := ⟨l.dropLast, l.getLast h, (List.dropLast_concat_getLast h).symm⟩

/-- The numbers are the sums of the districts when the streets are cut into districts, none empty. -/
def CutOf (zs ds : List Int) : Prop := ∃ ys : List (List Int), ys.flatten = zs ∧ ys.map sm = ds ∧ ∀ y, y ∈ ys → y ≠ []
theorem cut_nil : CutOf [] [] := ⟨[], rfl, rfl, by simp⟩
theorem cut_snoc {a ds y : List Int} (h : CutOf a ds) (hy : y ≠ []) : CutOf (a ++ y) (ds ++ [sm y]) := by
  obtain ⟨ys, rfl, rfl, hn⟩ := h
  refine ⟨ys ++ [y], by simp, by simp, fun z hz => ?_⟩
  rcases List.mem_append.1 hz with hz | hz
  · exact hn z hz
  · simp at hz; rw [hz]; exact hy
theorem cut_of_nil {z : List Int} (h : CutOf z []) : z = [] := by
  obtain ⟨ys, rfl, h2, hn⟩ := h
  have : ys = [] := by simpa using h2
  subst this; rfl
theorem cut_last {z ds : List Int} {s : Int} (h : CutOf z (ds ++ [s])) : ∃ a y, z = a ++ y ∧ y ≠ [] ∧ s = sm y ∧ CutOf a ds := by
  obtain ⟨ys, rfl, h2, hn⟩ := h
  have hne : ys ≠ [] := by rintro rfl; simp at h2
  obtain ⟨ps, y, rfl⟩ := snoc_of hne
  rw [List.map_append] at h2
  obtain ⟨h3, h4⟩ := List.append_inj' h2 (by simp)
  exact ⟨ps.flatten, y, by simp, hn y (by simp), by simpa using h4.symm, ps, rfl, h3, fun z hz => hn z (by simp [hz])⟩
theorem cut_rev {z ds : List Int} (h : CutOf z ds) : CutOf z.reverse ds.reverse := by
  obtain ⟨ys, rfl, rfl, hn⟩ := h
  refine ⟨(ys.map List.reverse).reverse, by rw [List.reverse_flatten], ?_, fun y hy => ?_⟩
  · rw [List.map_reverse, List.map_map]
    congr 1
    exact List.map_congr_left fun y _ => sm_rev y
  · simp at hy
    obtain ⟨x, hx, rfl⟩ := hy
    simpa using hn x hx
theorem cut_len {z ds : List Int} (h : CutOf z ds) : ds.length ≤ z.length := by
  obtain ⟨ys, rfl, rfl, hn⟩ := h
  rw [List.length_map]
  induction ys with
  | nil => simp
  | cons y r ih =>
    have h1 := ih fun z hz => hn z (by simp [hz])
    have h2 : 0 < y.length := List.length_pos_iff.2 (hn y (by simp))
    simp only [List.length_cons, List.flatten_cons, List.length_append]; omega
theorem cut_sum {z ds : List Int} (h : CutOf z ds) : sm ds = sm z := by
  obtain ⟨ys, rfl, rfl, hn⟩ := h
  clear hn
  induction ys with
  | nil => rfl
  | cons y r ih => simp only [List.map_cons, List.flatten_cons, sm, sm_app, ih]
theorem cut_whole {z : List Int} (h : z ≠ []) : CutOf z [sm z] := by simpa using cut_snoc cut_nil h
theorem cut_grow {z ds : List Int} {s : Int} (h : CutOf z (ds ++ [s])) (x : Int) : CutOf (z ++ [x]) (ds ++ [s + x]) := by
  obtain ⟨a, y, rfl, hy, rfl, hc⟩ := cut_last h
  have := cut_snoc hc (y := y ++ [x]) (by simp)
  rwa [sm_app, sm_one, ← List.append_assoc] at this
theorem cut_more {z ds : List Int} {x : Int} (h : CutOf (z ++ [x]) ds) : ∃ ds' s, ds = ds' ++ [s] ∧ ((CutOf z ds' ∧ s = x) ∨ ∃ t, CutOf z (ds' ++ [t]) ∧ s = t + x) := by
  have hne : ds ≠ [] := by rintro rfl; have := cut_of_nil h; simp at this
  obtain ⟨ds', s, rfl⟩ := snoc_of hne
  obtain ⟨a, y, hz, hy, rfl, hc⟩ := cut_last h
  obtain ⟨y', x', rfl⟩ := snoc_of hy
  rw [← List.append_assoc] at hz
  obtain ⟨h1, h2⟩ := List.append_inj' hz (by simp)
  have h3 : x = x' := by simpa using h2
  subst h3
  refine ⟨ds', _, rfl, ?_⟩
  by_cases e : y' = []
  · subst e
    left
    exact ⟨by rw [h1]; simpa using hc, by simp [sm]⟩
  · right
    exact ⟨sm y', by rw [h1]; exact cut_snoc hc e, by rw [sm_app, sm_one]⟩
theorem cut_ge0 {z ds : List Int} (h : CutOf z ds) (hz : Ge0 z) : Ge0 ds := by
  obtain ⟨ys, rfl, rfl, hn⟩ := h
  intro d hd
  obtain ⟨y, hy, rfl⟩ := List.mem_map.1 hd
  exact sm_ge0 (hz.sub fun x hx => List.mem_flatten.2 ⟨y, hy, hx⟩)
theorem cut_mem {z ds : List Int} (h : CutOf z ds) (hz : Ge0 z) {x : Int} (hx : x ∈ z) : ∃ d, d ∈ ds ∧ x ≤ d := by
  obtain ⟨ys, rfl, rfl, hn⟩ := h
  obtain ⟨y, hy, hxy⟩ := List.mem_flatten.1 hx
  exact ⟨sm y, List.mem_map.2 ⟨y, hy, rfl⟩, sm_mem (hz.sub fun x hx => List.mem_flatten.2 ⟨y, hy, hx⟩) x hxy⟩
theorem cut_all : ∀ z : List Int, CutOf z z := by
  refine snoc_ind cut_nil fun z x ih => ?_
  have := cut_snoc ih (y := [x]) (by simp)
  rwa [sm_one] at this
theorem cut_singles : ∀ (z ds : List Int), CutOf z ds → ds.length = z.length → ds = z := by
  intro z
  refine snoc_ind (P := fun z => ∀ ds : List Int, CutOf z ds → ds.length = z.length → ds = z) ?_ ?_ z
  · intro ds _ hl; simpa using hl
  · intro z x ih ds hc hl
    obtain ⟨ds', s, rfl, ⟨h1, rfl⟩ | ⟨t, h1, rfl⟩⟩ := cut_more hc
    · rw [ih ds' h1 (by simpa using hl)]
    · have := cut_len h1
      simp at hl this; omega
theorem cut_some : ∀ (z : List Int) (k : Nat), 1 ≤ k → k ≤ z.length → ∃ ds, CutOf z ds ∧ ds.length = k := by
  intro z
  refine snoc_ind (P := fun z => ∀ k : Nat, 1 ≤ k → k ≤ z.length → ∃ ds, CutOf z ds ∧ ds.length = k) ?_ ?_ z
  · intro k h1 h2; simp at h2; omega
  · intro z x ih k h1 h2
    rw [List.length_append] at h2
    by_cases e : k ≤ z.length
    · obtain ⟨ds, hc, hl⟩ := ih k h1 e
      have hne : ds ≠ [] := by rintro rfl; simp at hl; omega
      obtain ⟨ds', s, rfl⟩ := snoc_of hne
      exact ⟨_, cut_grow hc x, by simpa using hl⟩
    · have : k = z.length + 1 := by simp at h2; omega
      exact ⟨z ++ [x], cut_all _, by simp [this]⟩
theorem long_one : ∀ (ys : List (List Int)), (∀ y, y ∈ ys → y ≠ []) → ys.length < ys.flatten.length → ∃ p x y q, ys = p ++ (x :: y) :: q ∧ y ≠ []
  | [], _, h => by simp at h
  | y :: r, hn, h => by
    have hy := hn y (by simp)
    cases y with
    | nil => exact absurd rfl hy
    | cons x y =>
      by_cases e : y = []
      · subst e
        obtain ⟨p, x', y', q, h1, h2⟩ := long_one r (fun z hz => hn z (by simp [hz])) (by rw [List.flatten_cons, List.length_append] at h; simp only [List.length_cons, List.length_nil] at h; omega)
        exact ⟨[x] :: p, x', y', q, by rw [h1]; rfl, h2⟩
      · exact ⟨[], x, y, r, rfl, e⟩
/-- A district that is cut in two leaves none that is greater. -/
theorem cut_split {z ds : List Int} {u : Int} (hz : Ge0 z) (h : CutOf z ds) (hl : ds.length < z.length) (hu : ∀ d, d ∈ ds → d ≤ u) : ∃ ds', CutOf z ds' ∧ ds'.length = ds.length + 1 ∧ ∀ d, d ∈ ds' → d ≤ u := by
  obtain ⟨ys, rfl, rfl, hn⟩ := h
  rw [List.length_map] at hl
  obtain ⟨p, x, y, q, rfl, hy⟩ := long_one ys hn hl
  have hxy : Ge0 (x :: y) := hz.sub fun v hv => List.mem_flatten.2 ⟨x :: y, by simp, hv⟩
  have hx := hxy x (by simp)
  have hsy := sm_ge0 (zs := y) fun v hv => hxy v (by simp [hv])
  have hb := hu (sm (x :: y)) (List.mem_map.2 ⟨_, by simp, rfl⟩)
  simp only [sm] at hb
  refine ⟨(p ++ [x] :: y :: q).map sm, ⟨p ++ [x] :: y :: q, by simp, rfl, fun v hv => ?_⟩, by simp; omega, fun d hd => ?_⟩
  · rcases List.mem_append.1 hv with hv | hv
    · exact hn v (by simp [hv])
    · rcases List.mem_cons.1 hv with rfl | hv
      · simp
      · rcases List.mem_cons.1 hv with rfl | hv
        · exact hy
        · exact hn v (by simp [hv])
  · obtain ⟨v, hv, rfl⟩ := List.mem_map.1 hd
    rcases List.mem_append.1 hv with hv | hv
    · exact hu _ (List.mem_map.2 ⟨v, by simp [hv], rfl⟩)
    · rcases List.mem_cons.1 hv with rfl | hv
      · rw [sm_one]; omega
      · rcases List.mem_cons.1 hv with rfl | hv
        · omega
        · exact hu _ (List.mem_map.2 ⟨v, by simp [hv], rfl⟩)
theorem cut_exact {z ds : List Int} {u : Int} (hz : Ge0 z) (h : CutOf z ds) (hu : ∀ d, d ∈ ds → d ≤ u) : ∀ j : Nat, ds.length + j ≤ z.length → ∃ ds', CutOf z ds' ∧ ds'.length = ds.length + j ∧ ∀ d, d ∈ ds' → d ≤ u
  | 0, _ => ⟨ds, h, rfl, hu⟩
  | j + 1, hj => by
    obtain ⟨ds', h1, h2, h3⟩ := cut_exact hz h hu j (by omega)
    obtain ⟨ds'', h4, h5, h6⟩ := cut_split hz h1 (by omega) h3
    exact ⟨ds'', h4, by omega, h6⟩

/-- Cut into at most k districts of at most u people; into k of at least u. -/
def LeK (zs : List Int) (k : Nat) (u : Int) : Prop := ∃ ds, CutOf zs ds ∧ ds.length ≤ k ∧ ∀ d, d ∈ ds → d ≤ u
def GeK (zs : List Int) (k : Nat) (u : Int) : Prop := ∃ ds, CutOf zs ds ∧ ds.length = k ∧ ∀ d, d ∈ ds → u ≤ d
def IsLeast (zs : List Int) (k : Nat) (v : Int) : Prop := LeK zs k v ∧ ∀ u, LeK zs k u → v ≤ u
def IsMost (zs : List Int) (k : Nat) (v : Int) : Prop := GeK zs k v ∧ ∀ u, GeK zs k u → u ≤ v
theorem IsLeast.eq {zs : List Int} {k : Nat} {v u : Int} (h : IsLeast zs k v) (g : IsLeast zs k u) : v = u := by
  have := h.2 u g.1; have := g.2 v h.1; omega
theorem IsMost.eq {zs : List Int} {k : Nat} {v u : Int} (h : IsMost zs k v) (g : IsMost zs k u) : v = u := by
  have := h.2 u g.1; have := g.2 v h.1; omega
theorem leK_rev {zs : List Int} {k : Nat} {u : Int} (h : LeK zs k u) : LeK zs.reverse k u := by
  obtain ⟨ds, h1, h2, h3⟩ := h
  exact ⟨ds.reverse, cut_rev h1, by simpa using h2, fun d hd => h3 d (by simpa using hd)⟩
theorem geK_rev {zs : List Int} {k : Nat} {u : Int} (h : GeK zs k u) : GeK zs.reverse k u := by
  obtain ⟨ds, h1, h2, h3⟩ := h
  exact ⟨ds.reverse, cut_rev h1, by simpa using h2, fun d hd => h3 d (by simpa using hd)⟩
theorem isLeast_rev {zs : List Int} {k : Nat} {v : Int} (h : IsLeast zs k v) : IsLeast zs.reverse k v :=
  ⟨leK_rev h.1, fun u hu => h.2 u (by simpa using leK_rev hu)⟩
theorem isMost_rev {zs : List Int} {k : Nat} {v : Int} (h : IsMost zs k v) : IsMost zs.reverse k v :=
  ⟨geK_rev h.1, fun u hu => h.2 u (by simpa using geK_rev hu)⟩
theorem leK_mono {zs : List Int} {k : Nat} {u v : Int} (h : LeK zs k u) (huv : u ≤ v) : LeK zs k v := by
  obtain ⟨ds, h1, h2, h3⟩ := h
  exact ⟨ds, h1, h2, fun d hd => by have := h3 d hd; omega⟩
theorem leK_street {zs : List Int} {k : Nat} {u : Int} (hz : Ge0 zs) (h : LeK zs k u) : ∀ x, x ∈ zs → x ≤ u := by
  obtain ⟨ds, h1, h2, h3⟩ := h
  intro x hx
  obtain ⟨d, hd, hxd⟩ := cut_mem h1 hz hx
  have := h3 d hd; omega
theorem leK_pos {zs : List Int} {k : Nat} {u : Int} (hz : Ge0 zs) (hne : zs ≠ []) (h : LeK zs k u) : 0 ≤ u := by
  cases zs with
  | nil => exact absurd rfl hne
  | cons x r => have h1 := leK_street hz h x (by simp); have h2 := hz x (by simp); omega
theorem leK_total {zs : List Int} {k : Nat} {u : Int} (hz : Ge0 zs) (hne : zs ≠ []) (h : LeK zs k u) : sm zs ≤ k * u := by
  have h0 := leK_pos hz hne h
  obtain ⟨ds, h1, h2, h3⟩ := h
  have := sm_le_mul h3
  rw [cut_sum h1] at this
  have h4 : (ds.length : Int) * u ≤ (k : Int) * u := Int.mul_le_mul_of_nonneg_right (by omega) h0
  omega
theorem geK_total {zs : List Int} {k : Nat} {u : Int} (h : GeK zs k u) : k * u ≤ sm zs := by
  obtain ⟨ds, h1, h2, h3⟩ := h
  have := sm_ge_mul h3
  rw [cut_sum h1, h2] at this
  exact this
/-- The greatest least one is at most the least greatest one. -/
theorem geK_le_leK {zs : List Int} {k : Nat} {u v : Int} (hz : Ge0 zs) (hne : zs ≠ []) (hk : 1 ≤ k) (h : GeK zs k u) (g : LeK zs k v) : u ≤ v := by
  have h1 := geK_total h
  have h2 := leK_total hz hne g
  by_cases e : u ≤ v
  · exact e
  · have : (k : Int) * v < (k : Int) * u := Int.mul_lt_mul_of_pos_left (by omega) (by omega)
    omega
theorem isLeast_one {zs : List Int} (hne : zs ≠ []) : IsLeast zs 1 (sm zs) := by
  refine ⟨⟨_, cut_whole hne, by simp, by simp⟩, fun u hu => ?_⟩
  obtain ⟨ds, h1, h2, h3⟩ := hu
  have hd : ds ≠ [] := by rintro rfl; exact hne (cut_of_nil h1)
  obtain ⟨a, x, rfl⟩ := snoc_of hd
  have ha : a = [] := by
    have : a.length = 0 := by rw [List.length_append] at h2; simp only [List.length_singleton] at h2; omega
    exact List.length_eq_zero_iff.1 this
  subst ha
  have := cut_sum h1
  simp [sm] at this
  have := h3 x (by simp)
  omega
theorem isMost_one {zs : List Int} (hne : zs ≠ []) : IsMost zs 1 (sm zs) := by
  refine ⟨⟨_, cut_whole hne, by simp, by simp⟩, fun u hu => ?_⟩
  have := geK_total hu
  simpa using this
theorem isLeast_all {zs : List Int} {v : Int} (hz : Ge0 zs) (hv : v ∈ zs) (hm : ∀ x, x ∈ zs → x ≤ v) : IsLeast zs zs.length v :=
  ⟨⟨zs, cut_all zs, Nat.le_refl _, hm⟩, fun u hu => leK_street hz hu v hv⟩
theorem isMost_all {zs : List Int} {v : Int} (hv : v ∈ zs) (hm : ∀ x, x ∈ zs → v ≤ x) : IsMost zs zs.length v := by
  refine ⟨⟨zs, cut_all zs, rfl, hm⟩, fun u hu => ?_⟩
  obtain ⟨ds, h1, h2, h3⟩ := hu
  have := cut_singles _ _ h1 h2
  subst this
  exact h3 v hv

/-- The greedy cut, street by street: how many people in the last district; where the ones behind the first begin. -/
def nwT (m : Int) (zs : List Int) : Nat → Int
  | 0 => 0
  | k + 1 => if m < nwT m zs k + zs.getD k 0 then zs.getD k 0 else nwT m zs k + zs.getD k 0
def ctT (m : Int) (zs : List Int) : Nat → List Int
  | 0 => []
  | k + 1 => if m < nwT m zs k + zs.getD k 0 then ctT m zs k ++ [(k : Int)] else ctT m zs k
theorem nwT_cut {m : Int} {zs : List Int} {k : Nat} (h : m < nwT m zs k + zs.getD k 0) : nwT m zs (k + 1) = zs.getD k 0 := by simp only [nwT]; rw [if_pos h]
theorem nwT_go {m : Int} {zs : List Int} {k : Nat} (h : ¬ m < nwT m zs k + zs.getD k 0) : nwT m zs (k + 1) = nwT m zs k + zs.getD k 0 := by simp only [nwT]; rw [if_neg h]
theorem ctT_cut {m : Int} {zs : List Int} {k : Nat} (h : m < nwT m zs k + zs.getD k 0) : ctT m zs (k + 1) = ctT m zs k ++ [(k : Int)] := by simp only [ctT]; rw [if_pos h]
theorem ctT_go {m : Int} {zs : List Int} {k : Nat} (h : ¬ m < nwT m zs k + zs.getD k 0) : ctT m zs (k + 1) = ctT m zs k := by simp only [ctT]; rw [if_neg h]
theorem ctT_len (m : Int) (zs : List Int) : ∀ k, (ctT m zs k).length ≤ k
  | 0 => by simp [ctT]
  | k + 1 => by
    have := ctT_len m zs k
    by_cases h : m < nwT m zs k + zs.getD k 0
    · rw [ctT_cut h]; simp; omega
    · rw [ctT_go h]; omega
theorem take_snoc {zs : List Int} {k : Nat} (h : k < zs.length) : zs.take (k + 1) = zs.take k ++ [zs.getD k 0] := by
  rw [List.take_add_one, List.getElem?_eq_getElem h]
  simp [List.getD, List.getElem?_eq_getElem h]
theorem getD_mem {zs : List Int} {k : Nat} (h : k < zs.length) : zs.getD k 0 ∈ zs := by
  simp only [List.getD, List.getElem?_eq_getElem h, Option.getD_some]; exact List.getElem_mem h
theorem nwT_le {m : Int} {zs : List Int} (h0 : 0 ≤ m) (hm : ∀ x, x ∈ zs → x ≤ m) : ∀ k, k ≤ zs.length → nwT m zs k ≤ m
  | 0, _ => by simp only [nwT]; exact h0
  | k + 1, hk => by
    by_cases h : m < nwT m zs k + zs.getD k 0
    · rw [nwT_cut h]; exact hm _ (getD_mem (by omega))
    · rw [nwT_go h]; omega
theorem nwT_ge0 {m : Int} {zs : List Int} (hz : Ge0 zs) : ∀ k, k ≤ zs.length → 0 ≤ nwT m zs k
  | 0, _ => by simp [nwT]
  | k + 1, hk => by
    have h1 := nwT_ge0 (m := m) hz k (by omega)
    have h2 := hz _ (getD_mem (zs := zs) (k := k) (by omega))
    by_cases h : m < nwT m zs k + zs.getD k 0
    · rw [nwT_cut h]; exact h2
    · rw [nwT_go h]; omega
/-- No cut has fewer districts than the greedy one; one with as many has as many people at least in the last. -/
theorem few_lower {m : Int} {zs : List Int} (hz : Ge0 zs) : ∀ k, k ≤ zs.length → 1 ≤ k → ∀ ds s, CutOf (zs.take k) (ds ++ [s]) → (∀ d, d ∈ ds ++ [s] → d ≤ m) →
    (ctT m zs k).length ≤ ds.length ∧ (ds.length = (ctT m zs k).length → nwT m zs k ≤ s)
  | 0, _, h, _, _, _, _ => by omega
  | k + 1, hk, _, ds, s, hc, hd => by
    rw [take_snoc (by omega)] at hc
    obtain ⟨ds', s', he, hcase⟩ := cut_more hc
    obtain ⟨rfl, h2⟩ := List.append_inj' he (by simp)
    have h3 : s = s' := by simpa using h2
    subst h3
    have hs := hd s (by simp)
    have hx := hz _ (getD_mem (zs := zs) (k := k) (by omega))
    rcases hcase with ⟨hca, rfl⟩ | ⟨t, hcb, rfl⟩
    · by_cases e : k = 0
      · subst e
        have : ¬ m < nwT m zs 0 + zs.getD 0 0 := by simp only [nwT]; omega
        rw [ctT_go this, nwT_go this]
        simp [ctT, nwT]
      · have hne : ds ≠ [] := by
          rintro rfl
          have := cut_of_nil hca
          have h4 : (zs.take k).length = 0 := by rw [this]; rfl
          rw [List.length_take] at h4; omega
        obtain ⟨ds0, s0, rfl⟩ := snoc_of hne
        have hI := few_lower hz k (by omega) (by omega) ds0 s0 hca (fun d h => hd d (by simp at h ⊢; rcases h with h | h <;> simp [h]))
        by_cases h : m < nwT m zs k + zs.getD k 0
        · rw [ctT_cut h, nwT_cut h]
          simp only [List.length_append, List.length_singleton]
          omega
        · rw [ctT_go h, nwT_go h]
          simp only [List.length_append, List.length_singleton]
          omega
    · have hk0 : 1 ≤ k := by
        rcases Nat.eq_zero_or_pos k with rfl | h
        · have := cut_len hcb; simp at this
        · exact h
      have hI := few_lower hz k (by omega) hk0 ds t hcb (fun d h => by
        rcases List.mem_append.1 h with h | h
        · exact hd d (by simp [h])
        · simp at h; subst h; omega)
      have ht : 0 ≤ t := cut_ge0 hcb (hz.sub fun x hx => List.mem_of_mem_take hx) t (by simp)
      by_cases h : m < nwT m zs k + zs.getD k 0
      · rw [ctT_cut h, nwT_cut h]
        simp only [List.length_append, List.length_singleton]
        omega
      · rw [ctT_go h, nwT_go h]
        omega
theorem few_made {m : Int} {zs : List Int} (h0 : 0 ≤ m) (hm : ∀ x, x ∈ zs → x ≤ m) : ∀ k, k + 1 ≤ zs.length → ∃ ds, CutOf (zs.take (k + 1)) (ds ++ [nwT m zs (k + 1)]) ∧ ds.length = (ctT m zs (k + 1)).length ∧ ∀ d, d ∈ ds ++ [nwT m zs (k + 1)] → d ≤ m
  | 0, hk => by
    have hx := hm _ (getD_mem (zs := zs) (k := 0) (by omega))
    have h : ¬ m < nwT m zs 0 + zs.getD 0 0 := by simp only [nwT]; omega
    rw [take_snoc (by omega), nwT_go h, ctT_go h]
    refine ⟨[], ?_, rfl, fun d hd => ?_⟩
    · have := cut_all [zs.getD 0 0]
      simpa [nwT] using this
    · simp only [nwT] at hd; simp at hd; simp at hx; omega
  | k + 1, hk => by
    obtain ⟨ds, hc, hl, hd⟩ := few_made h0 hm k (by omega)
    have hx := hm _ (getD_mem (zs := zs) (k := k + 1) (by omega))
    rw [take_snoc (k := k + 1) (by omega)]
    by_cases h : m < nwT m zs (k + 1) + zs.getD (k + 1) 0
    · rw [nwT_cut h, ctT_cut h]
      refine ⟨ds ++ [nwT m zs (k + 1)], ?_, by simp [hl], fun d hd' => ?_⟩
      · have := cut_snoc hc (y := [zs.getD (k + 1) 0]) (by simp)
        rwa [sm_one] at this
      · rcases List.mem_append.1 hd' with h' | h'
        · exact hd d h'
        · simp only [List.mem_singleton] at h'; rw [h']; exact hx
    · rw [nwT_go h, ctT_go h]
      refine ⟨ds, cut_grow hc _, hl, fun d hd' => ?_⟩
      rcases List.mem_append.1 hd' with h' | h'
      · exact hd d (by simp [h'])
      · simp only [List.mem_singleton] at h'; rw [h']; omega
/-- How many districts there are at least. -/
def fwV (zs : List Int) (m : Int) : Int := if ∀ x, x ∈ zs → x ≤ m then ((ctT m zs zs.length).length : Int) + 1 else -1
theorem leK_iff {zs : List Int} {k : Nat} {u : Int} (hz : Ge0 zs) (hne : zs ≠ []) : LeK zs k u ↔ (∀ x, x ∈ zs → x ≤ u) ∧ (ctT u zs zs.length).length + 1 ≤ k := by
  have hl : 0 < zs.length := List.length_pos_iff.2 hne
  constructor
  · intro h
    refine ⟨leK_street hz h, ?_⟩
    obtain ⟨ds, h1, h2, h3⟩ := h
    have hd : ds ≠ [] := by rintro rfl; exact hne (cut_of_nil h1)
    obtain ⟨ds', s, rfl⟩ := snoc_of hd
    have := few_lower (m := u) hz zs.length (Nat.le_refl _) hl ds' s (by rwa [List.take_length]) h3
    simp at h2; omega
  · rintro ⟨h1, h2⟩
    obtain ⟨n, hn⟩ : ∃ n, zs.length = n + 1 := ⟨zs.length - 1, by omega⟩
    have h0 : 0 ≤ u := by
      have h3 := h1 _ (getD_mem (zs := zs) (k := 0) hl)
      have h4 := hz _ (getD_mem (zs := zs) (k := 0) hl)
      omega
    obtain ⟨ds, hc, hl', hd⟩ := few_made h0 h1 n (by omega)
    rw [← hn, List.take_length] at hc
    exact ⟨_, hc, by rw [hn] at h2; simp only [List.length_append, List.length_singleton]; omega, by rwa [hn]⟩
theorem fw_leK {zs : List Int} {k : Nat} {u : Int} (hz : Ge0 zs) (hne : zs ≠ []) : LeK zs k u ↔ 0 ≤ fwV zs u ∧ fwV zs u ≤ k := by
  rw [leK_iff hz hne]
  unfold fwV
  by_cases h : ∀ x, x ∈ zs → x ≤ u
  · rw [if_pos h]; constructor
    · intro ⟨_, g⟩; omega
    · intro ⟨_, g⟩; exact ⟨h, by omega⟩
  · rw [if_neg h]; constructor
    · intro ⟨g, _⟩; exact absurd g h
    · intro ⟨g, _⟩; omega
theorem fwV_rev {zs : List Int} {m : Int} (hz : Ge0 zs) (hne : zs ≠ []) : fwV zs.reverse m = fwV zs m := by
  have hz' : Ge0 zs.reverse := hz.sub fun x hx => by simpa using hx
  have hne' : zs.reverse ≠ [] := by simpa using hne
  have hall : (∀ x, x ∈ zs.reverse → x ≤ m) ↔ ∀ x, x ∈ zs → x ≤ m := by simp
  have hiff : ∀ k : Nat, (0 ≤ fwV zs.reverse m ∧ fwV zs.reverse m ≤ k) ↔ (0 ≤ fwV zs m ∧ fwV zs m ≤ k) := fun k => by
    rw [← fw_leK hz' hne', ← fw_leK hz hne]
    exact ⟨fun h => by simpa using leK_rev h, leK_rev⟩
  by_cases h : ∀ x, x ∈ zs → x ≤ m
  · have e1 : fwV zs m = ((ctT m zs zs.length).length : Int) + 1 := by unfold fwV; rw [if_pos h]
    have e2 : fwV zs.reverse m = ((ctT m zs.reverse zs.reverse.length).length : Int) + 1 := by unfold fwV; rw [if_pos (hall.2 h)]
    have h1 := (hiff ((ctT m zs zs.length).length + 1)).2 (by rw [e1]; omega)
    have h2 := (hiff ((ctT m zs.reverse zs.reverse.length).length + 1)).1 (by rw [e2]; omega)
    rw [e2] at h1 ⊢; rw [e1] at h2 ⊢; omega
  · unfold fwV; rw [if_neg h, if_neg (fun g => h (hall.1 g))]
theorem fwV_mono {zs : List Int} {m : Int} (hz : Ge0 zs) (hne : zs ≠ []) (h : 0 ≤ fwV zs m) : fwV zs (m + 1) ≤ fwV zs m := by
  obtain ⟨k, hk⟩ := Int.eq_ofNat_of_zero_le h
  have h1 : LeK zs k m := (fw_leK hz hne).2 ⟨h, by omega⟩
  have h2 := (fw_leK hz hne).1 (leK_mono h1 (show m ≤ m + 1 by omega))
  omega
end Go.Proofs.Ytoappopbjnlbdaa
