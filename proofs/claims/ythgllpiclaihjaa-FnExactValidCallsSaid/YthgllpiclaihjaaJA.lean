/-
  Two helpers go to calls on a line: the mathematics of the ways. Who knows goes least, who goes greedily goes no less, and both go at most twice as far.
  Conditions: as each theorem states.
-/
import Derived.Test.YthgllpiclaihjaaGP
namespace Go.Proofs.Ythgllpiclaihjaa
set_option linter.unusedVariables false

theorem gapI_tri (a b c : Int) : gapI a c ≤ gapI a b + gapI b c := by unfold gapI; split <;> split <;> split <;> omega
theorem gapI_comm (a b : Int) : gapI a b = gapI b a := by unfold gapI; split <;> split <;> omega
theorem gapI_self (a : Int) : gapI a a = 0 := by unfold gapI; split <;> omega
theorem gapI_mirr50 (x p : Int) : gapI (50 - x) (50 - p) = gapI x p := by unfold gapI; split <;> split <;> omega
theorem gapI_in50 {a b : Int} (h1 : 0 ≤ a) (h2 : a ≤ 50) (h3 : 0 ≤ b) (h4 : b ≤ 50) : gapI a b ≤ 50 := by unfold gapI; split <;> omega

/-- The least way to all calls, and what is left at their end. -/
def lwF (f : Int → Int → Int) : Int → Int → List Int → Int
  | a, b, [] => f a b
  | a, b, c :: r => min (gapI a c + lwF f c b r) (gapI b c + lwF f a c r)
/-- The same with the lower place first always. -/
def dwF (g : Int → Int → Int) : Int → Int → List Int → Int
  | a, b, [] => g a b
  | a, b, c :: r => min (gapI a c + dwF g (min c b) (max c b) r) (gapI b c + dwF g (min a c) (max a c) r)
/-- The way of the nearer one. -/
def gwF : Int → Int → List Int → Int
  | _, _, [] => 0
  | a, b, c :: r => if gapI a c ≤ gapI b c then gapI a c + gwF (min c b) (max c b) r else gapI b c + gwF (min a c) (max a c) r
/-- Where both stand, and how far they went, behind a call. -/
def bthL (a b c : Int) : Int := if c ≤ a then c else if b ≤ c then a else a + min (c - a) (b - c)
def bthH (a b c : Int) : Int := if c ≤ a then b else if b ≤ c then c else b - min (c - a) (b - c)
def bthW (a b c : Int) : Int := if c ≤ a then a - c else if b ≤ c then c - b else 2 * min (c - a) (b - c)
def bwF : Int → Int → List Int → Int
  | _, _, [] => 0
  | a, b, c :: r => bthW a b c + bwF (bthL a b c) (bthH a b c) r
def beL : Int → Int → List Int → Int
  | a, _, [] => a
  | a, b, c :: r => beL (bthL a b c) (bthH a b c) r
def beH : Int → Int → List Int → Int
  | _, b, [] => b
  | a, b, c :: r => beH (bthL a b c) (bthH a b c) r

/-- What is left is no more than what is left elsewhere, and the way there. -/
def Lip (f : Int → Int → Int) : Prop := ∀ a b a' b', f a b ≤ gapI a a' + gapI b b' + f a' b'
def Sym2 (f : Int → Int → Int) : Prop := ∀ a b, f a b = f b a
theorem lw_lip {f : Int → Int → Int} (hf : Lip f) : ∀ (r : List Int) (a b a' b' : Int), lwF f a b r ≤ gapI a a' + gapI b b' + lwF f a' b' r
  | [], a, b, a', b' => hf a b a' b'
  | c :: r, a, b, a', b' => by
    have h1 := lw_lip hf r c b c b'
    have h2 := lw_lip hf r a c a' c
    have h3 := gapI_tri a a' c
    have h4 := gapI_tri b b' c
    rw [gapI_self] at h1 h2
    simp only [lwF]
    omega
theorem lw_sym {f : Int → Int → Int} (hf : Sym2 f) : ∀ (r : List Int) (a b : Int), lwF f a b r = lwF f b a r
  | [], a, b => hf a b
  | c :: r, a, b => by
    have h1 := lw_sym hf r c b
    have h2 := lw_sym hf r a c
    simp only [lwF]
    omega
theorem lw_sort {f : Int → Int → Int} (hf : Sym2 f) (r : List Int) (a b : Int) : lwF f (min a b) (max a b) r = lwF f a b r := by
  by_cases h : a ≤ b
  · rw [Int.min_eq_left h, Int.max_eq_right h]
  · rw [Int.min_eq_right (by omega), Int.max_eq_left (by omega)]; exact lw_sym hf r b a
theorem dw_lw {f g : Int → Int → Int} (hf : Sym2 f) (hg : ∀ a b, a ≤ b → g a b = f a b) : ∀ (r : List Int) (a b : Int), a ≤ b → dwF g a b r = lwF f a b r
  | [], a, b, h => hg a b h
  | c :: r, a, b, h => by
    simp only [dwF, lwF]
    rw [dw_lw hf hg r _ _ (by omega), dw_lw hf hg r _ _ (by omega), lw_sort hf, lw_sort hf]
theorem lw_mono {f g : Int → Int → Int} (h : ∀ a b, f a b ≤ g a b) : ∀ (r : List Int) (a b : Int), lwF f a b r ≤ lwF g a b r
  | [], a, b => h a b
  | c :: r, a, b => by
    have h1 := lw_mono h r c b
    have h2 := lw_mono h r a c
    simp only [lwF]
    omega
def zr2 : Int → Int → Int := fun _ _ => 0
theorem zr2_lip : Lip zr2 := fun a b a' b' => by
  have h1 := gapI_nonneg a a'
  have h2 := gapI_nonneg b b'
  simp only [zr2]; omega
theorem zr2_sym : Sym2 zr2 := fun _ _ => rfl
theorem lw_nonneg {f : Int → Int → Int} (h : ∀ a b, 0 ≤ f a b) : ∀ (r : List Int) (a b : Int), 0 ≤ lwF f a b r
  | [], a, b => h a b
  | c :: r, a, b => by
    have h1 := lw_nonneg h r c b
    have h2 := lw_nonneg h r a c
    have h3 := gapI_nonneg a c
    have h4 := gapI_nonneg b c
    simp only [lwF]
    omega
/-- Places on the line. -/
def On50 (r : List Int) : Prop := ∀ x ∈ r, 0 ≤ x ∧ x ≤ 50
theorem On50.tail {c : Int} {r : List Int} (h : On50 (c :: r)) : On50 r := fun x hx => h x (by simp [hx])
theorem On50.head {c : Int} {r : List Int} (h : On50 (c :: r)) : 0 ≤ c ∧ c ≤ 50 := h c (by simp)
theorem lw_bd {f : Int → Int → Int} {M : Int} (hf : ∀ a b, 0 ≤ a → a ≤ 50 → 0 ≤ b → b ≤ 50 → 0 ≤ f a b ∧ f a b ≤ M) : ∀ (r : List Int) (a b : Int), On50 r → 0 ≤ a → a ≤ 50 → 0 ≤ b → b ≤ 50 → 0 ≤ lwF f a b r ∧ lwF f a b r ≤ M + 50 * r.length
  | [], a, b, _, ha, ha', hb, hb' => by
    have := hf a b ha ha' hb hb'
    simp only [lwF, List.length_nil]; omega
  | c :: r, a, b, h, ha, ha', hb, hb' => by
    obtain ⟨hc, hc'⟩ := h.head
    have h1 := lw_bd hf r c b h.tail hc hc' hb hb'
    have h2 := lw_bd hf r a c h.tail ha ha' hc hc'
    have h3 := gapI_nonneg a c
    have h4 := gapI_nonneg b c
    have h5 := gapI_in50 ha ha' hc hc'
    have h6 := gapI_in50 hb hb' hc hc'
    simp only [lwF, List.length_cons]
    omega
theorem dw_bd {f : Int → Int → Int} {M : Int} (hf : ∀ a b, 0 ≤ a → a ≤ 50 → 0 ≤ b → b ≤ 50 → 0 ≤ f a b ∧ f a b ≤ M) : ∀ (r : List Int) (a b : Int), On50 r → 0 ≤ a → a ≤ 50 → 0 ≤ b → b ≤ 50 → 0 ≤ dwF f a b r ∧ dwF f a b r ≤ M + 50 * r.length
  | [], a, b, _, ha, ha', hb, hb' => by
    have := hf a b ha ha' hb hb'
    simp only [dwF, List.length_nil]; omega
  | c :: r, a, b, h, ha, ha', hb, hb' => by
    obtain ⟨hc, hc'⟩ := h.head
    have h1 := dw_bd hf r (min c b) (max c b) h.tail (by omega) (by omega) (by omega) (by omega)
    have h2 := dw_bd hf r (min a c) (max a c) h.tail (by omega) (by omega) (by omega) (by omega)
    have h3 := gapI_nonneg a c
    have h4 := gapI_nonneg b c
    have h5 := gapI_in50 ha ha' hc hc'
    have h6 := gapI_in50 hb hb' hc hc'
    simp only [dwF, List.length_cons]
    omega
/-- With fewer calls the way is no greater. -/
theorem lw_take : ∀ (r : List Int) (k : Nat) (a b : Int), lwF zr2 a b (r.take k) ≤ lwF zr2 a b r
  | r, 0, a, b => by
    have := lw_nonneg (f := zr2) (fun _ _ => Int.le_refl _) r a b
    rw [List.take_zero]
    simpa [lwF, zr2] using this
  | [], k + 1, a, b => by simp
  | c :: r, k + 1, a, b => by
    have h1 := lw_take r k c b
    have h2 := lw_take r k a c
    rw [List.take_succ_cons]
    simp only [lwF]
    omega
/-- Who knows goes no farther than who goes greedily. -/
theorem lw_gw : ∀ (r : List Int) (a b : Int), lwF zr2 a b r ≤ gwF a b r
  | [], a, b => by simp [lwF, gwF, zr2]
  | c :: r, a, b => by
    have h1 := lw_gw r (min c b) (max c b)
    have h2 := lw_gw r (min a c) (max a c)
    rw [lw_sort zr2_sym] at h1 h2
    simp only [lwF, gwF]
    split <;> omega
theorem gw_one (a b : Int) : ∀ r : List Int, r.length ≤ 1 → gwF a b r = lwF zr2 a b r
  | [], _ => by simp [lwF, gwF, zr2]
  | [c], _ => by
    simp only [lwF, gwF, zr2]
    split <;> omega
  | _ :: _ :: _, h => by simp at h
theorem gw_bd : ∀ (r : List Int) (a b : Int), On50 r → 0 ≤ a → a ≤ 50 → 0 ≤ b → b ≤ 50 → 0 ≤ gwF a b r ∧ gwF a b r ≤ 50 * r.length
  | [], a, b, _, _, _, _, _ => by simp [gwF]
  | c :: r, a, b, h, ha, ha', hb, hb' => by
    obtain ⟨hc, hc'⟩ := h.head
    have h1 := gw_bd r (min c b) (max c b) h.tail (by omega) (by omega) (by omega) (by omega)
    have h2 := gw_bd r (min a c) (max a c) h.tail (by omega) (by omega) (by omega) (by omega)
    have h3 := gapI_nonneg a c
    have h4 := gapI_nonneg b c
    have h5 := gapI_in50 ha ha' hc hc'
    have h6 := gapI_in50 hb hb' hc hc'
    simp only [gwF, List.length_cons]
    split <;> omega

/-- Behind a call both stand in order, on the line, and one of them at the call. -/
theorem bth_in {a b c : Int} (h : a ≤ b) : bthL a b c ≤ bthH a b c ∧ (bthL a b c = c ∨ bthH a b c = c) := by
  unfold bthL bthH
  split
  · omega
  · split <;> omega
theorem bth_bd {a b c : Int} (ha : 0 ≤ a) (h : a ≤ b) (hb : b ≤ 50) (hc : 0 ≤ c) (hc' : c ≤ 50) : 0 ≤ bthL a b c ∧ bthH a b c ≤ 50 ∧ 0 ≤ bthW a b c ∧ bthW a b c ≤ 50 := by
  unfold bthL bthH bthW
  split
  · omega
  · split <;> omega
theorem be_in : ∀ (r : List Int) (a b : Int), a ≤ b → beL a b r ≤ beH a b r
  | [], a, b, h => h
  | c :: r, a, b, h => be_in r _ _ (bth_in h).1
theorem be_bd : ∀ (r : List Int) (a b : Int), On50 r → 0 ≤ a → a ≤ b → b ≤ 50 → 0 ≤ beL a b r ∧ beH a b r ≤ 50
  | [], a, b, _, ha, h, hb => ⟨ha, hb⟩
  | c :: r, a, b, h, ha, hab, hb => by
    obtain ⟨hc, hc'⟩ := h.head
    have h1 := bth_bd ha hab hb hc hc'
    exact be_bd r _ _ h.tail h1.1 (bth_in hab).1 h1.2.1
theorem be_last : ∀ (r : List Int) (a b z : Int), a ≤ b → beL a b (r ++ [z]) = z ∨ beH a b (r ++ [z]) = z
  | [], a, b, z, h => (bth_in h).2
  | c :: r, a, b, z, h => be_last r _ _ z (bth_in h).1
theorem bw_bd : ∀ (r : List Int) (a b : Int), On50 r → 0 ≤ a → a ≤ b → b ≤ 50 → 0 ≤ bwF a b r ∧ bwF a b r ≤ 50 * r.length
  | [], a, b, _, _, _, _ => by simp [bwF]
  | c :: r, a, b, h, ha, hab, hb => by
    obtain ⟨hc, hc'⟩ := h.head
    have h1 := bth_bd ha hab hb hc hc'
    have h2 := bw_bd r _ _ h.tail h1.1 (bth_in hab).1 h1.2.1
    simp only [bwF, List.length_cons]
    omega
/-- One call: to go both is to go one, and then ahead. -/
theorem lw_bth {f : Int → Int → Int} (hf : Lip f) (r : List Int) {a b c : Int} (h : a ≤ b) : lwF f a b (c :: r) ≤ bthW a b c + lwF f (bthL a b c) (bthH a b c) r := by
  have h1 := lw_lip hf r c b (bthL a b c) (bthH a b c)
  have h2 := lw_lip hf r a c (bthL a b c) (bthH a b c)
  simp only [lwF]
  unfold bthW bthL bthH gapI at *
  by_cases e1 : c ≤ a
  · simp only [if_pos e1] at h1 h2 ⊢
    split at h1 <;> split at h1 <;> split <;> split <;> omega
  · simp only [if_neg e1] at h1 h2 ⊢
    by_cases e2 : b ≤ c
    · simp only [if_pos e2] at h1 h2 ⊢
      split at h2 <;> split at h2 <;> split <;> split <;> omega
    · simp only [if_neg e2] at h1 h2 ⊢
      generalize hm : min (c - a) (b - c) = d at h1 h2 ⊢
      have hd : d = c - a ∨ d = b - c := by omega
      have hd0 : 0 ≤ d := by omega
      rcases hd with hd | hd
      · split at h1 <;> split at h1 <;> split <;> split <;> omega
      · split at h2 <;> split at h2 <;> split <;> split <;> omega
theorem lw_bw {f : Int → Int → Int} (hf : Lip f) : ∀ (r : List Int) (a b : Int), a ≤ b → lwF f a b r ≤ bwF a b r + f (beL a b r) (beH a b r)
  | [], a, b, _ => by simp [lwF, bwF, beL, beH]
  | c :: r, a, b, h => by
    have h1 := lw_bth hf r (c := c) h
    have h2 := lw_bw hf r _ _ (bth_in (c := c) h).1
    simp only [bwF, beL, beH]
    omega
end Go.Proofs.Ythgllpiclaihjaa
