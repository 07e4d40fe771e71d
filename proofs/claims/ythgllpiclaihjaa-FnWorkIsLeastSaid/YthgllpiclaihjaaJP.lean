/-
  Both go at most twice as far; ways seen from the other end; where the least work ends.
  Conditions: as each theorem states.
-/
import Derived.Test.YthgllpiclaihjaaJH
namespace Go.Proofs.Ythgllpiclaihjaa
set_option linter.unusedVariables false

/-- Who knows moves to a call: the places that belong together are no farther than before, and this way. -/
theorem match_move {p q x y c : Int} (h : p ≤ q) (hxy : x ≤ y) : gapI p (min c y) + gapI q (max c y) ≤ gapI p x + gapI q y + gapI x c := by
  by_cases e : c ≤ y
  · rw [Int.min_eq_left e, Int.max_eq_right e]
    have := gapI_tri p x c
    omega
  · rw [Int.min_eq_right (by omega), Int.max_eq_left (by omega)]
    unfold gapI
    split <;> split <;> split <;> split <;> split <;> omega
theorem match_move2 {p q x y c : Int} (h : p ≤ q) (hxy : x ≤ y) : gapI p (min x c) + gapI q (max x c) ≤ gapI p x + gapI q y + gapI y c := by
  by_cases e : x ≤ c
  · rw [Int.min_eq_left e, Int.max_eq_right e]
    have := gapI_tri q y c
    omega
  · rw [Int.min_eq_right (by omega), Int.max_eq_left (by omega)]
    unfold gapI
    split <;> split <;> split <;> split <;> split <;> omega
/-- Both move to a call at which one of the others stands. -/
theorem both_move {p q x y c : Int} (h : p ≤ q) (hxy : x ≤ y) (hc : x = c ∨ y = c) :
    bthW p q c + 2 * (gapI (bthL p q c) x + gapI (bthH p q c) y) + (bthH p q c - bthL p q c) ≤ 2 * (gapI p x + gapI q y) + (q - p) := by
  unfold bthW bthL bthH
  by_cases e1 : c ≤ p
  · simp only [if_pos e1]
    unfold gapI
    rcases hc with rfl | rfl
    · (repeat' split) <;> omega
    · (repeat' split) <;> omega
  · simp only [if_neg e1]
    by_cases e2 : q ≤ c
    · simp only [if_pos e2]
      unfold gapI
      rcases hc with rfl | rfl
      · (repeat' split) <;> omega
      · (repeat' split) <;> omega
    · simp only [if_neg e2]
      generalize hm : min (c - p) (q - c) = d
      have hd : (d = c - p ∧ d ≤ q - c) ∨ (d = q - c ∧ d ≤ c - p) := by omega
      have hd0 : 0 ≤ d := by omega
      clear hm
      unfold gapI
      rcases hc with rfl | rfl <;> rcases hd with ⟨hd, hd'⟩ | ⟨hd, hd'⟩
      all_goals ((repeat' split) <;> omega)
theorem bw_comp : ∀ (r : List Int) (p q x y : Int), p ≤ q → x ≤ y → bwF p q r ≤ 2 * lwF zr2 x y r + 2 * (gapI p x + gapI q y) + (q - p)
  | [], p, q, x, y, h, hxy => by
    have h1 := gapI_nonneg p x
    have h2 := gapI_nonneg q y
    simp only [bwF, lwF, zr2]
    omega
  | c :: r, p, q, x, y, h, hxy => by
    have hin := (bth_in (c := c) h).1
    have i1 := bw_comp r _ _ (min c y) (max c y) hin (by omega)
    have i2 := bw_comp r _ _ (min x c) (max x c) hin (by omega)
    rw [lw_sort zr2_sym] at i1 i2
    have m1 := match_move (c := c) h hxy
    have m2 := match_move2 (c := c) h hxy
    have b1 := both_move (c := c) h (x := min c y) (y := max c y) (by omega) (by omega)
    have b2 := both_move (c := c) h (x := min x c) (y := max x c) (by omega) (by omega)
    simp only [bwF, lwF]
    omega
theorem bw_twice (r : List Int) {a b : Int} (h : a ≤ b) : bwF a b r ≤ 2 * lwF zr2 a b r + b - a := by
  have := bw_comp r a b a b h h
  rw [gapI_self, gapI_self] at this
  omega

/-- Seen from the other end. -/
def mir50 (r : List Int) : List Int := r.map fun x => 50 - x
theorem bth_mir {a b c : Int} (h : a ≤ b) : bthL (50 - b) (50 - a) (50 - c) = 50 - bthH a b c ∧ bthH (50 - b) (50 - a) (50 - c) = 50 - bthL a b c ∧ bthW (50 - b) (50 - a) (50 - c) = bthW a b c := by
  have e1 : 50 - c - (50 - b) = b - c := by omega
  have e2 : 50 - a - (50 - c) = c - a := by omega
  unfold bthL bthH bthW
  rw [e1, e2, Int.min_comm (b - c)]
  generalize min (c - a) (b - c) = d
  refine ⟨?_, ?_, ?_⟩ <;> ((repeat' split) <;> omega)
theorem bw_mir : ∀ (r : List Int) (a b : Int), a ≤ b → bwF (50 - b) (50 - a) (mir50 r) = bwF a b r
  | [], a, b, _ => rfl
  | c :: r, a, b, h => by
    obtain ⟨h1, h2, h3⟩ := bth_mir (c := c) h
    have := bw_mir r _ _ (bth_in (c := c) h).1
    show bwF (50 - b) (50 - a) ((50 - c) :: mir50 r) = _
    simp only [bwF]
    rw [h1, h2, h3, this]
theorem lw_mir : ∀ (r : List Int) (a b : Int), lwF zr2 (50 - a) (50 - b) (mir50 r) = lwF zr2 a b r
  | [], a, b => rfl
  | c :: r, a, b => by
    show lwF zr2 (50 - a) (50 - b) ((50 - c) :: mir50 r) = _
    simp only [lwF]
    rw [lw_mir r c b, lw_mir r a c, gapI_mirr50, gapI_mirr50]
theorem lw_mir2 (r : List Int) (a b : Int) : lwF zr2 (50 - b) (50 - a) (mir50 r) = lwF zr2 a b r := by
  rw [lw_sym zr2_sym, lw_mir]

/-- Where the least work ends. -/
theorem toB_nonneg (x y a b : Int) : zr2 a b ≤ toB x y a b := by
  have g3 := gapI_nonneg a x
  have g4 := gapI_nonneg b y
  have g5 := gapI_nonneg a y
  have g6 := gapI_nonneg b x
  unfold toB zr2
  omega
theorem toB_swap (x y : Int) : toB y x = toB x y := by
  funext a b
  unfold toB
  omega
theorem toB_here (x y : Int) : toB x y x y = 0 := by
  have g5 := gapI_nonneg x y
  have g6 := gapI_nonneg y x
  unfold toB
  rw [gapI_self, gapI_self]
  omega
theorem toB_lip (x y : Int) : Lip (toB x y) := fun a b a' b' => by
  have h1 := gapI_tri a a' x
  have h2 := gapI_tri b b' y
  have h3 := gapI_tri a a' y
  have h4 := gapI_tri b b' x
  unfold toB
  omega
theorem lw_ends : ∀ (r : List Int) (a b : Int), ∃ x y, (x ∈ r ∨ x = a ∨ x = b) ∧ (y ∈ r ∨ y = a ∨ y = b) ∧ lwF (toB x y) a b r ≤ lwF zr2 a b r
  | [], a, b => ⟨a, b, .inr (.inl rfl), .inr (.inr rfl), by simp only [lwF]; rw [toB_here]; exact Int.le_refl 0⟩
  | c :: r, a, b => by
    by_cases h : gapI a c + lwF zr2 c b r ≤ gapI b c + lwF zr2 a c r
    · obtain ⟨x, y, hx, hy, h1⟩ := lw_ends r c b
      refine ⟨x, y, ?_, ?_, ?_⟩
      · rcases hx with h | h | h
        · exact .inl (by simp [h])
        · exact .inl (by simp [h])
        · exact .inr (.inr h)
      · rcases hy with h | h | h
        · exact .inl (by simp [h])
        · exact .inl (by simp [h])
        · exact .inr (.inr h)
      · simp only [lwF]; omega
    · obtain ⟨x, y, hx, hy, h1⟩ := lw_ends r a c
      refine ⟨x, y, ?_, ?_, ?_⟩
      · rcases hx with h | h | h
        · exact .inl (by simp [h])
        · exact .inr (.inl h)
        · exact .inl (by simp [h])
      · rcases hy with h | h | h
        · exact .inl (by simp [h])
        · exact .inr (.inl h)
        · exact .inl (by simp [h])
      · simp only [lwF]; omega

/-- The facts of the laws. -/
theorem wav_is {a b : Int} {zs : List Int} (h : vcl a b zs = true) : wav a b zs = lwF zr2 a b zs := by unfold wav; rw [if_pos h]
theorem gwv_is {a b : Int} {zs : List Int} (h : vcl a b zs = true) : gwv a b zs = gwF a b zs := by unfold gwv; rw [if_pos h]
theorem bwv_is {a b : Int} {zs : List Int} (h : vcl a b zs = true) : bwv a b zs = bwF a b zs := by unfold bwv; rw [if_pos h]
theorem sbv_is {a b : Int} {zs : List Int} (h : vcl a b zs = true) : sbv a b zs = [beL a b zs, beH a b zs] := by unfold sbv; rw [if_pos h]
theorem wkv_is {a b x y : Int} {zs : List Int} (h : vcl a b zs = true) (hx : vst x y = true) : wkv a b zs x y = lwF (toB x y) a b zs := by unfold wkv; rw [if_pos ⟨h, hx⟩]
theorem wav_valid {a b : Int} {zs : List Int} (h : ¬ wav a b zs < 0) : vcl a b zs = true := by
  by_cases hv : vcl a b zs = true
  · exact hv
  · unfold wav at h; rw [if_neg hv] at h; omega
theorem gwv_valid {a b : Int} {zs : List Int} (h : ¬ gwv a b zs < 0) : vcl a b zs = true := by
  by_cases hv : vcl a b zs = true
  · exact hv
  · unfold gwv at h; rw [if_neg hv] at h; omega
theorem bwv_valid {a b : Int} {zs : List Int} (h : ¬ bwv a b zs < 0) : vcl a b zs = true := by
  by_cases hv : vcl a b zs = true
  · exact hv
  · unfold bwv at h; rw [if_neg hv] at h; omega
theorem wkv_valid {a b x y : Int} {zs : List Int} (h : ¬ wkv a b zs x y < 0) : vcl a b zs = true ∧ vst x y = true := by
  by_cases hv : vcl a b zs = true ∧ vst x y = true
  · exact hv
  · unfold wkv at h; rw [if_neg hv] at h; omega
theorem vcl_take {a b : Int} {zs : List Int} (h : vcl a b zs = true) (k : Nat) : vcl a b (zs.take k) = true := by
  obtain ⟨h1, h2, h3⟩ := vcl_iff.1 h
  exact vcl_iff.2 ⟨h1, by rw [List.length_take]; omega, fun x hx => h3 x (List.mem_of_mem_take hx)⟩
theorem wav_bd {a b : Int} {zs : List Int} : -1 ≤ wav a b zs ∧ wav a b zs ≤ 500 := by
  by_cases h : vcl a b zs = true
  · obtain ⟨h1, h2, h3⟩ := vcl_iff.1 h
    rw [wav_is h]
    have := lw_bd zr2_bd zs a b h3 h1.1 (by omega) (by omega) h1.2.2
    omega
  · unfold wav; rw [if_neg h]; omega
theorem bwv_bd {a b : Int} {zs : List Int} : -1 ≤ bwv a b zs ∧ bwv a b zs ≤ 500 := by
  by_cases h : vcl a b zs = true
  · obtain ⟨h1, h2, h3⟩ := vcl_iff.1 h
    rw [bwv_is h]
    have := bw_bd zs a b h3 h1.1 h1.2.1 h1.2.2
    omega
  · unfold bwv; rw [if_neg h]; omega
theorem toB_bdP {x y : Int} (h : vst x y = true) : ∀ a b, 0 ≤ a → a ≤ 50 → 0 ≤ b → b ≤ 50 → 0 ≤ toB x y a b ∧ toB x y a b ≤ 100 := fun a b h1 h2 h3 h4 => by
  obtain ⟨hx, hxy, hy⟩ := vst_iff.1 h
  have g1 := gapI_in50 h1 h2 hx (by omega)
  have g2 := gapI_in50 h3 h4 (by omega) hy
  have g3 := toB_nonneg x y a b
  unfold zr2 at g3
  refine ⟨g3, ?_⟩
  unfold toB
  omega
theorem wkv_bd {a b x y : Int} {zs : List Int} : -1 ≤ wkv a b zs x y ∧ wkv a b zs x y ≤ 500 := by
  by_cases h : vcl a b zs = true ∧ vst x y = true
  · obtain ⟨h1, h2, h3⟩ := vcl_iff.1 h.1
    rw [wkv_is h.1 h.2]
    have := lw_bd (toB_bdP h.2) zs a b h3 h1.1 (by omega) (by omega) h1.2.2
    omega
  · unfold wkv; rw [if_neg h]; omega
end Go.Proofs.Ythgllpiclaihjaa
