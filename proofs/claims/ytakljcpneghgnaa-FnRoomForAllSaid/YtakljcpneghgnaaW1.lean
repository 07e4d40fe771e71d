/-
  Calls given to helpers with room: as many as are taken, at most as a set of helpers blocks; moving calls on.
  Conditions: as each theorem states.
-/
import Derived.Test.YtakljcpneghgnaaT8
namespace Go.Proofs.Ytakljcpneghgnaa
open Go.ChangeShapes Go.WideShapes Go.ChangeAt Go.RowKit
set_option linter.unusedVariables false

/-- How many of the first m calls helper h has. -/
def cntM (M : Nat → Int) (h : Nat) : Nat → Nat
  | 0 => 0
  | m + 1 => cntM M h m + (if M m = h then 1 else 0)
/-- How many of the first m calls are taken. -/
def tknM (M : Nat → Int) : Nat → Nat
  | 0 => 0
  | m + 1 => tknM M m + (if 0 ≤ M m then 1 else 0)
/-- The room of the helpers of a set, of the first m. -/
def rsm (R : Nat → Int) (T : Nat) : Nat → Int
  | 0 => 0
  | h + 1 => rsm R T h + (if T.testBit h = true then R h else 0)
/-- How many of the first m calls some helper outside of a set may take. -/
def blk (out : Nat → Bool) : Nat → Nat
  | 0 => 0
  | i + 1 => blk out i + (if out i = true then 1 else 0)
/-- Of the first m calls: those that have a helper of the set. -/
def inM (M : Nat → Int) (T : Nat) : Nat → Nat
  | 0 => 0
  | m + 1 => inM M T m + (if 0 ≤ M m ∧ T.testBit (M m).toNat = true then 1 else 0)
/-- How many calls the helpers of a set have, of the first k helpers. -/
def csm (c : Nat → Nat) (T : Nat) : Nat → Nat
  | 0 => 0
  | h + 1 => csm c T h + (if T.testBit h = true then c h else 0)
theorem csm_zero (T : Nat) : ∀ H, csm (fun _ => 0) T H = 0
  | 0 => rfl
  | h + 1 => by simp only [csm]; rw [csm_zero T h]; split <;> rfl
theorem csm_add (c : Nat → Nat) (T g : Nat) : ∀ H, csm (fun h => c h + (if g = h then 1 else 0)) T H = csm c T H + (if g < H ∧ T.testBit g = true then 1 else 0)
  | 0 => by simp [csm]
  | h + 1 => by
    simp only [csm]
    rw [csm_add c T g h]
    by_cases e : g = h
    · subst e
      by_cases hb : T.testBit g = true
      · simp [hb]; omega
      · simp [hb]
    · have h1 : (g < h + 1 ∧ T.testBit g = true) ↔ (g < h ∧ T.testBit g = true) := by
        constructor
        · rintro ⟨a, b⟩; exact ⟨by omega, b⟩
        · rintro ⟨a, b⟩; exact ⟨by omega, b⟩
      simp only [h1, e, if_false, Nat.add_zero]
      split <;> split <;> omega
theorem csm_congr {c d : Nat → Nat} {T : Nat} : ∀ {H}, (∀ h, h < H → c h = d h) → csm c T H = csm d T H
  | 0, _ => rfl
  | h + 1, hc => by simp only [csm]; rw [csm_congr fun i hi => hc i (by omega), hc h (by omega)]
/-- Helpers below H, or none. -/
def InH (M : Nat → Int) (H n : Nat) : Prop := ∀ i, i < n → M i = -1 ∨ ∃ h : Nat, h < H ∧ M i = h
theorem inM_csm {M : Nat → Int} {T H : Nat} : ∀ {n}, InH M H n → inM M T n = csm (fun h => cntM M h n) T H
  | 0, _ => by simp only [inM]; exact (csm_zero T H).symm
  | n + 1, hi => by
    have ih := inM_csm (T := T) (n := n) (H := H) (M := M) (fun i h => hi i (by omega))
    simp only [inM]
    rcases hi n (by omega) with e | ⟨g, hg, e⟩
    · rw [ih]
      have h1 : ¬ (0 ≤ M n ∧ T.testBit (M n).toNat = true) := fun h => by omega
      rw [if_neg h1]
      refine (csm_congr fun h _ => ?_).symm
      simp only [cntM]
      rw [if_neg (by omega), Nat.add_zero]
    · rw [ih]
      have h2 : csm (fun h => cntM M h (n + 1)) T H = csm (fun h => cntM M h n + (if g = h then 1 else 0)) T H := csm_congr fun h _ => by
        simp only [cntM]
        rw [e]
        by_cases e2 : g = h
        · subst e2; simp
        · rw [if_neg (by omega), if_neg e2]
      rw [h2, csm_add, e]
      have : ((g : Nat) : Int).toNat = g := by omega
      rw [this]
      by_cases hb : T.testBit g = true
      · rw [if_pos ⟨by omega, hb⟩, if_pos ⟨hg, hb⟩]
      · rw [if_neg (fun h => hb h.2), if_neg (fun h => hb h.2)]
/-- A giving of calls to helpers: each to one that may take it, none more than there is room. -/
structure Giv (R : Nat → Int) (W : Nat → Nat → Prop) (H n : Nat) (M : Nat → Int) : Prop where
  may : ∀ i, i < n → M i = -1 ∨ ∃ h : Nat, h < H ∧ M i = h ∧ W i h
  room : ∀ h, h < H → (cntM M h n : Int) ≤ R h
theorem Giv.inH {R : Nat → Int} {W : Nat → Nat → Prop} {H n : Nat} {M : Nat → Int} (h : Giv R W H n M) : InH M H n := fun i hi => by
  rcases h.may i hi with e | ⟨g, hg, e, _⟩
  · exact .inl e
  · exact .inr ⟨g, hg, e⟩
/-- Whether some helper outside of the set may take the call. -/
def Outw (W : Nat → Nat → Prop) (T i : Nat) : Prop := ∃ h, W i h ∧ ¬ T.testBit h = true
theorem csm_le {R : Nat → Int} {c : Nat → Nat} {T : Nat} : ∀ {H}, (∀ h, h < H → (c h : Int) ≤ R h) → (csm c T H : Int) ≤ rsm R T H
  | 0, _ => by simp [csm, rsm]
  | h + 1, hc => by
    have h1 := csm_le (R := R) (c := c) (T := T) (H := h) fun i hi => hc i (by omega)
    have h2 := hc h (by omega)
    simp only [csm, rsm]
    split <;> omega
theorem csm_eq {R : Nat → Int} {c : Nat → Nat} {T : Nat} : ∀ {H}, (∀ h, h < H → (c h : Int) ≤ R h) → (csm c T H : Int) = rsm R T H → ∀ h, h < H → T.testBit h = true → (c h : Int) = R h
  | 0, _, _, h, hh, _ => by omega
  | k + 1, hc, he, h, hh, hb => by
    have h1 := csm_le (R := R) (c := c) (T := T) (H := k) fun i hi => hc i (by omega)
    have h2 := hc k (by omega)
    simp only [csm, rsm] at he
    have he2 : (csm c T k : Int) = rsm R T k := by
      by_cases hk : T.testBit k = true
      · rw [if_pos hk, if_pos hk] at he; omega
      · rw [if_neg hk, if_neg hk] at he; omega
    by_cases e : h = k
    · subst e
      rw [if_pos hb, if_pos hb] at he; omega
    · exact csm_eq (fun i hi => hc i (by omega)) he2 h (by omega) hb
theorem csm_tight {R : Nat → Int} {c : Nat → Nat} {T : Nat} : ∀ {H}, (∀ h, h < H → T.testBit h = true → (c h : Int) = R h) → (csm c T H : Int) = rsm R T H
  | 0, _ => by simp [csm, rsm]
  | h + 1, hc => by
    have h1 := csm_tight (R := R) (c := c) (T := T) (H := h) fun i hi hb => hc i (by omega) hb
    simp only [csm, rsm]
    by_cases hb : T.testBit h = true
    · have := hc h (by omega) hb
      rw [if_pos hb, if_pos hb]; omega
    · rw [if_neg hb, if_neg hb]; omega
/-- Those that have a helper outside of the set. -/
def ouM (M : Nat → Int) (T : Nat) : Nat → Nat
  | 0 => 0
  | m + 1 => ouM M T m + (if 0 ≤ M m ∧ ¬ T.testBit (M m).toNat = true then 1 else 0)
theorem tkn_parts (M : Nat → Int) (T : Nat) : ∀ n, tknM M n = inM M T n + ouM M T n
  | 0 => rfl
  | n + 1 => by
    have := tkn_parts M T n
    simp only [tknM, inM, ouM]
    by_cases h : 0 ≤ M n <;> by_cases hb : T.testBit (M n).toNat = true <;> simp [h, hb] <;> omega
theorem ou_le {M : Nat → Int} {T : Nat} {out : Nat → Bool} : ∀ {n}, (∀ i, i < n → 0 ≤ M i → ¬ T.testBit (M i).toNat = true → out i = true) → ouM M T n ≤ blk out n
  | 0, _ => Nat.le_refl _
  | n + 1, h => by
    have h1 := ou_le (M := M) (T := T) (out := out) (n := n) fun i hi => h i (by omega)
    simp only [ouM, blk]
    by_cases hc : 0 ≤ M n ∧ ¬ T.testBit (M n).toNat = true
    · rw [if_pos hc, if_pos (h n (by omega) hc.1 hc.2)]; omega
    · rw [if_neg hc]; split <;> omega
theorem ou_tight {M : Nat → Int} {T : Nat} {out : Nat → Bool} : ∀ {n}, (∀ i, i < n → (out i = true ↔ 0 ≤ M i ∧ ¬ T.testBit (M i).toNat = true)) → ouM M T n = blk out n
  | 0, _ => rfl
  | n + 1, h => by
    have h1 := ou_tight (M := M) (T := T) (out := out) (n := n) fun i hi => h i (by omega)
    simp only [ouM, blk]
    by_cases hc : 0 ≤ M n ∧ ¬ T.testBit (M n).toNat = true
    · rw [if_pos hc, if_pos ((h n (by omega)).2 hc)]; omega
    · rw [if_neg hc, if_neg (fun h' => hc ((h n (by omega)).1 h'))]; omega
theorem ou_eq {M : Nat → Int} {T : Nat} {out : Nat → Bool} : ∀ {n}, (∀ i, i < n → 0 ≤ M i → ¬ T.testBit (M i).toNat = true → out i = true) → ouM M T n = blk out n → ∀ i, i < n → out i = true → 0 ≤ M i ∧ ¬ T.testBit (M i).toNat = true
  | 0, _, _, i, hi, _ => by omega
  | n + 1, h, he, i, hi, ho => by
    have h1 := ou_le (M := M) (T := T) (out := out) (n := n) fun i hi => h i (by omega)
    simp only [ouM, blk] at he
    have hn : out n = true → 0 ≤ M n ∧ ¬ T.testBit (M n).toNat = true := fun hb => by
      by_cases hc : 0 ≤ M n ∧ ¬ T.testBit (M n).toNat = true
      · exact hc
      · rw [if_neg hc, if_pos hb] at he; omega
    have he2 : ouM M T n = blk out n := by
      by_cases hc : 0 ≤ M n ∧ ¬ T.testBit (M n).toNat = true
      · rw [if_pos hc, if_pos (h n (by omega) hc.1 hc.2)] at he; omega
      · rw [if_neg hc, if_neg (fun hb => hc (hn hb))] at he; omega
    by_cases e : i = n
    · subst e; exact hn ho
    · exact ou_eq (fun i hi => h i (by omega)) he2 i (by omega) ho
/-- Which of the first k calls some helper outside may take; none of the others. -/
def outB (o : Nat → Nat → Bool) (T k : Nat) : Nat → Bool := fun i => decide (i < k) && o T i
/-- What a set blocks, of the first k calls. -/
def cstB (R : Nat → Int) (o : Nat → Nat → Bool) (H n k T : Nat) : Int := rsm R T H + (blk (outB o T k) n : Nat)
/-- Taken calls are at most those that a set blocks. -/
theorem tkn_le {R : Nat → Int} {W : Nat → Nat → Prop} {o : Nat → Nat → Bool} {H n k : Nat} {M : Nat → Int} (ho : ∀ T i, i < n → (o T i = true ↔ Outw W T i)) (h : Giv R W H n M) (hk : ∀ i, i < n → k ≤ i → M i = -1) (T : Nat) : (tknM M n : Int) ≤ cstB R o H n k T := by
  have h1 := tkn_parts M T n
  have h2 := inM_csm (T := T) h.inH
  have h3 := csm_le (T := T) h.room
  have h4 : ouM M T n ≤ blk (outB o T k) n := ou_le fun i hi h0 hb => by
    have hik : i < k := by
      rcases Nat.lt_or_ge i k with hl | hl
      · exact hl
      · have := hk i hi hl; omega
    unfold outB
    rw [Bool.and_eq_true, decide_eq_true_eq]
    refine ⟨hik, (ho T i hi).2 ?_⟩
    rcases h.may i hi with e | ⟨g, _, e, hW⟩
    · omega
    · rw [e] at hb
      exact ⟨g, hW, by simpa using hb⟩
  unfold cstB
  omega
/-- A set that blocks just the taken ones. -/
structure Crt (R : Nat → Int) (o : Nat → Nat → Bool) (H n k : Nat) (M : Nat → Int) (T : Nat) : Prop where
  full : ∀ h, h < H → T.testBit h = true → (cntM M h n : Int) = R h
  out : ∀ i, i < n → i < k → o T i = true → 0 ≤ M i ∧ ¬ T.testBit (M i).toNat = true
theorem crt_eq {R : Nat → Int} {W : Nat → Nat → Prop} {o : Nat → Nat → Bool} {H n k T : Nat} {M : Nat → Int} (ho : ∀ T i, i < n → (o T i = true ↔ Outw W T i)) (h : Giv R W H n M) (hk : ∀ i, i < n → k ≤ i → M i = -1) (hc : Crt R o H n k M T) : (tknM M n : Int) = cstB R o H n k T := by
  have h1 := tkn_parts M T n
  have h2 := inM_csm (T := T) h.inH
  have h3 := csm_tight (R := R) (c := fun h => cntM M h n) (T := T) (H := H) hc.full
  have h4 : ouM M T n = blk (outB o T k) n := ou_tight fun i hi => by
    unfold outB
    rw [Bool.and_eq_true, decide_eq_true_eq]
    constructor
    · rintro ⟨a, b⟩; exact hc.out i hi a b
    · rintro ⟨a, b⟩
      have hik : i < k := by
        rcases Nat.lt_or_ge i k with hl | hl
        · exact hl
        · have := hk i hi hl; omega
      refine ⟨hik, (ho T i hi).2 ?_⟩
      rcases h.may i hi with e | ⟨g, _, e, hW⟩
      · omega
      · rw [e] at b
        exact ⟨g, hW, by simpa using b⟩
  unfold cstB
  omega
theorem eq_crt {R : Nat → Int} {W : Nat → Nat → Prop} {o : Nat → Nat → Bool} {H n k T : Nat} {M : Nat → Int} (ho : ∀ T i, i < n → (o T i = true ↔ Outw W T i)) (h : Giv R W H n M) (hk : ∀ i, i < n → k ≤ i → M i = -1) (he : (tknM M n : Int) = cstB R o H n k T) : Crt R o H n k M T := by
  have h1 := tkn_parts M T n
  have h2 := inM_csm (T := T) h.inH
  have h3 := csm_le (T := T) h.room
  have hou : ∀ i, i < n → 0 ≤ M i → ¬ T.testBit (M i).toNat = true → outB o T k i = true := fun i hi h0 hb => by
    have hik : i < k := by
      rcases Nat.lt_or_ge i k with hl | hl
      · exact hl
      · have := hk i hi hl; omega
    unfold outB
    rw [Bool.and_eq_true, decide_eq_true_eq]
    refine ⟨hik, (ho T i hi).2 ?_⟩
    rcases h.may i hi with e | ⟨g, _, e, hW⟩
    · omega
    · rw [e] at hb
      exact ⟨g, hW, by simpa using hb⟩
  have h4 := ou_le hou
  unfold cstB at he
  have e1 : (csm (fun h => cntM M h n) T H : Int) = rsm R T H := by omega
  have e2 : ouM M T n = blk (outB o T k) n := by omega
  refine ⟨fun g hg hb => csm_eq h.room e1 g hg hb, fun i hi hik hb => ?_⟩
  exact ou_eq hou e2 i hi (by unfold outB; rw [Bool.and_eq_true, decide_eq_true_eq]; exact ⟨hik, hb⟩)
/-- Helpers seen, as a set. -/
def bsB (seen : Nat → Bool) : Nat → Nat
  | 0 => 0
  | h + 1 => if seen h = true then bsB seen h ||| 2 ^ h else bsB seen h
theorem bsB_lt (seen : Nat → Bool) : ∀ H, bsB seen H < 2 ^ H
  | 0 => by simp [bsB]
  | h + 1 => by
    have h1 := bsB_lt seen h
    have h2 : 2 ^ h < 2 ^ (h + 1) := Nat.pow_lt_pow_right (by omega) (by omega)
    simp only [bsB]
    split
    · exact Nat.or_lt_two_pow (by omega) h2
    · omega
theorem bsB_bit (seen : Nat → Bool) : ∀ H v, (bsB seen H).testBit v = true ↔ v < H ∧ seen v = true
  | 0, v => by simp [bsB]
  | h + 1, v => by
    have ih := bsB_bit seen h v
    simp only [bsB]
    by_cases e : v = h
    · subst e
      split
      · rename_i hs
        rw [Nat.testBit_or, Nat.testBit_two_pow]
        simp [hs]
      · rename_i hs
        rw [ih]
        constructor
        · rintro ⟨a, _⟩; omega
        · rintro ⟨_, b⟩; exact absurd b hs
    · split
      · rw [Nat.testBit_or, Nat.testBit_two_pow, Bool.or_eq_true, ih]
        simp only [decide_eq_true_eq]
        constructor
        · rintro (⟨a, b⟩ | a)
          · exact ⟨by omega, b⟩
          · exact absurd a.symm e
        · rintro ⟨a, b⟩; exact .inl ⟨by omega, b⟩
      · rw [ih]
        constructor
        · rintro ⟨a, b⟩; exact ⟨by omega, b⟩
        · rintro ⟨a, b⟩; exact ⟨by omega, b⟩
/-- A call that can't be given: the helpers seen are full, and their calls can't go elsewhere. -/
theorem crt_fail {R : Nat → Int} {W : Nat → Nat → Prop} {o : Nat → Nat → Bool} {H n k T S : Nat} {M : Nat → Int} (ho : ∀ T i, i < n → (o T i = true ↔ Outw W T i)) (hc : Crt R o H n k M T)
    (hw : ∀ h, W k h → S.testBit h = true) (hf : ∀ h, h < H → S.testBit h = true → (cntM M h n : Int) = R h) (hcl : ∀ i, i < n → 0 ≤ M i → S.testBit (M i).toNat = true → ∀ h, W i h → S.testBit h = true) : Crt R o H n (k + 1) M (T ||| S) := by
  refine ⟨fun h hh hb => ?_, fun i hi hik hoT => ?_⟩
  · rw [Nat.testBit_or, Bool.or_eq_true] at hb
    rcases hb with hb | hb
    · exact hc.full h hh hb
    · exact hf h hh hb
  · obtain ⟨h, hW, hn⟩ := (ho (T ||| S) i hi).1 hoT
    rw [Nat.testBit_or, Bool.or_eq_true] at hn
    have hnT : ¬ T.testBit h = true := fun e => hn (.inl e)
    have hnS : ¬ S.testBit h = true := fun e => hn (.inr e)
    by_cases e : i = k
    · subst e; exact absurd (hw h hW) hnS
    · obtain ⟨a, b⟩ := hc.out i hi (by omega) ((ho T i hi).2 ⟨h, hW, hnT⟩)
      refine ⟨a, fun hb => ?_⟩
      rw [Nat.testBit_or, Bool.or_eq_true] at hb
      rcases hb with hb | hb
      · exact b hb
      · exact hnS (hcl i hi a hb h hW)
theorem blk_one (o : Nat → Nat → Bool) (T k : Nat) : ∀ n, blk (outB o T (k + 1)) n ≤ blk (outB o T k) n + (if k < n then 1 else 0)
  | 0 => by simp [blk]
  | n + 1 => by
    have ih := blk_one o T k n
    have h1 : ∀ i, i ≠ k → outB o T (k + 1) i = outB o T k i := fun i hi => by
      unfold outB
      have : (i < k + 1) ↔ (i < k) := by omega
      rw [show decide (i < k + 1) = decide (i < k) from by simp only [this]]
    simp only [blk]
    by_cases e : n = k
    · subst e
      rw [if_neg (Nat.lt_irrefl n)] at ih
      have h2 : outB o T n n = false := by unfold outB; simp
      rw [if_pos (show n < n + 1 by omega), h2]
      cases outB o T (n + 1) n <;> simp <;> omega
    · rw [h1 n e]
      by_cases hk : k < n
      · rw [if_pos hk] at ih
        rw [if_pos (show k < n + 1 by omega)]
        cases outB o T k n <;> simp <;> omega
      · rw [if_neg hk] at ih
        rw [if_neg (show ¬ k < n + 1 by omega)]
        cases outB o T k n <;> simp <;> omega
/-- One call more is taken. -/
theorem crt_step {R : Nat → Int} {W : Nat → Nat → Prop} {o : Nat → Nat → Bool} {H n k T : Nat} {M M' : Nat → Int} (ho : ∀ T i, i < n → (o T i = true ↔ Outw W T i)) (h : Giv R W H n M) (hk : ∀ i, i < n → k ≤ i → M i = -1) (hc : Crt R o H n k M T)
    (h' : Giv R W H n M') (hk' : ∀ i, i < n → k + 1 ≤ i → M' i = -1) (hkn : k < n) (ht : tknM M' n = tknM M n + 1) : Crt R o H n (k + 1) M' T := by
  refine eq_crt ho h' hk' ?_
  have e1 := crt_eq ho h hk hc
  have e2 := tkn_le ho h' hk' T
  have e3 := blk_one o T k n
  rw [if_pos hkn] at e3
  unfold cstB at e1 e2 ⊢
  omega
theorem crt_zero {R : Nat → Int} {o : Nat → Nat → Bool} {H n : Nat} : Crt R o H n 0 (fun _ => -1) 0 :=
  ⟨fun h _ hb => by simp at hb, fun i _ hi => by omega⟩
/-- What the sets below S block at least. -/
def lbk (R : Nat → Int) (o : Nat → Nat → Bool) (H n : Nat) : Nat → Int
  | 0 => n
  | S + 1 => min (lbk R o H n S) (rsm R S H + (blk (o S) n : Nat))
theorem blk_le (o : Nat → Bool) : ∀ n, blk o n ≤ n
  | 0 => Nat.le_refl _
  | n + 1 => by have := blk_le o n; simp only [blk]; split <;> omega
theorem blk_congr {o o' : Nat → Bool} : ∀ {n}, (∀ i, i < n → o i = o' i) → blk o n = blk o' n
  | 0, _ => rfl
  | n + 1, h => by simp only [blk]; rw [blk_congr fun i hi => h i (by omega), h n (by omega)]
theorem cstB_all (R : Nat → Int) (o : Nat → Nat → Bool) (H n T : Nat) : cstB R o H n n T = rsm R T H + (blk (o T) n : Nat) := by
  unfold cstB
  rw [blk_congr (o := outB o T n) (o' := o T) fun i hi => by unfold outB; simp [hi]]
theorem lbk_le {R : Nat → Int} {o : Nat → Nat → Bool} {H n : Nat} : ∀ {S T : Nat}, T < S → lbk R o H n S ≤ rsm R T H + (blk (o T) n : Nat)
  | 0, T, h => by omega
  | S + 1, T, h => by
    simp only [lbk]
    by_cases e : T = S
    · subst e; omega
    · have := lbk_le (R := R) (o := o) (H := H) (n := n) (show T < S by omega)
      omega
theorem le_lbk {R : Nat → Int} {o : Nat → Nat → Bool} {H n : Nat} {c : Int} (hc : c ≤ n) : ∀ S, (∀ T, T < S → c ≤ rsm R T H + (blk (o T) n : Nat)) → c ≤ lbk R o H n S
  | 0, _ => hc
  | S + 1, h => by
    have := le_lbk (R := R) (o := o) (H := H) hc S fun T hT => h T (by omega)
    have := h S (by omega)
    simp only [lbk]; omega
theorem tkn_n (M : Nat → Int) : ∀ n, tknM M n ≤ n
  | 0 => Nat.le_refl _
  | n + 1 => by have := tkn_n M n; simp only [tknM]; split <;> omega
/-- As many are taken as are blocked at least. -/
theorem tkn_lbk {R : Nat → Int} {W : Nat → Nat → Prop} {o : Nat → Nat → Bool} {H n T : Nat} {M : Nat → Int} (ho : ∀ T i, i < n → (o T i = true ↔ Outw W T i)) (h : Giv R W H n M) (hT : T < 2 ^ H) (hc : Crt R o H n n M T) : (tknM M n : Int) = lbk R o H n (2 ^ H) := by
  have hk : ∀ i, i < n → n ≤ i → M i = -1 := fun i h1 h2 => by omega
  have e1 := crt_eq ho h hk hc
  rw [cstB_all] at e1
  have e2 := lbk_le (R := R) (o := o) (H := H) (n := n) hT
  have e3 := le_lbk (R := R) (o := o) (H := H) (n := n) (c := (tknM M n : Int)) (by have := tkn_n M n; omega) (2 ^ H) fun S _ => by
    have := tkn_le ho h hk S
    rw [cstB_all] at this; exact this
  omega
end Go.Proofs.Ytakljcpneghgnaa
