/-
  Moving calls on: what a call's giving leaves, when it can be given and when not.
  Conditions: as each theorem states.
-/
import Derived.Test.YtakljcpneghgnaaW1
namespace Go.Proofs.Ytakljcpneghgnaa
open Go.ChangeShapes Go.WideShapes Go.ChangeAt Go.RowKit
set_option linter.unusedVariables false

/-- One call has another helper. -/
def upM (M : Nat → Int) (c : Nat) (v : Int) : Nat → Int := fun i => if i = c then v else M i
theorem upM_at (M : Nat → Int) (c : Nat) (v : Int) : upM M c v c = v := if_pos rfl
theorem upM_other (M : Nat → Int) {c i : Nat} (v : Int) (h : i ≠ c) : upM M c v i = M i := if_neg h
theorem cnt_up (M : Nat → Int) (c : Nat) (v : Int) (x : Nat) : ∀ n, cntM (upM M c v) x n + (if c < n ∧ M c = x then 1 else 0) = cntM M x n + (if c < n ∧ v = x then 1 else 0)
  | 0 => by simp [cntM]
  | n + 1 => by
    have ih := cnt_up M c v x n
    simp only [cntM]
    by_cases e : n = c
    · subst e
      rw [if_neg (fun h => Nat.lt_irrefl n h.1), if_neg (fun h => Nat.lt_irrefl n h.1)] at ih
      rw [upM_at]
      have e1 : ∀ p : Prop, (n < n + 1 ∧ p) ↔ p := fun p => ⟨fun h => h.2, fun h => ⟨by omega, h⟩⟩
      simp only [e1]
      split <;> split <;> omega
    · rw [upM_other _ _ e]
      have h1 : ∀ p : Prop, (c < n + 1 ∧ p) ↔ (c < n ∧ p) := fun p => by
        constructor
        · rintro ⟨a, b⟩; exact ⟨by omega, b⟩
        · rintro ⟨a, b⟩; exact ⟨by omega, b⟩
      simp only [h1]
      omega
/-- What a call's giving leaves if it can be given. -/
structure PuOk (R : Nat → Int) (W : Nat → Nat → Prop) (H n : Nat) (M M' : Nat → Int) (c : Nat) (seen : Nat → Bool) : Prop where
  may : ∀ i, i < n → M' i = -1 ∨ ∃ h : Nat, h < H ∧ M' i = h ∧ W i h
  new : 0 ≤ M' c
  keep : ∀ i, i < n → i ≠ c → (0 ≤ M' i ↔ 0 ≤ M i)
  stay : ∀ i, i < n → i ≠ c → 0 ≤ M i → seen (M i).toNat = true → M' i = M i
  cap : ∃ g, g < H ∧ (cntM M g n : Int) < R g ∧ ∀ x, x < H → cntM M' x n + (if M c = x then 1 else 0) = cntM M x n + (if x = g then 1 else 0)
/-- What it leaves if not: more helpers seen, all full, and their calls can't go elsewhere. -/
structure PuNo (R : Nat → Int) (W : Nat → Nat → Prop) (H n : Nat) (M : Nat → Int) (seen seen' : Nat → Bool) : Prop where
  grow : ∀ h, seen h = true → seen' h = true
  full : ∀ h, h < H → seen' h = true → ¬ seen h = true → (cntM M h n : Int) = R h ∧ ∀ i, i < n → M i = h → ∀ x, W i x → seen' x = true
theorem PuNo.refl (R : Nat → Int) (W : Nat → Nat → Prop) (H n : Nat) (M : Nat → Int) (seen : Nat → Bool) : PuNo R W H n M seen seen := ⟨fun h hs => hs, fun h _ hs hn => absurd hs hn⟩
theorem PuNo.trans {R : Nat → Int} {W : Nat → Nat → Prop} {H n : Nat} {M : Nat → Int} {s1 s2 s3 : Nat → Bool} (h : PuNo R W H n M s1 s2) (k : PuNo R W H n M s2 s3) : PuNo R W H n M s1 s3 :=
  ⟨fun x hx => k.grow x (h.grow x hx), fun x hx h3 h1 => by
    by_cases h2 : s2 x = true
    · obtain ⟨a, b⟩ := h.full x hx h2 h1
      exact ⟨a, fun i hi hm y hy => k.grow y (b i hi hm y hy)⟩
    · exact k.full x hx h3 h2⟩
theorem PuOk.giv {R : Nat → Int} {W : Nat → Nat → Prop} {H n c : Nat} {M M' : Nat → Int} {seen : Nat → Bool} (hg : Giv R W H n M) (h : PuOk R W H n M M' c seen) : Giv R W H n M' := by
  refine ⟨h.may, fun x hx => ?_⟩
  obtain ⟨g, _, h1, h2⟩ := h.cap
  have h3 := h2 x hx
  have h4 := hg.room x hx
  by_cases e : x = g
  · subst e
    rw [if_pos rfl] at h3
    split at h3 <;> omega
  · rw [if_neg e] at h3
    split at h3 <;> omega
/-- There is room. -/
theorem puOk_base {R : Nat → Int} {W : Nat → Nat → Prop} {H n c h : Nat} {M : Nat → Int} {seen : Nat → Bool} (hg : Giv R W H n M) (hc : c < n) (hh : h < H) (hW : W c h) (hr : (cntM M h n : Int) < R h) : PuOk R W H n M (upM M c h) c seen := by
  refine ⟨fun i hi => ?_, by rw [upM_at]; omega, fun i hi hne => by rw [upM_other _ _ hne], fun i hi hne _ _ => upM_other _ _ hne, h, hh, hr, fun x hx => ?_⟩
  · by_cases e : i = c
    · subst e; rw [upM_at]; exact .inr ⟨h, hh, rfl, hW⟩
    · rw [upM_other _ _ e]; exact hg.may i hi
  · have := cnt_up M c h x n
    have e1 : (c < n ∧ M c = (x : Int)) ↔ M c = (x : Int) := ⟨fun h => h.2, fun h => ⟨hc, h⟩⟩
    have e2 : (c < n ∧ (h : Int) = (x : Int)) ↔ x = h := ⟨fun h => by omega, fun h => ⟨hc, by omega⟩⟩
    simp only [e1, e2] at this
    exact this
/-- A call that has helper h goes elsewhere, so that call c is given to h. -/
theorem puOk_move {R : Nat → Int} {W : Nat → Nat → Prop} {H n c h i : Nat} {M M2 : Nat → Int} {seen seen' : Nat → Bool} (hg : Giv R W H n M) (hc : c < n) (hi : i < n) (hh : h < H) (hW : W c h) (hns : ¬ seen h = true) (hgr : ∀ x, seen x = true → seen' x = true) (hs : M c = -1 ∨ ∃ x : Nat, M c = x ∧ seen x = true) (hm : M i = h)
    (k : PuOk R W H n M M2 i seen') : PuOk R W H n M (upM M2 c h) c seen := by
  have hci : c ≠ i := fun e => by
    subst e
    rcases hs with hs | ⟨x, hs, hx⟩
    · omega
    · have : x = h := by omega
      subst this; exact hns hx
  have hMc : M2 c = M c := by
    rcases hs with hs | ⟨x, hs, hx⟩
    · have h1 := k.keep c hc hci
      rcases k.may c hc with e | ⟨g, _, e, _⟩
      · omega
      · omega
    · exact k.stay c hc hci (by omega) (by rw [hs]; have : ((x : Nat) : Int).toNat = x := by omega
                                           rw [this]; exact hgr x hx)
  refine ⟨fun j hj => ?_, by rw [upM_at]; omega, fun j hj hne => ?_, fun j hj hne h0 hsj => ?_, ?_⟩
  · by_cases e : j = c
    · subst e; rw [upM_at]; exact .inr ⟨h, hh, rfl, hW⟩
    · rw [upM_other _ _ e]; exact k.may j hj
  · rw [upM_other _ _ hne]
    by_cases e : j = i
    · subst e
      have := k.new
      omega
    · exact k.keep j hj e
  · rw [upM_other _ _ hne]
    by_cases e : j = i
    · subst e
      rw [hm] at hsj
      have : ((h : Nat) : Int).toNat = h := by omega
      rw [this] at hsj
      exact absurd hsj hns
    · exact k.stay j hj e h0 (hgr _ hsj)
  · obtain ⟨g, h1, h2, h3⟩ := k.cap
    refine ⟨g, h1, h2, fun x hx => ?_⟩
    have a := h3 x hx
    have b := cnt_up M2 c h x n
    rw [hMc] at b
    have e1 : (c < n ∧ M c = (x : Int)) ↔ M c = (x : Int) := ⟨fun h => h.2, fun h => ⟨hc, h⟩⟩
    have e2 : (c < n ∧ (h : Int) = (x : Int)) ↔ M i = (x : Int) := ⟨fun h => by omega, fun h => ⟨hc, by omega⟩⟩
    simp only [e1, e2] at b
    omega
theorem tkn_keep {M M' : Nat → Int} {c : Nat} (hn : 0 ≤ M' c) (hm : M c < 0) : ∀ {n}, (∀ i, i < n → i ≠ c → (0 ≤ M' i ↔ 0 ≤ M i)) → tknM M' n = tknM M n + (if c < n then 1 else 0)
  | 0, _ => by simp [tknM]
  | n + 1, h => by
    have ih := tkn_keep hn hm (n := n) fun i hi => h i (by omega)
    simp only [tknM]
    rw [ih]
    by_cases e : n = c
    · subst e
      rw [if_neg (Nat.lt_irrefl n), if_pos hn, if_neg (show ¬ 0 ≤ M n by omega), if_pos (show n < n + 1 by omega)]
    · have h1 := h n (by omega) e
      by_cases hk : c < n
      · rw [if_pos hk, if_pos (show c < n + 1 by omega)]
        by_cases hp : 0 ≤ M n
        · rw [if_pos hp, if_pos (h1.2 hp)]; try omega
        · rw [if_neg hp, if_neg (fun q => hp (h1.1 q))]
      · rw [if_neg hk, if_neg (show ¬ c < n + 1 by omega)]
        by_cases hp : 0 ≤ M n
        · rw [if_pos hp, if_pos (h1.2 hp)]
        · rw [if_neg hp, if_neg (fun q => hp (h1.1 q))]
/-- What is kept from call to call: as many as the first k may be given at most. -/
structure Kpt (R : Nat → Int) (W : Nat → Nat → Prop) (o : Nat → Nat → Bool) (H n k : Nat) (M : Nat → Int) : Prop where
  giv : Giv R W H n M
  rest : ∀ i, i < n → k ≤ i → M i = -1
  crt : ∃ T, T < 2 ^ H ∧ Crt R o H n k M T
theorem kpt_zero {R : Nat → Int} {W : Nat → Nat → Prop} {o : Nat → Nat → Bool} {H n : Nat} (hR : ∀ h, h < H → 0 ≤ R h) : Kpt R W o H n 0 (fun _ => -1) := by
  have hz : ∀ h n, cntM (fun _ => -1) h n = 0 := fun h n => by
    induction n with
    | zero => rfl
    | succ n ih => simp only [cntM]; rw [ih, if_neg (by omega)]
  exact ⟨⟨fun i _ => .inl rfl, fun h hh => by rw [hz]; exact hR h hh⟩, fun i _ _ => rfl, 0, Nat.two_pow_pos H, crt_zero⟩
theorem kpt_yes {R : Nat → Int} {W : Nat → Nat → Prop} {o : Nat → Nat → Bool} {H n k : Nat} {M M' : Nat → Int} {seen : Nat → Bool} (ho : ∀ T i, i < n → (o T i = true ↔ Outw W T i)) (h : Kpt R W o H n k M) (hk : k < n) (p : PuOk R W H n M M' k seen) : Kpt R W o H n (k + 1) M' := by
  obtain ⟨T, hT, hc⟩ := h.crt
  have h' := p.giv h.giv
  have hr : ∀ i, i < n → k + 1 ≤ i → M' i = -1 := fun i hi hik => by
    have h1 := h.rest i hi (by omega)
    have h2 := p.keep i hi (by omega)
    rcases p.may i hi with e | ⟨g, _, e, _⟩
    · exact e
    · omega
  have ht := tkn_keep (n := n) p.new (by rw [h.rest k hk (Nat.le_refl _)]; omega) p.keep
  rw [if_pos hk] at ht
  exact ⟨h', hr, T, hT, crt_step ho h.giv h.rest hc h' hr hk ht⟩
theorem kpt_no {R : Nat → Int} {W : Nat → Nat → Prop} {o : Nat → Nat → Bool} {H n k : Nat} {M : Nat → Int} {seen seen' : Nat → Bool} (ho : ∀ T i, i < n → (o T i = true ↔ Outw W T i)) (hW : ∀ i h, i < n → W i h → h < H) (h : Kpt R W o H n k M) (hk : k < n) (h0 : ∀ x, ¬ seen x = true) (p : PuNo R W H n M seen seen') (hw : ∀ x, W k x → seen' x = true) : Kpt R W o H n (k + 1) M := by
  obtain ⟨T, hT, hc⟩ := h.crt
  refine ⟨h.giv, fun i hi hik => h.rest i hi (by omega), T ||| bsB seen' H, Nat.or_lt_two_pow hT (bsB_lt _ _), crt_fail ho hc (fun x hx => (bsB_bit _ _ _).2 ⟨hW k x hk hx, hw x hx⟩) (fun x hx hb => (p.full x hx ((bsB_bit _ _ _).1 hb).2 (h0 x)).1) (fun i hi hm hb x hx => ?_)⟩
  obtain ⟨h1, h2⟩ := (bsB_bit _ _ _).1 hb
  exact (bsB_bit _ _ _).2 ⟨hW i x hi hx, (p.full _ h1 h2 (h0 _)).2 i hi (by omega) x hx⟩
theorem kpt_end {R : Nat → Int} {W : Nat → Nat → Prop} {o : Nat → Nat → Bool} {H n : Nat} {M : Nat → Int} (ho : ∀ T i, i < n → (o T i = true ↔ Outw W T i)) (h : Kpt R W o H n n M) : (tknM M n : Int) = lbk R o H n (2 ^ H) := by
  obtain ⟨T, hT, hc⟩ := h.crt
  exact tkn_lbk ho h.giv hT hc
end Go.Proofs.Ytakljcpneghgnaa
