/-
  ValidRound of the program, walked; rounds as a function is given them.
  Conditions: fewer than 2^20 times.
-/
import Derived.Test.YtdkonaaoanggiaaYB
namespace Go.Proofs.Ytdkonaaoanggiaa
open Go.ChangeShapes Go.WideShapes Go.ChangeAt Go.RowKit
set_option linter.unusedVariables false
set_option maxRecDepth 4000

/-- A round as a function is given it. -/
structure RoundIn (w : World) (A : Option Addr) (c m : Nat) (zs : List Int) : Prop where
  rd : RdI w w.heap.size A zs
  len : zs.length = m
  cap : m ≤ c ∧ c ≤ 9223372036854775807
  most : m ≤ 1048576
theorem RoundIn.later {w w' : World} {A : Option Addr} {c m : Nat} {zs : List Int} (h : RoundIn w A c m zs) (hb : Below w.heap.size w w') : RoundIn w' A c m zs :=
  ⟨(h.rd.below hb).more hb.size, h.len, h.cap, h.most⟩
/-- Whether it is a round: the contract. -/
def YBool (F : Nat) : Prop := ∀ (n : Int) (A : Option Addr) (c m : Nat) (zs : List Int) (w : World), RoundIn w A c m zs →
  Calls Try.prog F #[.int .i64 n, .slice A m c] w fun e w' => e = .returned (.bool (vrY n zs)) ∧ Below w.heap.size w w'

theorem vrY_yes {n : Int} {zs : List Int} (h : Rnd n zs) : vrY n zs = true := by unfold vrY; rw [decide_eq_true_iff]; exact h
theorem vrY_no {n : Int} {zs : List Int} (h : ¬ Rnd n zs) : vrY n zs = false := by unfold vrY; rw [decide_eq_false_iff_not]; exact h
theorem vrY_iff {n : Int} {zs : List Int} : vrY n zs = true ↔ Rnd n zs := by unfold vrY; rw [decide_eq_true_iff]

theorem validSpots_any (n : Int) (w : World) : Calls Try.prog 46 #[.int .i64 n] w fun e w' => e = .returned (.bool (decide (1 ≤ n) && decide (n ≤ 8))) ∧ w = w' := by
  by_cases h1 : 1 ≤ n <;> by_cases h2 : n ≤ 8
  all_goals
    go_enter Try.func46, Try.ntmps46
    go_wp2
    go_ret
    exact ⟨ret_bool (by simp [h1, h2]), rfl⟩
/-- distance of a spot from any number. -/
theorem distance_wild (a p : Int) (w : World) (h1 : 0 ≤ a) (h2 : a < 8) : Calls Try.prog 47 #[.int .i64 a, .int .i64 p] w fun e w' => ∃ d : Int, e = .returned (.int .i64 d) ∧ (0 ≤ p → p < 8 → d = gapI a p) ∧ w = w' := by
  by_cases hp : -1000 ≤ p ∧ p ≤ 1000
  · refine (distance_any a p w (by omega) (by omega) hp.1 hp.2).mono ?_
    rintro e w' ⟨rfl, rfl⟩
    exact ⟨_, rfl, fun _ _ => rfl, rfl⟩
  · have hbad : 0 ≤ p → p < 8 → False := fun _ _ => by omega
    have Hbad := Lib.hid hbad
    obtain ⟨u, Hu⟩ : ∃ u, Hid (IntKind.i64.wrap (a - p) = u) := ⟨_, rfl⟩
    obtain ⟨v, Hv⟩ : ∃ v, Hid (IntKind.i64.wrap (p - a) = v) := ⟨_, rfl⟩
    have hu := Hu.out
    have hv := Hv.out
    clear hbad hp
    go_enter Try.func47, Try.ntmps47
    go_wp2
    all_goals
      go_ret
      exact ⟨_, rfl, fun x y => (Hbad.out x y).elim, rfl⟩

/-- Where the helper was ahead of a time. -/
def prY (zs : List Int) (m k : Nat) : Int := zs.getD (if k = 0 then m - 1 else k - 1) 0
def GoodY (n : Int) (zs : List Int) (m k : Nat) : Prop := ∀ i, i < k → (0 ≤ zs.getD i 0 ∧ zs.getD i 0 < n) ∧ (0 ≤ prY zs m i → prY zs m i < n → gapI (zs.getD i 0) (prY zs m i) ≤ 1)
theorem goodY_step {n : Int} {zs : List Int} {m k : Nat} (h : GoodY n zs m k) (h1 : 0 ≤ zs.getD k 0) (h2 : zs.getD k 0 < n) (h3 : 0 ≤ prY zs m k → prY zs m k < n → gapI (zs.getD k 0) (prY zs m k) ≤ 1) : GoodY n zs m (k + 1) := by
  intro i hi
  by_cases e : i = k
  · subst e; exact ⟨⟨h1, h2⟩, h3⟩
  · exact h i (by omega)
theorem prY_in {n : Int} {zs : List Int} {m : Nat} (hm : zs.length = m) (h : ∀ i, i < m → 0 ≤ zs.getD i 0 ∧ zs.getD i 0 < n) {k : Nat} (hk : k < m) : 0 ≤ prY zs m k ∧ prY zs m k < n := by
  unfold prY
  split
  · exact h _ (by omega)
  · exact h _ (by omega)
theorem goodY_end {n : Int} {zs : List Int} {m : Nat} (h : GoodY n zs m m) (hm : zs.length = m) (h1 : 1 ≤ n) (h8 : n ≤ 8) (hm1 : 1 ≤ m) (hm2 : m ≤ 20) : Rnd n zs := by
  have hin : ∀ i, i < m → 0 ≤ zs.getD i 0 ∧ zs.getD i 0 < n := fun i hi => (h i hi).1
  refine ⟨h1, h8, by omega, by omega, fun i hi => hin i (by omega), fun i hi => ?_⟩
  rw [hm] at hi ⊢
  rw [gapI_symm]
  by_cases e : i + 1 < m
  · rw [Nat.mod_eq_of_lt e]
    have hp := prY_in hm hin e
    have := (h (i + 1) e).2 hp.1 hp.2
    unfold prY at this
    rw [if_neg (by omega), Nat.add_sub_cancel] at this
    exact this
  · have e2 : (i + 1) % m = 0 := by rw [show i + 1 = m by omega, Nat.mod_self]
    rw [e2]
    have hp := prY_in hm hin (show 0 < m by omega)
    have := (h 0 (by omega)).2 hp.1 hp.2
    unfold prY at this
    rw [if_pos rfl, show m - 1 = i by omega] at this
    exact this
theorem rnd_no {n : Int} {zs : List Int} {m k : Nat} (hm : zs.length = m) (hk : k < m) (h : zs.getD k 0 < 0 ∨ n ≤ zs.getD k 0 ∨ (0 ≤ prY zs m k → prY zs m k < n → 1 < gapI (zs.getD k 0) (prY zs m k))) : vrY n zs = false := by
  refine vrY_no fun hR => ?_
  have hin : ∀ i, i < m → 0 ≤ zs.getD i 0 ∧ zs.getD i 0 < n := fun i hi => hR.inn (by omega)
  have h1 := hin k hk
  have hp := prY_in hm hin hk
  rcases h with h | h | h
  · omega
  · omega
  · have h2 := h hp.1 hp.2
    have hadj := hR.adj (i := if k = 0 then m - 1 else k - 1) (by split <;> omega)
    have e : ((if k = 0 then m - 1 else k - 1) + 1) % zs.length = k := by
      rw [hm]
      split
      · rw [show m - 1 + 1 = m by omega, Nat.mod_self]; omega
      · rw [show k - 1 + 1 = k by omega, Nat.mod_eq_of_lt hk]
    rw [e, gapI_symm] at hadj
    unfold prY at h2
    omega

def VrRel (n : Int) (zs : List Int) (m : Nat) (p i : Value) : Prop := ∃ k : Nat, ∃ a : Int, k ≤ m ∧ p = .int .i64 a ∧ i = .int .i64 k ∧ Hid (prY zs m k = a ∨ k = m) ∧ Hid (GoodY n zs m k)
set_option maxHeartbeats 1600000 in
theorem iValidRound_ok : YBool 18 := by
  intro n A c m zs w h
  have H1 := Lib.hid (fun W => validSpots_any n W)
  have Hn := Lib.hid h.len
  have hmost := h.most
  have HR := Lib.hid h.rd
  clear h
  by_cases hn : 1 ≤ n ∧ n ≤ 8
  · have hv : (decide (1 ≤ n) && decide (n ≤ 8)) = true := by simp [hn.1, hn.2]
    rw [hv] at H1
    have hn1 := hn.1
    have hn8 := hn.2
    clear hn hv
    by_cases hm1 : m < 1
    · have HE : Hid (vrY n zs = false) := vrY_no fun hR => by have := hR.l1; have := Hn.out; omega
      go_enter Try.func18, Try.ntmps18
      go_wp2_with fail
      refine (H1.out w).mono ?_
      rintro e w' ⟨rfl, rfl⟩
      go_wp2
      go_ret
      exact ⟨ret_bool HE.out.symm, Below.refl _ _⟩
    · by_cases hm2 : 20 < m
      · have HE : Hid (vrY n zs = false) := vrY_no fun hR => by have := hR.l20; have := Hn.out; omega
        go_enter Try.func18, Try.ntmps18
        go_wp2_with fail
        refine (H1.out w).mono ?_
        rintro e w' ⟨rfl, rfl⟩
        go_wp2
        go_ret
        exact ⟨ret_bool HE.out.symm, Below.refl _ _⟩
      · obtain ⟨b, off, z, rfl, hbw, Hz, hcz⟩ := HR.out.x (k := m - 1) (by rw [Hn.out]; omega)
        have hm1c : ((m - 1 : Nat) : Int) = (m : Int) - 1 := by omega
        have hidx : ((m : Int) - 1).toNat = m - 1 := by omega
        have HG0 : Hid (GoodY n zs m 0) := fun i hi => by omega
        have HP0 : Hid (prY zs m 0 = z ∨ 0 = m) := by left; unfold prY; rw [if_pos rfl]; exact Hz.out
        go_enter Try.func18, Try.ntmps18
        go_wp2_with fail
        refine (H1.out w).mono ?_
        rintro e w' ⟨rfl, rfl⟩
        go_wp2
        go_loop [5, 29] (fun p i => VrRel n zs m p i) (fun _ i => m - (intOf i).toNat)
        case atStart => exact ⟨0, z, by omega, rfl, rfl, HP0, HG0⟩
        case round =>
          clear HG0 HP0 hcz hidx hm1c
          obtain ⟨k, a, hk, rfl, rfl, HP, HG⟩ := hrel
          by_cases hlt : k < m
          · obtain ⟨b', off', x, he, -, Hx, hcx⟩ := HR.out.x (k := k) (by rw [Hn.out]; exact hlt)
            injection he with he
            injection he with he1 he2
            subst he1 he2
            have HPa : Hid (prY zs m k = a) := by show _ = _; rcases HP.out with h | h; exact h; omega
            by_cases hx0 : x < 0
            · have HE : Hid (vrY n zs = false) := rnd_no Hn.out hlt (by left; rw [Hx.out]; exact hx0)
              go_wp2
              go_ret
              exact ⟨ret_bool HE.out.symm, Below.refl _ _⟩
            · by_cases hxn : n ≤ x
              · have HE : Hid (vrY n zs = false) := rnd_no Hn.out hlt (by right; left; rw [Hx.out]; exact hxn)
                go_wp2
                go_ret
                exact ⟨ret_bool HE.out.symm, Below.refl _ _⟩
              · go_wp2_with fail
                refine (distance_wild x a w (by omega) (by omega)).mono ?_
                rintro e w' ⟨d, rfl, hd, rfl⟩
                by_cases hd1 : 1 < d
                · have HE : Hid (vrY n zs = false) := rnd_no Hn.out hlt (by right; right; rw [HPa.out, Hx.out]; intro h1 h2; rw [← hd h1 (by omega)]; exact hd1)
                  clear hd
                  go_wp2
                  go_ret
                  exact ⟨ret_bool HE.out.symm, Below.refl _ _⟩
                · have HG2 : Hid (GoodY n zs m (k + 1)) := goodY_step HG.out (by rw [Hx.out]; omega) (by rw [Hx.out]; omega) (by rw [HPa.out, Hx.out]; intro h1 h2; rw [← hd h1 (by omega)]; omega)
                  have HP2 : Hid (prY zs m (k + 1) = x ∨ k + 1 = m) := by left; unfold prY; rw [if_neg (by omega), Nat.add_sub_cancel]; exact Hx.out
                  clear hd
                  go_wp2
                  go_round
                  case rel => exact ⟨k + 1, x, by omega, rfl, by go_num, HP2, HG2⟩
                  case measure => simp [intOf]; omega
          · obtain rfl : k = m := by omega
            have HE : Hid (vrY n zs = true) := vrY_yes (goodY_end HG.out Hn.out hn1 hn8 (by omega) (by omega))
            go_wp2
            go_ret
            exact ⟨ret_bool HE.out.symm, Below.refl _ _⟩
  · have hv : (decide (1 ≤ n) && decide (n ≤ 8)) = false := by
      rw [Bool.and_eq_false_iff, decide_eq_false_iff_not, decide_eq_false_iff_not]
      rcases (show ¬ 1 ≤ n ∨ ¬ n ≤ 8 by omega) with h | h
      · exact .inl h
      · exact .inr h
    rw [hv] at H1
    have HE : Hid (vrY n zs = false) := vrY_no fun hR => hn ⟨hR.n1, hR.n8⟩
    clear hn hv
    go_enter Try.func18, Try.ntmps18
    go_wp2_with fail
    refine (H1.out w).mono ?_
    rintro e w' ⟨rfl, rfl⟩
    go_wp2
    go_ret
    exact ⟨ret_bool HE.out.symm, Below.refl _ _⟩
end Go.Proofs.Ytdkonaaoanggiaa
