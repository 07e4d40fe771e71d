/-
  ValidWards, canBeCut, slices.Max and slices.Min: what they answer.
  Conditions: fewer than 2^20 numbers.
-/
import Derived.Test.YtoappopbjnlbdaaZB
import Derived.Test.YtoappopbjnlbdaaFO
namespace Go.Proofs.Ytoappopbjnlbdaa
open Go.ChangeShapes Go.WideShapes Go.ChangeAt Go.RowKit
set_option linter.unusedVariables false
set_option maxRecDepth 4000

theorem own_lowZ {w : World} {B B' s n : Nat} {e : TypeId} {v : Value} {xs : List Value} (h : w.ownsRow B e s v n xs) (hB : B' ≤ B) : w.ownsRow B' e s v n xs := by
  refine ⟨h.1, ?_⟩
  rcases h.2 with h0 | ⟨g, cap, cur, h1, h2, h3⟩
  · exact .inl h0
  · exact .inr ⟨g, cap, cur, h1, by omega, h3⟩
/-- Streets as a function is given them. -/
structure LIn (w : World) (A : Option Addr) (c m : Nat) (zs : List Int) : Prop where
  rd : RdI w w.heap.size A zs
  len : zs.length = m
  cap : m ≤ c ∧ c ≤ 9223372036854775807
  most : m ≤ 1048576
theorem LIn.later {w w' : World} {A : Option Addr} {c m : Nat} {zs : List Int} (h : LIn w A c m zs) (hb : Below w.heap.size w w') : LIn w' A c m zs :=
  ⟨(h.rd.below hb).more hb.size, h.len, h.cap, h.most⟩
def vw (zs : List Int) : Bool := decide (1 ≤ zs.length) && decide (zs.length ≤ 10) && okF zs
structure Wd (zs : List Int) : Prop where
  n1 : 1 ≤ zs.length
  n10 : zs.length ≤ 10
  ok : ∀ x, x ∈ zs → 0 ≤ x ∧ x ≤ 20
theorem vw_iff {zs : List Int} : vw zs = true ↔ Wd zs := by
  unfold vw okF
  simp only [Bool.and_eq_true, decide_eq_true_eq, List.all_eq_true]
  constructor
  · intro h; exact ⟨h.1.1, h.1.2, h.2⟩
  · intro h; exact ⟨⟨h.n1, h.n10⟩, h.ok⟩
theorem Wd.ge0 {zs : List Int} (h : Wd zs) : Ge0 zs := fun x hx => (h.ok x hx).1
theorem Wd.ne {zs : List Int} (h : Wd zs) : zs ≠ [] := List.length_pos_iff.1 h.n1
theorem Wd.at_ {zs : List Int} (h : Wd zs) {k : Nat} (hk : k < zs.length) : 0 ≤ zs.getD k 0 ∧ zs.getD k 0 ≤ 20 := h.ok _ (getD_mem hk)
theorem Wd.rev {zs : List Int} (h : Wd zs) : Wd zs.reverse := ⟨by simpa using h.n1, by simpa using h.n10, fun x hx => h.ok x (by simpa using hx)⟩
theorem vw_rev (zs : List Int) : vw zs.reverse = vw zs := by
  rw [Bool.eq_iff_iff, vw_iff, vw_iff]
  exact ⟨fun h => by simpa using h.rev, fun h => h.rev⟩
theorem Wd.sm {zs : List Int} (h : Wd zs) : 0 ≤ sm zs ∧ sm zs ≤ 200 := by
  refine ⟨sm_ge0 h.ge0, ?_⟩
  have := sm_le_mul (ds := zs) (u := 20) fun x hx => (h.ok x hx).2
  have := h.n10
  omega

theorem iValidWards_any (A : Option Addr) (c m : Nat) (zs : List Int) (w : World) (h : LIn w A c m zs) :
    Calls Try.prog 17 #[.slice A m c] w fun e w' => e = .returned (.bool (vw zs)) ∧ w = w' := by
  have hm := h.most
  have H := Lib.hid (areFolk_any A c m zs w _ h.rd h.len (by omega))
  have hl := h.len
  by_cases h1 : 1 ≤ m
  · by_cases h2 : m ≤ 10
    · have HV : Hid (vw zs = okF zs) := by show _ = _; unfold vw; rw [hl]; simp [h1, h2]
      rw [HV.out]
      clear h hl hm
      go_enter Try.func17, Try.ntmps17
      go_wp2_with fail
      refine H.out.mono ?_
      rintro e w' ⟨rfl, rfl⟩
      go_wp2
      go_ret
      exact ⟨ret_bool (by simp), rfl⟩
    · have HV : Hid (vw zs = false) := by show _ = _; unfold vw; rw [hl]; simp [h2]
      rw [HV.out]
      clear h hl H
      go_enter Try.func17, Try.ntmps17
      go_wp2
      go_ret
      exact ⟨ret_bool (by simp), rfl⟩
  · have HV : Hid (vw zs = false) := by show _ = _; unfold vw; rw [hl]; simp; omega
    rw [HV.out]
    clear h hl H
    go_enter Try.func17, Try.ntmps17
    go_wp2
    go_ret
    exact ⟨ret_bool (by simp), rfl⟩

set_option maxHeartbeats 800000 in
theorem maxZ_any (A : Option Addr) (c n : Nat) (zs : List Int) (w : World) (B : Nat) (hr : RdI w B A zs) (hn : zs.length = n) (h1 : 1 ≤ n) (hb : n ≤ 1048576) (h0 : 0 ≤ zs.getD 0 0) :
    Calls Try.prog 54 #[.slice A n c] w fun e w' => e = .returned (.int .i64 (gM zs)) ∧ w = w' := by
  have Hn := Lib.hid hn
  have HR := Lib.hid hr
  have HE : Hid (gM (zs.take n) = gM zs) := by show _ = _; rw [← hn, List.take_length]
  clear hn
  obtain ⟨b, off, x, rfl, hbw, Hx, hc⟩ := hr.x (k := 0) (by rw [Hn.out]; omega)
  rw [Nat.add_zero] at hc
  have HS : Hid (gM (zs.take 1) = x) := by show _ = _; rw [take_snoc (k := 0) (by rw [Hn.out]; omega), gM_snoc]; rw [Hx.out] at h0 ⊢; simp [gM]; omega
  clear hr h0
  go_enter Try.func54, Try.ntmps54
  go_wp2
  go_loop [3, 4] (fun a i => ∃ k : Nat, ∃ g : Int, 1 ≤ k ∧ k ≤ n ∧ a = .int .i64 g ∧ Hid (gM (zs.take k) = g) ∧ i = .int .i64 k) (fun _ i => n - (intOf i).toNat)
  case atStart => exact ⟨1, x, by omega, h1, rfl, HS, rfl⟩
  case round =>
    obtain ⟨k, g, hk1, hk, rfl, Hg, rfl⟩ := hrel
    by_cases hlt : k < n
    · obtain ⟨b', off', y, he, -, Hy, hcy⟩ := HR.out.x (k := k) (by rw [Hn.out]; exact hlt)
      injection he with he
      injection he with he1 he2
      subst he1 he2
      have Hs : Hid (gM (zs.take (k + 1)) = if g < y then y else g) := by show _ = _; rw [take_snoc (by rw [Hn.out]; exact hlt), gM_snoc, Hg.out, Hy.out]; split <;> omega
      go_wp2
      all_goals
        go_round
        case rel => exact ⟨k + 1, _, by omega, by omega, rfl, by show _ = _; rw [Hs.out]; try (split <;> omega), by go_num⟩
        case measure => simp [intOf]; omega
    · obtain rfl : k = n := by omega
      go_wp2
      go_ret
      exact ⟨ret_int (by rw [← HE.out]; exact Hg.out.symm), rfl⟩
set_option maxHeartbeats 800000 in
theorem minZ_any (A : Option Addr) (c n : Nat) (zs : List Int) (w : World) (B : Nat) (hr : RdI w B A zs) (hn : zs.length = n) (h1 : 1 ≤ n) (hb : n ≤ 1048576) (h0 : zs.getD 0 0 ≤ 100000) :
    Calls Try.prog 59 #[.slice A n c] w fun e w' => e = .returned (.int .i64 (gN zs)) ∧ w = w' := by
  have Hn := Lib.hid hn
  have HR := Lib.hid hr
  have HE : Hid (gN (zs.take n) = gN zs) := by show _ = _; rw [← hn, List.take_length]
  clear hn
  obtain ⟨b, off, x, rfl, hbw, Hx, hc⟩ := hr.x (k := 0) (by rw [Hn.out]; omega)
  rw [Nat.add_zero] at hc
  have HS : Hid (gN (zs.take 1) = x) := by show _ = _; rw [take_snoc (k := 0) (by rw [Hn.out]; omega), gN_snoc]; rw [Hx.out] at h0 ⊢; simp [gN]; omega
  clear hr h0
  go_enter Try.func59, Try.ntmps59
  go_wp2
  go_loop [3, 4] (fun a i => ∃ k : Nat, ∃ g : Int, 1 ≤ k ∧ k ≤ n ∧ a = .int .i64 g ∧ Hid (gN (zs.take k) = g) ∧ i = .int .i64 k) (fun _ i => n - (intOf i).toNat)
  case atStart => exact ⟨1, x, by omega, h1, rfl, HS, rfl⟩
  case round =>
    obtain ⟨k, g, hk1, hk, rfl, Hg, rfl⟩ := hrel
    by_cases hlt : k < n
    · obtain ⟨b', off', y, he, -, Hy, hcy⟩ := HR.out.x (k := k) (by rw [Hn.out]; exact hlt)
      injection he with he
      injection he with he1 he2
      subst he1 he2
      have Hs : Hid (gN (zs.take (k + 1)) = if y < g then y else g) := by show _ = _; rw [take_snoc (by rw [Hn.out]; exact hlt), gN_snoc, Hg.out, Hy.out]; split <;> omega
      go_wp2
      all_goals
        go_round
        case rel => exact ⟨k + 1, _, by omega, by omega, rfl, by show _ = _; rw [Hs.out]; try (split <;> omega), by go_num⟩
        case measure => simp [intOf]; omega
    · obtain rfl : k = n := by omega
      go_wp2
      go_ret
      exact ⟨ret_int (by rw [← HE.out]; exact Hg.out.symm), rfl⟩

/-- Streets that can be cut into districts of at most so many people. -/
def cbc (zs : List Int) (m : Int) : Bool := vw zs && decide (gM zs ≤ m) && decide (m ≤ 1000)
theorem gM_le_iff {zs : List Int} (h : Wd zs) {m : Int} : gM zs ≤ m ↔ ∀ x, x ∈ zs → x ≤ m := by
  constructor
  · intro hm x hx; have := gM_ge x hx; omega
  · intro hm
    refine gM_le ?_ hm
    have h1 := hm _ (getD_mem (zs := zs) (k := 0) h.n1)
    have h2 := h.at_ (k := 0) h.n1
    omega
theorem cbc_iff {zs : List Int} {m : Int} : cbc zs m = true ↔ Wd zs ∧ (∀ x, x ∈ zs → x ≤ m) ∧ m ≤ 1000 := by
  unfold cbc
  simp only [Bool.and_eq_true, decide_eq_true_eq, vw_iff]
  constructor
  · rintro ⟨⟨h1, h2⟩, h3⟩; exact ⟨h1, (gM_le_iff h1).1 h2, h3⟩
  · rintro ⟨h1, h2, h3⟩; exact ⟨⟨h1, (gM_le_iff h1).2 h2⟩, h3⟩
theorem canBeCut_any (A : Option Addr) (c n : Nat) (zs : List Int) (m : Int) (w : World) (h : LIn w A c n zs) :
    Calls Try.prog 47 #[.slice A n c, .int .i64 m] w fun e w' => e = .returned (.bool (cbc zs m)) ∧ w = w' := by
  have H1 := Lib.hid (iValidWards_any A c n zs w h)
  by_cases hv : vw zs = true
  · have hw := vw_iff.1 hv
    have hn1 := hw.n1
    rw [h.len] at hn1
    have H2 := Lib.hid (maxZ_any A c n zs w _ h.rd h.len hn1 h.most (hw.at_ hw.n1).1)
    rw [hv] at H1
    have hg0 : 0 ≤ gM zs := by have h1 := gM_ge _ (getD_mem (zs := zs) (k := 0) hw.n1); have h2 := hw.at_ hw.n1; omega
    have hg1 : gM zs ≤ 20 := gM_le (by omega) fun x hx => (hw.ok x hx).2
    have HV : Hid (cbc zs m = (decide (gM zs ≤ m) && decide (m ≤ 1000))) := by show _ = _; unfold cbc; rw [hv]; simp
    rw [HV.out]
    obtain ⟨g, Hg⟩ : ∃ g, Hid (gM zs = g) := ⟨_, rfl⟩
    rw [Hg.out] at hg0 hg1 H2 ⊢
    clear hw hv h
    by_cases h1 : g ≤ m <;> by_cases h2 : m ≤ 1000
    all_goals
      go_enter Try.func47, Try.ntmps47
      go_wp2_with fail
      refine H1.out.mono ?_
      rintro e w' ⟨rfl, rfl⟩
      go_wp2_with fail
      refine H2.out.mono ?_
      rintro e w' ⟨rfl, rfl⟩
      go_wp2
      all_goals
        go_ret
        exact ⟨ret_bool (by simp <;> omega), rfl⟩
  · have hv' : vw zs = false := by simpa using hv
    rw [hv'] at H1
    have HV : Hid (cbc zs m = false) := by show _ = _; unfold cbc; rw [hv']; rfl
    rw [HV.out]
    clear hv hv' h
    go_enter Try.func47, Try.ntmps47
    go_wp2_with fail
    refine H1.out.mono ?_
    rintro e w' ⟨rfl, rfl⟩
    go_wp2
    go_ret
    exact ⟨ret_bool rfl, rfl⟩
end Go.Proofs.Ytoappopbjnlbdaa
