/-
  ValidHomes: the program and the model answer the same: at most ten numbers in 0..50, none less than the one ahead of it.
  Conditions: fewer than 2^60 numbers.
  The model's validHomes answers the same test.
  Conditions: fewer than 2^60 numbers.
  The laws' isIn and different.
  Conditions: none.
  Small parts of chapter 1's contracts that other laws take too: what valid homes are, how far reaches, cut rows.
  Conditions: none beyond what each theorem states.
  Plain mathematics of MostApart: the table of the most homes that are apart and end at a home.
  Conditions: none beyond what each theorem states.
  The law FnMostApart: what it takes (the parts lie in DF).
  Conditions: none.
  Lines are trees: homes on a line that are apart are nodes of the line's tree that are apart.
  Conditions: none beyond what each theorem states.
-/
import Derived.Test.YtdhelapgdgekfaaZ4
import Derived.Test.YtdhelapgdgekfaaZ2
import Derived.Test.YtdhelapgdgekfaaZ0
namespace Go.Proofs.Ytdhelapgdgekfaa
open Go.ChangeShapes Go.WideShapes Go.ChangeAt Go.RowKit
set_option linter.unusedVariables false

/-- From a number on: none less than the one ahead, none over 50. -/
def okFrom (a : Int) : List Int → Bool
  | [] => true
  | x :: r => decide (a ≤ x) && (decide (x ≤ 50) && okFrom x r)
def vh (zs : List Int) : Bool := decide (zs.length ≤ 10) && okFrom 0 zs
theorem drop_cons {zs : List Int} {k : Nat} {x : Int} (hk : k < zs.length) (hx : zs.getD k 0 = x) : zs.drop k = x :: zs.drop (k + 1) := by
  rw [List.drop_eq_getElem_cons hk]
  have e1 : zs.getD k 0 = zs[k] := by simp [List.getD, List.getElem?_eq_getElem hk]
  rw [← hx, e1]
theorem okFrom_step {zs : List Int} {k : Nat} {x a : Int} (hk : k < zs.length) (hx : zs.getD k 0 = x) (h : okFrom 0 zs = okFrom a (zs.drop k)) (h1 : a ≤ x) (h2 : x ≤ 50) :
    okFrom 0 zs = okFrom x (zs.drop (k + 1)) := by
  rw [h, drop_cons hk hx]; simp [okFrom, h1, h2]
theorem okFrom_no {zs : List Int} {k : Nat} {x a : Int} (hk : k < zs.length) (hx : zs.getD k 0 = x) (h : okFrom 0 zs = okFrom a (zs.drop k)) (h1 : x < a ∨ 50 < x) :
    vh zs = false := by
  unfold vh
  rw [h, drop_cons hk hx]
  rcases h1 with h1 | h1
  · have : ¬ a ≤ x := by omega
    simp [okFrom, this]
  · have : ¬ x ≤ 50 := by omega
    simp [okFrom, this]
theorem okFrom_end {zs : List Int} {k : Nat} {a : Int} (hk : zs.length ≤ k) (h : okFrom 0 zs = okFrom a (zs.drop k)) : okFrom 0 zs = true := by
  rw [h, List.drop_of_length_le hk]; rfl
theorem vh_long {zs : List Int} (h : 10 < zs.length) : vh zs = false := by unfold vh; simp; omega
theorem vh_short {zs : List Int} (h : zs.length ≤ 10) (h1 : okFrom 0 zs = true) : vh zs = true := by unfold vh; simp [h, h1]

set_option maxHeartbeats 400000 in
theorem iValid_any (A : Option Addr) (c n : Nat) (zs : List Int) (w : World) (B : Nat) (hr : RdI w B A zs) (hn : zs.length = n) (hb : n ≤ 1152921504606846976) :
    Calls Try.prog 94 #[.slice A n c] w fun e w' => e = .returned (.bool (vh zs)) ∧ w = w' := by
  by_cases h10 : 10 < n
  · have Hs := Lib.hid (vh_long (zs := zs) (by omega))
    clear hn
    go_enter Try.func94, Try.ntmps94
    go_wp2
    go_ret
    exact ⟨ret_bool Hs.out.symm, rfl⟩
  · have Hn := Lib.hid hn
    clear hn
    go_enter Try.func94, Try.ntmps94
    go_wp2
    go_loop [3, 11] (fun a i => ∃ k : Nat, ∃ y : Int, k ≤ n ∧ Hid (okFrom 0 zs = okFrom y (zs.drop k)) ∧ i = .int .i64 k ∧ a = .int .i64 y) (fun _ i => n - (intOf i).toNat)
    case atStart => exact ⟨0, 0, Nat.zero_le _, rfl, rfl, rfl⟩
    case round =>
      obtain ⟨k, y, hk, Ho, rfl, rfl⟩ := hrel
      by_cases hlt : k < n
      · obtain ⟨b, off, x, rfl, hbw, Hx, hc⟩ := hr.x (k := k) (by rw [Hn.out]; exact hlt)
        by_cases h1 : x < y ∨ 50 < x
        · have Hs := Lib.hid (okFrom_no (by rw [Hn.out]; exact hlt) Hx.out Ho.out h1)
          rcases h1 with h1 | h1
          · go_wp2
            go_ret
            exact ⟨ret_bool Hs.out.symm, rfl⟩
          · by_cases h2 : x < y
            all_goals
              go_wp2
              go_ret
              exact ⟨ret_bool Hs.out.symm, rfl⟩
        · have h2 : y ≤ x := by omega
          have h3 : x ≤ 50 := by omega
          have Hs := Lib.hid (okFrom_step (by rw [Hn.out]; exact hlt) Hx.out Ho.out h2 h3)
          go_wp2
          go_round
          case rel => exact ⟨k + 1, x, by omega, Hs, by go_num, rfl⟩
          case measure => simp [intOf]; omega
      · have Hs := Lib.hid (vh_short (by rw [Hn.out]; omega) (okFrom_end (by rw [Hn.out]; omega) Ho.out))
        go_wp2
        go_ret
        exact ⟨ret_bool Hs.out.symm, rfl⟩
end Go.Proofs.Ytdhelapgdgekfaa
namespace Go.Proofs.Ytdhelapgdgekfaa
open Go.ChangeShapes Go.WideShapes Go.ChangeAt Go.RowKit
set_option linter.unusedVariables false

/-- The number ahead of place k, 0 for none. -/
def ahead (zs : List Int) (k : Nat) : Int := if k = 0 then 0 else zs.getD (k - 1) 0
theorem ahead_zero (zs : List Int) : ahead zs 0 = 0 := rfl
theorem ahead_succ (zs : List Int) (j : Nat) : ahead zs (j + 1) = zs.getD j 0 := by simp [ahead]

set_option maxHeartbeats 400000 in
theorem sValid_any (A : Option Addr) (c n : Nat) (zs : List Int) (w : World) (B : Nat) (hr : RdI w B A zs) (hn : zs.length = n) (hb : n ≤ 1152921504606846976) :
    Calls Try.prog 95 #[.slice A n c] w fun e w' => e = .returned (.bool (vh zs)) ∧ ∃ q, w' = w.drewN q := by
  have Hn := Lib.hid hn
  clear hn
  go_enter Try.func95, Try.ntmps95
  go_wp2
  go_loopw [3] (fun i wr => ∃ k : Nat, ∃ q, k ≤ n ∧ Hid (okFrom 0 zs = okFrom (ahead zs k) (zs.drop k)) ∧ Hid (0 ≤ ahead zs k) ∧ i = .int .i64 k ∧ wr = w.drewN q) (fun i _ => n - (intOf i).toNat)
  case atStart => exact ⟨0, 0, Nat.zero_le _, rfl, (by show (0 : Int) ≤ ahead zs 0; rw [ahead_zero]; omega), rfl, rfl⟩
  case round =>
    obtain ⟨k, q, hk, Ho, Hp, rfl, rfl⟩ := hrel
    by_cases hlt : k < n
    · obtain ⟨b, off, x, rfl, hbw, Hx, hc⟩ := hr.x (k := k) (by rw [Hn.out]; exact hlt)
      by_cases h1 : x < 0 ∨ 50 < x
      · have Hs := Lib.hid (okFrom_no (a := ahead zs k) (by rw [Hn.out]; exact hlt) Hx.out Ho.out (by have := Hp.out; omega))
        go_wp2
        go_quiet ((go_at_call 68; exact quiet_gen (inRange_no _ _ _ _ h1) ⟨_, rfl⟩))
        go_wp2
        go_ret
        exact ⟨ret_bool Hs.out.symm, _, World.drewN_drewN _ _ _⟩
      · have h2 : 0 ≤ x := by omega
        have h3 : x ≤ 50 := by omega
        clear h1
        rcases Nat.eq_zero_or_pos k with hk0 | hk0
        · subst hk0
          rw [Nat.add_zero] at hc
          have Hs := Lib.hid (okFrom_step (by rw [Hn.out]; exact hlt) Hx.out Ho.out (by rw [ahead_zero]; exact h2) h3)
          go_wp2
          go_quiet ((go_at_call 68; exact quiet_gen (inRange_yes _ _ _ _ h2 h3) ⟨_, rfl⟩))
          go_wp2
          go_roundw
          case rel => exact ⟨1, _, by omega, (by show okFrom 0 zs = okFrom (ahead zs (0 + 1)) (zs.drop 1); rw [ahead_succ, Hx.out]; exact Hs.out), (by show 0 ≤ ahead zs (0 + 1); rw [ahead_succ, Hx.out]; exact h2), rfl, rfl⟩
          case measure => simp [intOf]; omega
        · obtain ⟨j, rfl⟩ : ∃ j, k = j + 1 := ⟨k - 1, by omega⟩
          obtain ⟨b', off', y, he, _, Hy, hcy⟩ := hr.x (k := j) (by rw [Hn.out]; omega)
          injection he with he
          injection he with he1 he2
          subst he1 he2
          have Ha := ahead_succ zs j
          rw [Hy.out] at Ha
          by_cases hxy : x < y
          · have Hs := Lib.hid (okFrom_no (a := ahead zs (j + 1)) (by rw [Hn.out]; exact hlt) Hx.out Ho.out (by rw [Ha]; exact .inl hxy))
            clear Ha
            go_wp2
            go_quiet ((go_at_call 68; exact quiet_gen (inRange_yes _ _ _ _ h2 h3) ⟨_, rfl⟩))
            go_wp2
            go_ret
            exact ⟨ret_bool Hs.out.symm, _, World.drewN_drewN _ _ _⟩
          · have Hs := Lib.hid (okFrom_step (by rw [Hn.out]; exact hlt) Hx.out Ho.out (by rw [Ha]; omega) h3)
            clear Ha
            go_wp2
            go_quiet ((go_at_call 68; exact quiet_gen (inRange_yes _ _ _ _ h2 h3) ⟨_, rfl⟩))
            go_wp2
            go_roundw
            case rel => exact ⟨j + 2, _, by omega, (by show okFrom 0 zs = okFrom (ahead zs (j + 1 + 1)) (zs.drop (j + 1 + 1)); rw [ahead_succ, Hx.out]; exact Hs.out), (by show 0 ≤ ahead zs (j + 1 + 1); rw [ahead_succ, Hx.out]; exact h2), by go_num, rfl⟩
            case measure => simp [intOf]; omega
    · have Ho' := okFrom_end (by rw [Hn.out]; omega) Ho.out
      by_cases h10 : n ≤ 10
      · have Hs := Lib.hid (vh_short (by rw [Hn.out]; omega) Ho')
        clear Ho'
        go_wp2
        go_ret
        exact ⟨ret_bool (by rw [Hs.out]; simp; omega), _, rfl⟩
      · have Hs := Lib.hid (vh_long (zs := zs) (by rw [Hn.out]; omega))
        clear Ho'
        go_wp2
        go_ret
        exact ⟨ret_bool (by rw [Hs.out]; simp; omega), _, rfl⟩
end Go.Proofs.Ytdhelapgdgekfaa
namespace Go.Proofs.Ytdhelapgdgekfaa
open Go.ChangeShapes Go.WideShapes Go.ChangeAt Go.RowKit
set_option linter.unusedVariables false

theorem take_snoc_getD {zs : List Int} {j : Nat} (hj : j < zs.length) : zs.take (j + 1) = zs.take j ++ [zs.getD j 0] := by
  rw [List.take_succ_eq_append_getElem hj]
  simp [List.getD, List.getElem?_eq_getElem hj]
theorem RdI.take {w : World} {B : Nat} {A : Option Addr} {zs : List Int} (h : RdI w B A zs) (k : Nat) : RdI w B A (zs.take k) := fun hp => by
  have hl : (zs.take k).length ≤ zs.length := by rw [List.length_take]; omega
  obtain ⟨b, off, e, hb, hc⟩ := h (by omega)
  refine ⟨b, off, e, hb, fun i hi => ?_⟩
  have hik : i < k := by rw [List.length_take] at hi; omega
  rw [hc i (by omega)]
  simp [hik]
def hasB (l : List Int) (y : Int) : Bool := l.contains y
theorem isIn_step {zs : List Int} {k : Nat} {x y : Int} (hk : k < zs.length) (hx : zs.getD k 0 = x) (h : y ∉ zs.take k) (hne : ¬ x = y) : y ∉ zs.take (k + 1) := by
  rw [take_snoc_getD hk, hx]
  simp only [List.mem_append, List.mem_singleton, not_or]
  exact ⟨h, fun e => hne e.symm⟩
theorem isIn_yes {zs : List Int} {k : Nat} {y : Int} (hk : k < zs.length) (hx : zs.getD k 0 = y) : hasB zs y = true := by
  unfold hasB
  rw [List.contains_iff_mem, ← hx]
  simp [List.getD, List.getElem?_eq_getElem hk]
theorem isIn_no {zs : List Int} {k : Nat} {y : Int} (hk : zs.length ≤ k) (h : y ∉ zs.take k) : hasB zs y = false := by
  rw [List.take_of_length_le hk] at h
  unfold hasB
  simpa using h

set_option maxHeartbeats 400000 in
theorem isIn_any (A : Option Addr) (c n : Nat) (zs : List Int) (y : Int) (w : World) (B : Nat) (hr : RdI w B A zs) (hn : zs.length = n) (hb : n ≤ 1048576) :
    Calls Try.prog 96 #[.slice A n c, .int .i64 y] w fun e w' => e = .returned (.bool (hasB zs y)) ∧ w = w' := by
  have Hn := Lib.hid hn
  clear hn
  go_enter Try.func96, Try.ntmps96
  go_wp2
  go_loop [5] (fun i => ∃ k : Nat, k ≤ n ∧ Hid (y ∉ zs.take k) ∧ i = .int .i64 k) (fun i => n - (intOf i).toNat)
  case atStart => exact ⟨0, Nat.zero_le _, (by show y ∉ zs.take 0; simp), rfl⟩
  case round =>
    obtain ⟨k, hk, Hy, rfl⟩ := hrel
    by_cases hlt : k < n
    · obtain ⟨b, off, x, rfl, hbw, Hx, hc⟩ := hr.x (k := k) (by rw [Hn.out]; exact hlt)
      by_cases he : x = y
      · subst he
        have Hs := Lib.hid (isIn_yes (by rw [Hn.out]; exact hlt) Hx.out)
        go_wp2
        go_ret
        exact ⟨ret_bool Hs.out.symm, rfl⟩
      · have hb1 : (x == y) = false := by rw [beq_eq_false_iff_ne]; exact he
        have Hs := Lib.hid (isIn_step (by rw [Hn.out]; exact hlt) Hx.out Hy.out he)
        clear he
        go_wp2
        go_round
        case rel => exact ⟨k + 1, by omega, Hs, by go_num⟩
        case measure => simp [intOf]; omega
    · have Hs := Lib.hid (isIn_no (by rw [Hn.out]; omega) Hy.out)
      go_wp2
      go_ret
      exact ⟨ret_bool Hs.out.symm, rfl⟩

def diffc (zs : List Int) : Nat → Int
  | 0 => 0
  | i + 1 => if hasB (zs.take i) (zs.getD i 0) then diffc zs i else diffc zs i + 1
theorem diffc_bd (zs : List Int) : ∀ i, 0 ≤ diffc zs i ∧ diffc zs i ≤ i
  | 0 => by simp [diffc]
  | i + 1 => by have := diffc_bd zs i; simp only [diffc]; split <;> omega
theorem diffc_yes {zs : List Int} {k : Nat} {x : Int} (hx : zs.getD k 0 = x) (h : hasB (zs.take k) x = true) : diffc zs (k + 1) = diffc zs k := by
  simp only [diffc, hx, h, if_true]
theorem diffc_no {zs : List Int} {k : Nat} {x : Int} (hx : zs.getD k 0 = x) (h : hasB (zs.take k) x = false) : diffc zs (k + 1) = diffc zs k + 1 := by
  simp only [diffc, hx, h]; rfl

set_option maxHeartbeats 400000 in
theorem different_any (A : Option Addr) (c n : Nat) (zs : List Int) (w : World) (B : Nat) (hr : RdI w B A zs) (hn : zs.length = n) (hcap : n ≤ c) (hc63 : c ≤ 9223372036854775807) (hb : n ≤ 1000) :
    Calls Try.prog 51 #[.slice A n c] w fun e w' => e = .returned (.int .i64 (diffc zs zs.length)) ∧ ∃ q, w' = w.drewN q := by
  have Hn := Lib.hid hn
  clear hn
  go_enter Try.func51, Try.ntmps51
  go_wp2
  go_loopw [3, 4] (fun v i wr => ∃ k : Nat, ∃ q : Nat, k ≤ n ∧ i = .int .i64 k ∧ v = .int .i64 (diffc zs k) ∧ wr = w.drewN q) (fun _ i _ => n - (intOf i).toNat)
  case atStart => exact ⟨0, 0, Nat.zero_le _, rfl, rfl, rfl⟩
  case round =>
    obtain ⟨k, q, hk, rfl, rfl, rfl⟩ := hrel
    have hd := diffc_bd zs k
    by_cases hlt : k < n
    · obtain ⟨b, off, x, rfl, hbw, Hx, hc⟩ := hr.x (k := k) (by rw [Hn.out]; exact hlt)
      have hrk := hr.take k
      have hlk : (zs.take k).length = k := by rw [List.length_take, Hn.out]; omega
      have Hq := Lib.hid (fun W : World => fun h : RdI W B (some ⟨b, off, none⟩) (zs.take k) => isIn_any (some ⟨b, off, none⟩) c k (zs.take k) x W B h hlk (by omega))
      have hkc : k ≤ c := by omega
      clear hlk
      cases hin : hasB (zs.take k) x with
      | true =>
        have Hs := Lib.hid (diffc_yes Hx.out hin)
        rw [hin] at Hq
        clear hin
        go_wp2
        go_quiet ((go_at_call 96; exact quiet_gen (Hq.out _ hrk) ⟨_, rfl⟩))
        go_wp2
        go_roundw
        case rel => exact ⟨k + 1, _, by omega, by go_num, by rw [Hs.out], rfl⟩
        case measure => simp [intOf]; omega
      | false =>
        have Hs := Lib.hid (diffc_no Hx.out hin)
        rw [hin] at Hq
        clear hin
        go_wp2
        go_quiet ((go_at_call 96; exact quiet_gen (Hq.out _ hrk) ⟨_, rfl⟩))
        go_wp2
        go_roundw
        case rel => exact ⟨k + 1, _, by omega, by go_num, by rw [Hs.out], rfl⟩
        case measure => simp [intOf]; omega
    · obtain rfl : k = n := by omega
      go_wp2
      go_ret
      exact ⟨ret_int (by rw [Hn.out]), _, rfl⟩
end Go.Proofs.Ytdhelapgdgekfaa
namespace Go.Proofs.Ytdhelapgdgekfaa
open Go.ChangeShapes Go.WideShapes Go.ChangeAt Go.RowKit
set_option linter.unusedVariables false

def vfar (far : Int) : Bool := decide (0 ≤ far) && decide (far ≤ 50)
theorem vfar_yes {far : Int} (h1 : 0 ≤ far) (h2 : far ≤ 50) : vfar far = true := by simp [vfar, h1, h2]
theorem vfar_no {far : Int} (h : far < 0 ∨ 50 < far) : vfar far = false := by
  simp only [vfar, Bool.and_eq_false_iff, decide_eq_false_iff_not]; omega
theorem okFrom_mem {zs : List Int} : ∀ {a : Int}, okFrom a zs = true → ∀ x ∈ zs, a ≤ x ∧ x ≤ 50 := by
  induction zs with
  | nil => intro a _ x hx; cases hx
  | cons y r ih =>
    intro a h x hx
    simp only [okFrom, Bool.and_eq_true, decide_eq_true_eq] at h
    rcases List.mem_cons.1 hx with rfl | hx
    · exact ⟨h.1, h.2.1⟩
    · have := ih h.2.2 x hx
      exact ⟨by omega, this.2⟩
theorem vh_len {zs : List Int} (h : vh zs = true) : zs.length ≤ 10 := by unfold vh at h; simp at h; exact h.1
theorem vh_ok {zs : List Int} (h : vh zs = true) : okFrom 0 zs = true := by unfold vh at h; simp at h; exact h.2
theorem vh_get {zs : List Int} (h : vh zs = true) {k : Nat} {x : Int} (hk : k < zs.length) (hx : zs.getD k 0 = x) : 0 ≤ x ∧ x ≤ 50 := by
  refine okFrom_mem (vh_ok h) x ?_
  rw [← hx]
  simp [List.getD, List.getElem?_eq_getElem hk]
theorem validFar_yes (far : Int) (w : World) (h1 : 0 ≤ far) (h2 : far ≤ 50) :
    Calls Try.prog 64 #[.int .i64 far] w fun e w' => e = .returned (.bool true) ∧ w = w' := by
  go_enter Try.func64, Try.ntmps64
  go_wp2
  go_ret
  exact ⟨ret_bool (by simp <;> omega), rfl⟩
theorem validFar_no (far : Int) (w : World) (h : far < 0 ∨ 50 < far) :
    Calls Try.prog 64 #[.int .i64 far] w fun e w' => e = .returned (.bool false) ∧ w = w' := by
  by_cases h1 : far < 0
  all_goals
    go_enter Try.func64, Try.ntmps64
    go_wp2
    go_ret
    exact ⟨ret_bool (by simp <;> omega), rfl⟩
theorem pw_take {zs : List Int} (h : zs.Pairwise (· ≤ ·)) (k : Nat) : (zs.take k).Pairwise (· ≤ ·) := h.sublist (List.take_sublist _ _)
theorem pw_le {zs : List Int} (h : zs.Pairwise (· ≤ ·)) {j : Nat} (hj : j < zs.length) : ∀ y ∈ zs.take j, y ≤ zs.getD j 0 := by
  have h1 := pw_take h (j + 1)
  rw [take_snoc_getD hj, List.pairwise_append] at h1
  exact fun y hy => h1.2.2 y hy _ (by simp)
theorem pw_getD {zs : List Int} (h : zs.Pairwise (· ≤ ·)) {i j : Nat} (hij : i ≤ j) (hj : j < zs.length) : zs.getD i 0 ≤ zs.getD j 0 := by
  rcases Nat.lt_or_ge i j with hlt | hge
  · refine pw_le h hj _ ?_
    simp only [List.getD_eq_getElem?_getD, List.getElem?_eq_getElem (show i < zs.length by omega), Option.getD_some]
    rw [List.mem_take_iff_getElem]
    exact ⟨i, by omega, rfl⟩
  · obtain rfl : i = j := by omega
    exact Int.le_refl _
end Go.Proofs.Ytdhelapgdgekfaa
namespace Go.Proofs.Ytdhelapgdgekfaa
open Go.RowKit
set_option linter.unusedVariables false

def inn (far x : Int) (zs bs : List Int) : Nat → Int
  | 0 => 1
  | j + 1 => if 2 * far < x - zs.getD j 0 then max (inn far x zs bs j) (bs.getD j 0 + 1) else inn far x zs bs j
def bests (far : Int) (zs : List Int) : Nat → List Int
  | 0 => []
  | i + 1 => bests far zs i ++ [inn far (zs.getD i 0) zs (bests far zs i) i]
def topp (far : Int) (zs : List Int) : Nat → Int
  | 0 => 0
  | i + 1 => max (topp far zs i) (inn far (zs.getD i 0) zs (bests far zs i) i)
def mapart (zs : List Int) (far : Int) : Int := if vh zs = true ∧ vfar far = true then topp far zs zs.length else -1
theorem mapart_no {zs : List Int} {far : Int} (h : vh zs = false) : mapart zs far = -1 := by simp [mapart, h]
theorem mapart_no' {zs : List Int} {far : Int} (h : vfar far = false) : mapart zs far = -1 := by simp [mapart, h]
theorem mapart_yes {zs : List Int} {far : Int} (h : vh zs = true) (h' : vfar far = true) : mapart zs far = topp far zs zs.length := by simp [mapart, h, h']
theorem bests_length (far : Int) (zs : List Int) : ∀ i, (bests far zs i).length = i
  | 0 => rfl
  | i + 1 => by simp [bests, bests_length far zs i]
theorem inn_bd {far x : Int} {zs bs : List Int} : ∀ {j : Nat}, (∀ i, i < j → bs.getD i 0 ≤ i + 1) → 1 ≤ inn far x zs bs j ∧ inn far x zs bs j ≤ j + 1
  | 0, _ => by simp [inn]
  | j + 1, h => by
    have ih := inn_bd (far := far) (x := x) (zs := zs) (bs := bs) (j := j) (fun i hi => h i (by omega))
    have hj := h j (by omega)
    simp only [inn]
    split <;> omega
theorem bests_bd {far : Int} {zs : List Int} : ∀ {i : Nat}, ∀ j, j < i → 1 ≤ (bests far zs i).getD j 0 ∧ (bests far zs i).getD j 0 ≤ j + 1
  | 0, j, h => by omega
  | i + 1, j, h => by
    have hl := bests_length far zs i
    rcases Nat.lt_or_ge j i with hj | hj
    · have e : (bests far zs (i + 1)).getD j 0 = (bests far zs i).getD j 0 := by
        simp only [bests, List.getD_eq_getElem?_getD]
        rw [List.getElem?_append_left (by omega)]
      rw [e]
      exact bests_bd j hj
    · obtain rfl : j = i := by omega
      have e : (bests far zs (j + 1)).getD j 0 = inn far (zs.getD j 0) zs (bests far zs j) j := by
        simp only [bests, List.getD_eq_getElem?_getD]
        rw [List.getElem?_append_right (by omega), hl, Nat.sub_self]; rfl
      rw [e]
      exact inn_bd (fun i hi => (bests_bd i hi).2)
theorem topp_bd {far : Int} {zs : List Int} : ∀ i, 0 ≤ topp far zs i ∧ topp far zs i ≤ i
  | 0 => by simp [topp]
  | i + 1 => by
    have ih := topp_bd (far := far) (zs := zs) i
    have := inn_bd (far := far) (x := zs.getD i 0) (zs := zs) (bs := bests far zs i) (j := i) (fun j hj => (bests_bd j hj).2)
    simp only [topp]
    omega
theorem inn_yes {far x y v t : Int} {zs bs : List Int} {j : Nat} (hy : zs.getD j 0 = y) (hb : bs.getD j 0 = v) (ht : inn far x zs bs j = t) (h : 2 * far < x - y) : inn far x zs bs (j + 1) = max t (v + 1) := by
  subst hy hb ht
  simp only [inn, h, if_true]
theorem inn_no {far x y t : Int} {zs bs : List Int} {j : Nat} (hy : zs.getD j 0 = y) (ht : inn far x zs bs j = t) (h : ¬ 2 * far < x - y) : inn far x zs bs (j + 1) = t := by
  subst hy ht
  simp only [inn, h, if_false]

/-- The cells of the table: the numbers so far, the one at work, and zeros. -/
def rowc (pre : List Int) (u : Int) (m : Nat) : List Value := (pre ++ u :: List.replicate m 0).map (Value.int .i64)
theorem rowc_zero (pre : List Int) (m : Nat) : rowc pre 0 m = (pre ++ List.replicate (m + 1) 0).map (Value.int .i64) := rfl
theorem rowc_set (pre : List Int) (u v : Int) (m : Nat) : (rowc pre u m).set pre.length (.int .i64 v) = rowc pre v m := by
  unfold rowc
  rw [List.map_append, List.map_append, List.set_append_right _ _ (by simp)]
  simp
theorem rowc_next (pre : List Int) (u : Int) (m : Nat) : rowc pre u (m + 1) = rowc (pre ++ [u]) 0 m := by
  unfold rowc
  rw [List.append_assoc]; rfl
theorem rowc_at (pre : List Int) (u : Int) (m : Nat) : (rowc pre u m)[pre.length]? = some (.int .i64 u) := by simp [rowc]
theorem rowc_lt (pre : List Int) (u : Int) (m : Nat) {j : Nat} (hj : j < pre.length) : (rowc pre u m)[j]? = some (.int .i64 (pre.getD j 0)) := by
  simp [rowc, List.getElem?_append_left, hj]
end Go.Proofs.Ytdhelapgdgekfaa

namespace Go.Proofs.Ytdhelapgdgekfaa
open Go.ChangeShapes Go.WideShapes Go.ChangeAt Go.RowKit
set_option linter.unusedVariables false
set_option maxRecDepth 4000

def gapL (a b : Int) : Int := if a ≤ b then b - a else a - b
theorem gapL_symm (a b : Int) : gapL a b = gapL b a := by unfold gapL; split <;> split <;> omega
/-- Homes in a row, each one's road to the one ahead of it. -/
theorem dn_lineL {t : List (Int × Int)} {xs : List Int} {n : Nat} (h : ∀ i, 1 ≤ i → i < n → tto t i = i - 1 ∧ tlg t i = xs.getD i 0 - xs.getD (i - 1) 0) (hs : ∀ i j, i ≤ j → j < n → xs.getD i 0 ≤ xs.getD j 0) :
    ∀ m, m ≤ n → ∀ i k, i < m → k < m → dn t m i k = gapL (xs.getD i 0) (xs.getD k 0)
  | 0, _, _, _, h, _ => by omega
  | m + 1, hm, i, k, hi, hk => by
    have hz : ∀ a : Int, gapL a a = 0 := fun a => by simp [gapL]
    have key : ∀ k, k < m → dn t (m + 1) m k = gapL (xs.getD m 0) (xs.getD k 0) := fun k hk => by
      obtain ⟨h1, h2⟩ := h m (by omega) (by omega)
      rw [dn_new hk, h1, h2, dn_lineL h hs m (by omega) (m - 1) k (by omega) hk]
      have h3 := hs (m - 1) m (by omega) (by omega)
      have h4 := hs k (m - 1) (by omega) (by omega)
      generalize xs.getD m 0 = a at *
      generalize xs.getD (m - 1) 0 = b at *
      generalize xs.getD k 0 = c at *
      unfold gapL
      split <;> split <;> omega
    by_cases h1 : i = m
    · subst h1
      by_cases h2 : k = i
      · subst h2; rw [dn_diag t (k + 1) k (by omega), hz]
      · exact key k (by omega)
    · by_cases h2 : k = m
      · subst h2
        rw [dn_symm, key i (by omega), gapL_symm]
      · rw [dn_old (by omega) (by omega)]
        exact dn_lineL h hs m (by omega) i k (by omega) (by omega)

/-- A set of nodes below n that are apart, none of them past b. -/
def ApS (xs : List Int) (far : Int) (n : Nat) (b : Int) (s : Nat) : Prop :=
  s < 2 ^ n ∧ (∀ i, s.testBit i = true → xs.getD i 0 ≤ b) ∧ ∀ i k, i < k → s.testBit i = true → s.testBit k = true → 2 * far < xs.getD k 0 - xs.getD i 0
theorem apS_zero (xs : List Int) (far : Int) (n : Nat) (b : Int) : ApS xs far n b 0 :=
  ⟨Nat.two_pow_pos n, fun i h => by simp at h, fun i k _ h => by simp at h⟩
theorem bitL_lt {s n i : Nat} (h : s < 2 ^ n) (hi : s.testBit i = true) : i < n := by
  rcases Nat.lt_or_ge i n with h' | h'
  · exact h'
  · have := Nat.ge_two_pow_of_testBit hi
    have := Nat.pow_le_pow_right (show 2 > 0 by omega) h'
    omega
theorem apS_add {xs : List Int} {far : Int} {n : Nat} {x y : Int} {s p : Nat} (h7 : n ≤ 7) (hf : 0 ≤ far) (hinc : ∀ i k, i < k → k < n → xs.getD i 0 < xs.getD k 0) (h : ApS xs far n y s) (hy : 2 * far < x - y) (hp : p < n) (hx : xs.getD p 0 = x) :
    ApS xs far n x (s ||| 2 ^ p) ∧ bc 7 (s ||| 2 ^ p) = bc 7 s + 1 := by
  obtain ⟨h1, h2, h3⟩ := h
  have hb : ∀ i, (s ||| 2 ^ p).testBit i = true ↔ s.testBit i = true ∨ p = i := fun i => by
    rw [Nat.testBit_or, Nat.testBit_two_pow]; simp
  have hnp : s.testBit p = false := by
    cases e : s.testBit p with
    | false => rfl
    | true => have := h2 p e; omega
  refine ⟨⟨Nat.or_lt_two_pow h1 (Nat.pow_lt_pow_right (by omega) hp), fun i hi => ?_, fun i k hik hi hk => ?_⟩, ?_⟩
  · rcases (hb i).1 hi with e | e
    · have := h2 i e; omega
    · subst e; omega
  · rcases (hb i).1 hi with e | e
    · rcases (hb k).1 hk with e' | e'
      · exact h3 i k hik e e'
      · subst e'; have := h2 i e; omega
    · rcases (hb k).1 hk with e' | e'
      · subst e
        have := h2 k e'
        have := hinc p k hik (bitL_lt h1 e')
        omega
      · omega
  · exact or_all ⟨s, pow_128 h7 h1⟩ ⟨p, by omega⟩ hnp
theorem inn_set {xs zs bs : List Int} {far x : Int} {n : Nat} (h7 : n ≤ 7) (hf : 0 ≤ far) (hinc : ∀ i k, i < k → k < n → xs.getD i 0 < xs.getD k 0) {p : Nat} (hp : p < n) (hx : xs.getD p 0 = x) :
    ∀ m, (∀ j, j < m → ∃ s, ApS xs far n (zs.getD j 0) s ∧ bs.getD j 0 ≤ (bc 7 s : Int)) → ∃ s, ApS xs far n x s ∧ inn far x zs bs m ≤ (bc 7 s : Int)
  | 0, _ => by
    obtain ⟨h1, h2⟩ := apS_add h7 hf hinc (apS_zero xs far n (x - 2 * far - 1)) (by omega) hp hx
    refine ⟨_, h1, ?_⟩
    rw [h2]; simp only [inn]; omega
  | m + 1, h => by
    obtain ⟨s1, a1, b1⟩ := inn_set h7 hf hinc hp hx m fun j hj => h j (by omega)
    simp only [inn]
    by_cases e : 2 * far < x - zs.getD m 0
    · rw [if_pos e]
      obtain ⟨s2, a2, b2⟩ := h m (by omega)
      obtain ⟨a3, b3⟩ := apS_add h7 hf hinc a2 e hp hx
      rcases Int.le_total (inn far x zs bs m) (bs.getD m 0 + 1) with hle | hle
      · exact ⟨_, a3, by rw [b3]; omega⟩
      · exact ⟨_, a1, by omega⟩
    · rw [if_neg e]; exact ⟨_, a1, b1⟩
theorem bests_set {xs zs : List Int} {far : Int} {n : Nat} (h7 : n ≤ 7) (hf : 0 ≤ far) (hinc : ∀ i k, i < k → k < n → xs.getD i 0 < xs.getD k 0) :
    ∀ i, (∀ j, j < i → ∃ p, p < n ∧ xs.getD p 0 = zs.getD j 0) → ∀ j, j < i → ∃ s, ApS xs far n (zs.getD j 0) s ∧ (bests far zs i).getD j 0 ≤ (bc 7 s : Int)
  | 0, _, j, hj => by omega
  | i + 1, h, j, hj => by
    have ih := bests_set h7 hf hinc i fun j hj => h j (by omega)
    have hl := bests_length far zs i
    rcases Nat.lt_or_ge j i with h' | h'
    · have e : (bests far zs (i + 1)).getD j 0 = (bests far zs i).getD j 0 := by
        simp only [bests, List.getD_eq_getElem?_getD]
        rw [List.getElem?_append_left (by omega)]
      rw [e]
      exact ih j h'
    · obtain rfl : j = i := by omega
      have e : (bests far zs (j + 1)).getD j 0 = inn far (zs.getD j 0) zs (bests far zs j) j := by
        simp only [bests, List.getD_eq_getElem?_getD]
        rw [List.getElem?_append_right (by omega), hl, Nat.sub_self]; rfl
      rw [e]
      obtain ⟨p, hp, hx⟩ := h j (by omega)
      exact inn_set h7 hf hinc hp hx j ih
theorem topp_set {xs zs : List Int} {far : Int} {n : Nat} (h7 : n ≤ 7) (hf : 0 ≤ far) (hinc : ∀ i k, i < k → k < n → xs.getD i 0 < xs.getD k 0) :
    ∀ i, (∀ j, j < i → ∃ p, p < n ∧ xs.getD p 0 = zs.getD j 0) → ∃ s b, ApS xs far n b s ∧ topp far zs i ≤ (bc 7 s : Int)
  | 0, _ => ⟨0, 0, apS_zero _ _ _ _, by simp only [topp]; omega⟩
  | i + 1, h => by
    obtain ⟨s1, b1, a1, c1⟩ := topp_set h7 hf hinc i fun j hj => h j (by omega)
    obtain ⟨p, hp, hx⟩ := h i (by omega)
    obtain ⟨s2, a2, c2⟩ := inn_set h7 hf hinc hp hx i (bests_set h7 hf hinc i fun j hj => h j (by omega))
    simp only [topp]
    rcases Int.le_total (topp far zs i) (inn far (zs.getD i 0) zs (bests far zs i) i) with hle | hle
    · exact ⟨s2, _, a2, by omega⟩
    · exact ⟨s1, _, a1, by omega⟩

/-- The tree of the homes ahead of place k. -/
def LineT (zs : List Int) (k : Nat) (ts : List (Int × Int)) (last : Int) : Prop :=
  ∃ xs : List Int, ts.length = xs.length ∧ 1 ≤ xs.length ∧ xs.getD (xs.length - 1) 0 = last ∧ ts.getD 0 (-1, 0) = (-1, 0) ∧
    (∀ i, 1 ≤ i → i < xs.length → ts.getD i (-1, 0) = ((i : Int) - 1, xs.getD i 0 - xs.getD (i - 1) 0) ∧ 1 ≤ xs.getD i 0 - xs.getD (i - 1) 0 ∧ xs.getD i 0 - xs.getD (i - 1) 0 ≤ 9) ∧
    (∀ j, j < k → ∃ p, p < xs.length ∧ xs.getD p 0 = zs.getD j 0) ∧ (∀ j, j < k → zs.getD j 0 ≤ last) ∧ last = zs.getD (k - 1) 0 ∧ (xs.length : Int) = diffc zs k
theorem lineT_start {zs : List Int} : LineT zs 1 [(-1, 0)] (zs.getD 0 0) := by
  refine ⟨[zs.getD 0 0], rfl, by simp, rfl, rfl, fun i h1 h2 => by simp at h2; omega, fun j hj => ⟨0, by simp, ?_⟩, fun j hj => ?_, rfl, ?_⟩
  · obtain rfl : j = 0 := by omega
    rfl
  · obtain rfl : j = 0 := by omega
    exact Int.le_refl _
  · simp [diffc, hasB]
theorem getD_snoc_old {α : Type} {l : List α} {x d : α} {i : Nat} (h : i < l.length) : (l ++ [x]).getD i d = l.getD i d := by
  simp only [List.getD_eq_getElem?_getD]; rw [List.getElem?_append_left h]
theorem getD_snoc_new {α : Type} {l : List α} {x d : α} {i : Nat} (h : i = l.length) : (l ++ [x]).getD i d = x := by
  subst h; simp [List.getD_eq_getElem?_getD]
theorem take_all_le {zs : List Int} {k : Nat} {b : Int} (hk : k ≤ zs.length) (h : ∀ j, j < k → zs.getD j 0 ≤ b) : ∀ y ∈ zs.take k, y ≤ b := by
  intro y hy
  obtain ⟨i, hi, e⟩ := List.mem_iff_getElem.1 hy
  rw [List.length_take] at hi
  have := h i (by omega)
  rw [List.getD_eq_getElem?_getD, List.getElem?_eq_getElem (by omega)] at this
  rw [List.getElem_take] at e
  simp at this
  omega
theorem lineT_same {zs : List Int} {k : Nat} {ts : List (Int × Int)} {last x : Int} (h : LineT zs k ts last) (hk1 : 1 ≤ k) (hk : k < zs.length) (hx : zs.getD k 0 = x) (hs : last ≤ x) (hl : ¬ last < x) : LineT zs (k + 1) ts last := by
  obtain ⟨xs, e1, e2, e3, e4, e5, e6, e7, e8, e9⟩ := h
  have hxl : x = last := by omega
  have hin : hasB (zs.take k) x = true := by
    unfold hasB
    rw [List.contains_iff_mem, hxl, e8]
    have : zs.getD (k - 1) 0 = (zs.take k)[k - 1]'(by rw [List.length_take]; omega) := by
      rw [List.getElem_take, List.getD_eq_getElem?_getD, List.getElem?_eq_getElem (by omega)]; rfl
    rw [this]
    exact List.getElem_mem _
  refine ⟨xs, e1, e2, e3, e4, e5, fun j hj => ?_, fun j hj => ?_, ?_, ?_⟩
  · by_cases e : j = k
    · subst e; exact ⟨xs.length - 1, by omega, by rw [e3, hx, hxl]⟩
    · exact e6 j (by omega)
  · by_cases e : j = k
    · subst e; omega
    · exact e7 j (by omega)
  · rw [Nat.add_sub_cancel, hx, hxl]
  · rw [diffc_yes hx hin]; exact e9
theorem lineT_next {zs : List Int} {k : Nat} {ts : List (Int × Int)} {last x : Int} (h : LineT zs k ts last) (hk1 : 1 ≤ k) (hk : k < zs.length) (hx : zs.getD k 0 = x) (hl : last < x) (h9 : x - last ≤ 9) : LineT zs (k + 1) (ts ++ [((ts.length : Int) - 1, x - last)]) x := by
  obtain ⟨xs, e1, e2, e3, e4, e5, e6, e7, e8, e9⟩ := h
  have hin : hasB (zs.take k) x = false := by
    unfold hasB
    have := take_all_le (Nat.le_of_lt hk) e7
    cases e : (zs.take k).contains x with
    | false => rfl
    | true => rw [List.contains_iff_mem] at e; have := this x e; omega
  have hd : (xs ++ [x]).getD (xs.length) 0 = x := getD_snoc_new rfl
  refine ⟨xs ++ [x], by simp [e1], by simp, by simp, by rw [getD_snoc_old (by omega)]; exact e4, fun i h1 h2 => ?_, fun j hj => ?_, fun j hj => ?_, ?_, ?_⟩
  · rw [List.length_append, List.length_singleton] at h2
    by_cases e : i = xs.length
    · subst e
      rw [getD_snoc_new e1.symm, hd, getD_snoc_old (by omega), e3, e1]
      exact ⟨rfl, by omega, h9⟩
    · rw [getD_snoc_old (by omega), getD_snoc_old (by omega), getD_snoc_old (by omega)]
      exact e5 i h1 (by omega)
  · rw [List.length_append, List.length_singleton]
    by_cases e : j = k
    · subst e; exact ⟨xs.length, by omega, by rw [hd, hx]⟩
    · obtain ⟨p, hp, hq⟩ := e6 j (by omega)
      exact ⟨p, by omega, by rw [getD_snoc_old hp]; exact hq⟩
  · by_cases e : j = k
    · subst e; omega
    · have := e7 j (by omega); omega
  · rw [Nat.add_sub_cancel, hx]
  · rw [diffc_no hx hin, List.length_append, List.length_singleton]; omega
theorem diffc_mono {zs : List Int} {a b : Nat} (h : a ≤ b) : diffc zs a ≤ diffc zs b := by
  induction h with
  | refl => exact Int.le_refl _
  | step _ ih => simp only [diffc]; split <;> omega
theorem lineT_len {zs : List Int} {k : Nat} {ts : List (Int × Int)} {last : Int} (h : LineT zs k ts last) : 1 ≤ ts.length ∧ (ts.length : Int) = diffc zs k := by
  obtain ⟨xs, e1, e2, -, -, -, -, -, -, e9⟩ := h
  exact ⟨by omega, by rw [e1]; exact e9⟩
theorem lineT_last {zs : List Int} {k : Nat} {ts : List (Int × Int)} {last : Int} (h : LineT zs k ts last) : last = zs.getD (k - 1) 0 := by
  obtain ⟨xs, -, -, -, -, -, -, -, e8, -⟩ := h
  exact e8
theorem lineT_vt {zs : List Int} {k : Nat} {ts : List (Int × Int)} {last : Int} (h : LineT zs k ts last) (h7 : diffc zs k ≤ 7) : vt ts = true := by
  obtain ⟨xs, e1, e2, e3, e4, e5, e6, e7, e8, e9⟩ := h
  refine (vt_iff ts).2 ⟨by omega, by omega, by rw [e4], by rw [e4], fun i h1 h2 => ?_⟩
  obtain ⟨a, b, c⟩ := e5 i h1 (by omega)
  rw [a]
  simp only [okRoad, Bool.and_eq_true, decide_eq_true_eq]
  omega
theorem line_pk {zs : List Int} {ts : List (Int × Int)} {last far : Int} (h : LineT zs zs.length ts last) (h7 : diffc zs zs.length ≤ 7) (hf : 0 ≤ far) :
    topp far zs zs.length ≤ (pkB (dn ts ts.length) far ts.length (2 ^ ts.length) : Int) := by
  obtain ⟨xs, e1, e2, e3, e4, e5, e6, e7, e8, e9⟩ := h
  have hinc : ∀ d i, i + d + 1 < xs.length → xs.getD i 0 < xs.getD (i + d + 1) 0 := by
    intro d
    induction d with
    | zero => intro i hi; have := (e5 (i + 1) (by omega) (by omega)).2.1; rw [Nat.add_sub_cancel] at this; show _ < xs.getD (i + 1) 0; omega
    | succ d ih =>
      intro i hi
      have h1 := ih i (by omega)
      have h2 := (e5 (i + (d + 1) + 1) (by omega) (by omega)).2.1
      rw [Nat.add_sub_cancel] at h2
      have : xs.getD (i + (d + 1)) 0 = xs.getD (i + d + 1) 0 := rfl
      omega
  have hinc' : ∀ i k, i < k → k < xs.length → xs.getD i 0 < xs.getD k 0 := fun i k hik hk => by
    have := hinc (k - i - 1) i (by omega)
    rwa [show i + (k - i - 1) + 1 = k by omega] at this
  rw [e1]
  obtain ⟨s, b, ⟨a1, a2, a3⟩, hc⟩ := topp_set (zs := zs) (by omega) hf hinc' zs.length e6
  refine Int.le_trans hc (Int.ofNat_le.2 (le_pkB a1 ?_))
  have hdn := dn_lineL (t := ts) (xs := xs) (n := xs.length) (fun i h1 h2 => by
    obtain ⟨a, -, -⟩ := e5 i h1 h2
    unfold tto tlg
    rw [a]
    exact ⟨by show ((i : Int) - 1).toNat = i - 1; omega, rfl⟩) (fun i j hij hj => by
      rcases Nat.lt_or_ge i j with h' | h'
      · exact Int.le_of_lt (hinc' i j h' hj)
      · obtain rfl : i = j := by omega
        exact Int.le_refl _) xs.length (Nat.le_refl _)
  rw [fnB_iff]
  intro v hv
  refine nrB_one fun i k hik hk ⟨h1, _, h3⟩ ⟨h4, _, h6⟩ => ?_
  have := a3 i k hik h1 h4
  rw [hdn v i hv (by omega)] at h3
  rw [hdn v k hv hk] at h6
  unfold gapL at h3 h6
  split at h3 <;> split at h6 <;> omega
/-- Valid homes go up. -/
theorem ok_step {zs : List Int} : ∀ {a : Int} {k : Nat}, okFrom a zs = true → k + 1 < zs.length → zs.getD k 0 ≤ zs.getD (k + 1) 0 := by
  induction zs with
  | nil => intro a k _ h; simp at h
  | cons y r ih =>
    intro a k h hk
    simp only [okFrom, Bool.and_eq_true, decide_eq_true_eq] at h
    cases k with
    | zero =>
      cases r with
      | nil => simp at hk
      | cons z q =>
        have h2 := h.2.2
        simp only [okFrom, Bool.and_eq_true, decide_eq_true_eq] at h2
        simp
        omega
    | succ k =>
      simp only [List.getD_cons_succ]
      exact ih h.2.2 (by simpa using hk)
end Go.Proofs.Ytdhelapgdgekfaa
