/-
  ValidRoom of the program, walked: the search for a number that is no room, and for a call with helpers that are none.
  Conditions: fewer than 2^60 numbers and calls.
-/
import Derived.Test.YtakljcpneghgnaaWD
namespace Go.Proofs.Ytakljcpneghgnaa
open Go.ChangeShapes Go.WideShapes Go.ChangeAt Go.RowKit
set_option linter.unusedVariables false
set_option maxRecDepth 4000

/-- A search in a row of ints, by a function that leaves the world as it is. -/
def IntIdx (P : Int → Bool) (zs : List Int) (w : World) (e : Ending) (w' : World) : Prop := ∃ r : Int, e = .returned (.int .i64 r) ∧ (zs.any P = false → r = -1) ∧ (zs.any P = true → 0 ≤ r) ∧ w = w'
theorem any_no {P : Int → Bool} {zs : List Int} {k : Nat} (h : ∀ i, i < k → P (zs.getD i 0) = false) (hk : zs.length ≤ k) : zs.any P = false := by
  rw [List.any_eq_false]
  intro x hx
  obtain ⟨i, hi, rfl⟩ := List.getElem_of_mem hx
  have := h i (by omega)
  simp only [List.getD, List.getElem?_eq_getElem hi, Option.getD_some] at this
  simp [this]
theorem any_yes {P : Int → Bool} {zs : List Int} {k : Nat} {x : Int} (hk : k < zs.length) (hx : zs.getD k 0 = x) (h : P x = true) : zs.any P = true := by
  rw [List.any_eq_true]
  refine ⟨x, ?_, h⟩
  rw [← hx]
  simp [List.getD, List.getElem?_eq_getElem hk]
set_option maxHeartbeats 800000 in
theorem indexRoom_any (P : Int → Bool) (HF : ∀ (x : Int) (w : World), Calls Try.prog 44 #[.int .i64 x] w fun e w' => e = .returned (.bool (P x)) ∧ w = w') (A : Option Addr) (c n : Nat) (zs : List Int) (w : World) (B : Nat) (hr : RdI w B A zs) (hn : zs.length = n) (hb : n ≤ 1152921504606846976) :
    Calls Try.prog 70 #[.slice A n c, .func (.func 44) #[] #[]] w (IntIdx P zs w) := by
  have Hn := Lib.hid hn
  have HF' : Hid (∀ (x : Int) (w : World) (b : Bool), P x = b → Calls Try.prog 44 #[.int .i64 x] w fun e w' => e = .returned (.bool b) ∧ w = w') := fun x w b h => h ▸ HF x w
  clear hn HF
  go_enter Try.func70, Try.ntmps70
  go_wp2
  go_loop [8] (fun i => ∃ k : Nat, k ≤ n ∧ i = .int .i64 k ∧ Hid (∀ i, i < k → P (zs.getD i 0) = false)) (fun i => n - (intOf i).toNat)
  case atStart => exact ⟨0, by omega, rfl, fun i hi => by omega⟩
  case round =>
    obtain ⟨k, hk, rfl, Ho⟩ := hrel
    by_cases hlt : k < n
    · obtain ⟨b, off, x, rfl, -, Hx, hcx⟩ := hr.x (k := k) (by rw [Hn.out]; omega)
      by_cases h1 : P x = true
      · have Hs := Lib.hid (any_yes (by rw [Hn.out]; exact hlt) Hx.out h1)
        have Hf := Lib.hid (HF'.out x w true h1)
        clear h1
        go_wp2_with fail
        refine Hf.out.mono ?_
        rintro e w' ⟨rfl, rfl⟩
        go_wp2
        go_ret
        exact ⟨_, rfl, fun h => absurd (Hs.out.symm.trans h) (by decide), fun _ => by omega, rfl⟩
      · have h2 : P x = false := by simpa using h1
        have Hs : Hid (∀ i, i < k + 1 → P (zs.getD i 0) = false) := fun i hi => by
          by_cases e : i = k
          · subst e; rw [Hx.out]; exact h2
          · exact Ho.out i (by omega)
        have Hf := Lib.hid (HF'.out x w false h2)
        clear h1 h2
        go_wp2_with fail
        refine Hf.out.mono ?_
        rintro e w' ⟨rfl, rfl⟩
        go_wp2
        go_round
        case rel => exact ⟨k + 1, by omega, by go_num, Hs⟩
        case measure => simp [intOf]; omega
    · have Hs := Lib.hid (any_no Ho.out (by rw [Hn.out]; omega))
      go_wp2
      go_ret
      exact ⟨_, rfl, fun _ => rfl, fun h => absurd (Hs.out.symm.trans h) (by decide), rfl⟩
theorem containsRoom_any (P : Int → Bool) (HF : ∀ (x : Int) (w : World), Calls Try.prog 44 #[.int .i64 x] w fun e w' => e = .returned (.bool (P x)) ∧ w = w') (A : Option Addr) (c n : Nat) (zs : List Int) (w : World) (B : Nat) (hr : RdI w B A zs) (hn : zs.length = n) (hb : n ≤ 1152921504606846976) :
    Calls Try.prog 47 #[.slice A n c, .func (.func 44) #[] #[]] w fun e w' => e = .returned (.bool (zs.any P)) ∧ w = w' := by
  have H := Lib.hid (indexRoom_any P HF A c n zs w B hr hn hb)
  clear hn hr HF
  go_enter Try.func47, Try.ntmps47
  go_wp2_with fail
  refine H.out.mono ?_
  rintro e w' ⟨r, rfl, h1, h2, rfl⟩
  by_cases hf : zs.any P = true
  · have hr0 := h2 hf
    have Hf := Lib.hid hf
    clear h1 h2 hf
    go_wp2
    go_ret
    exact ⟨ret_bool (by rw [Hf.out]), rfl⟩
  · have hf' : zs.any P = false := by simpa using hf
    have := h1 hf'
    subst this
    have Hf := Lib.hid hf'
    clear h1 h2 hf hf'
    go_wp2
    go_ret
    exact ⟨ret_bool (by rw [Hf.out]), rfl⟩

def noRoom (x : Int) : Bool := decide (x < 0) || decide (7 < x)
theorem noRoom_any (x : Int) (w : World) : Calls Try.prog 44 #[.int .i64 x] w fun e w' => e = .returned (.bool (noRoom x)) ∧ w = w' := by
  by_cases h1 : x < 0 <;> by_cases h2 : 7 < x
  all_goals
    go_enter Try.func44, Try.ntmps44
    go_wp2
    go_ret
    exact ⟨ret_bool (by simp [noRoom, h1, h2]), rfl⟩
theorem noRoom_all {room : List Int} : room.any noRoom = false ↔ OkR room room.length := by
  rw [List.any_eq_false]
  constructor
  · intro h i hi
    have := h (room.getD i 0) (by simp [List.getD, List.getElem?_eq_getElem hi])
    unfold noRoom at this
    rw [Bool.or_eq_true, decide_eq_true_eq, decide_eq_true_eq] at this
    omega
  · intro h x hx
    obtain ⟨i, hi, rfl⟩ := List.getElem_of_mem hx
    have := h i hi
    simp only [List.getD, List.getElem?_eq_getElem hi, Option.getD_some] at this
    simp [noRoom]
    omega

/-- ascendingBelow. -/
theorem asc_no {H : Int} {l : List Int} {k : Nat} {x a : Int} (hk : k < l.length) (hx : l.getD k 0 = x) (ha : 0 < k → l.getD (k - 1) 0 = a) (ha0 : k = 0 → a = -1) (h : x ≤ a ∨ H ≤ x) : ¬ AscL H l l.length := fun h' => by
  obtain ⟨h1, h2, h3⟩ := h' k hk
  rw [hx] at h1 h2 h3
  rcases h with h | h
  · by_cases h0 : k = 0
    · have := ha0 h0; omega
    · have := h3 (by omega)
      rw [ha (by omega)] at this; omega
  · omega
set_option maxHeartbeats 800000 in
theorem ascBelow_any (A : Option Addr) (c n : Nat) (H : Int) (l : List Int) (w : World) (B : Nat) (hr : RdI w B A l) (hn : l.length = n) (hb : n ≤ 1152921504606846976) :
    Calls Try.prog 46 #[.slice A n c, .int .i64 H] w fun e w' => e = .returned (.bool (decide (AscL H l n))) ∧ w = w' := by
  have Hn := Lib.hid hn
  clear hn
  go_enter Try.func46, Try.ntmps46
  go_wp2
  go_loop [5, 10] (fun a i => ∃ k : Nat, ∃ p : Int, k ≤ n ∧ i = .int .i64 k ∧ a = .int .i64 p ∧ -1 ≤ p ∧ Hid (AscL H l k ∧ (0 < k → l.getD (k - 1) 0 = p) ∧ (k = 0 → p = -1))) (fun _ i => n - (intOf i).toNat)
  case atStart => exact ⟨0, -1, by omega, rfl, rfl, by omega, AscL.zero _ _, fun h => by omega, fun _ => rfl⟩
  case round =>
    obtain ⟨k, p, hk, rfl, rfl, hp, Ho⟩ := hrel
    by_cases hlt : k < n
    · obtain ⟨b, off, x, rfl, -, Hx, hcx⟩ := hr.x (k := k) (by rw [Hn.out]; omega)
      by_cases h1 : x ≤ p
      · have Hs : Hid (decide (AscL H l n) = false) := decide_eq_false (by rw [← Hn.out]; exact asc_no (by rw [Hn.out]; exact hlt) Hx.out Ho.out.2.1 Ho.out.2.2 (.inl h1))
        go_wp2
        go_ret
        exact ⟨ret_bool Hs.out.symm, rfl⟩
      · by_cases h2 : H ≤ x
        · have Hs : Hid (decide (AscL H l n) = false) := decide_eq_false (by rw [← Hn.out]; exact asc_no (by rw [Hn.out]; exact hlt) Hx.out Ho.out.2.1 Ho.out.2.2 (.inr h2))
          go_wp2
          go_ret
          exact ⟨ret_bool Hs.out.symm, rfl⟩
        · have Hs : Hid (AscL H l (k + 1) ∧ (0 < k + 1 → l.getD (k + 1 - 1) 0 = x) ∧ (k + 1 = 0 → x = -1)) := ⟨Ho.out.1.step Hx.out (by omega) (by omega) (fun h0 => by rw [Ho.out.2.1 h0]; omega), fun _ => by rw [Nat.add_sub_cancel]; exact Hx.out, fun h => by omega⟩
          go_wp2
          go_round
          case rel => exact ⟨k + 1, x, by omega, by go_num, rfl, by omega, Hs⟩
          case measure => simp [intOf]; omega
    · obtain rfl : k = n := by omega
      have Hs : Hid (decide (AscL H l k) = true) := decide_eq_true Ho.out.1
      go_wp2
      go_ret
      exact ⟨ret_bool Hs.out.symm, rfl⟩
theorem noWish_any (H : Nat) (Ar : Option Addr) (cr : Nat) (A : Option Addr) (c n : Nat) (l : List Int) (pb : Nat) (w : World) (hc : w.cell? ⟨pb, 0, none⟩ = some (.slice Ar H cr)) (B : Nat) (hr : RdI w B A l) (hn : l.length = n) (hb : n ≤ 1152921504606846976) (hH : H ≤ 1152921504606846976) {b : Bool} (h : (!(decide (AscL H l n))) = b) :
    Calls Try.prog 45 #[.slice A n c, .pointer (some ⟨pb, 0, none⟩)] w fun e w' => e = .returned (.bool b) ∧ w = w' := by
  have H1 := Lib.hid (ascBelow_any A c n (H : Nat) l w B hr hn hb)
  have Hb := Lib.hid h
  clear hr hn h
  go_enter Try.func45, Try.ntmps45
  go_wp2_with fail
  refine H1.out.mono ?_
  rintro e w' ⟨rfl, rfl⟩
  go_wp2
  go_ret
  exact ⟨ret_bool Hb.out, rfl⟩

def WishIdx (H : Nat) (wish : List (List Int)) (w : World) (e : Ending) (w' : World) : Prop := ∃ r : Int, e = .returned (.int .i64 r) ∧ (OkW H wish wish.length → r = -1) ∧ (¬ OkW H wish wish.length → 0 ≤ r) ∧ w = w'
set_option maxHeartbeats 800000 in
theorem indexWish_any (H : Nat) (Ar : Option Addr) (cr : Nat) (A : Option Addr) (c n : Nat) (wish : List (List Int)) (w : World) (B pb : Nat) (hr : RdV w B A wish) (hs : Small wish) (hm : wish.length = n) (hc : w.cell? ⟨pb, 0, none⟩ = some (.slice Ar H cr)) (hH : H ≤ 1152921504606846976) :
    Calls Try.prog 71 #[.slice A n c, .func (.func 45) #[] #[.pointer (some ⟨pb, 0, none⟩)]] w (WishIdx H wish w) := by
  have Hn := Lib.hid hm
  have Hs := Lib.hid hs
  have hn20 : n ≤ 1048576 := by rw [← hm]; exact hs.1
  clear hm hs
  go_enter Try.func71, Try.ntmps71
  go_wp2
  go_loop [8] (fun i => ∃ k : Nat, k ≤ n ∧ i = .int .i64 k ∧ Hid (OkW H wish k)) (fun i => n - (intOf i).toNat)
  case atStart => exact ⟨0, by omega, rfl, OkW.zero _ _⟩
  case round =>
    obtain ⟨k, hk, rfl, Ho⟩ := hrel
    by_cases hlt : k < n
    · obtain ⟨b, off, a, ca, ls, rfl, -, Hl, hcl, hca, hcm, hrl⟩ := hr.x (k := k) (by rw [Hn.out]; omega)
      obtain ⟨t, Ht⟩ : ∃ t, Hid (ls.length = t) := ⟨_, rfl⟩
      have ht20 : t ≤ 1048576 := by have := Hs.out.2 k (by rw [Hn.out]; exact hlt); rw [Hl.out, Ht.out] at this; exact this
      rw [Ht.out] at hcl hca
      by_cases h1 : AscL H ls t
      · have Ho2 : Hid (OkW H wish (k + 1)) := Ho.out.step Hl.out (by rw [Ht.out]; exact h1)
        have Hf := Lib.hid (noWish_any H Ar cr a ca t ls pb w hc B hrl Ht.out (by omega) hH (b := false) (by rw [decide_eq_true h1]; rfl))
        clear h1 hrl
        go_wp2_with fail
        refine Hf.out.mono ?_
        rintro e w' ⟨rfl, rfl⟩
        go_wp2
        go_round
        case rel => exact ⟨k + 1, by omega, by go_num, Ho2⟩
        case measure => simp [intOf]; omega
      · have Hno : Hid (¬ OkW H wish wish.length) := fun h' => by
          have := h' k (by rw [Hn.out]; exact hlt)
          rw [Hl.out, Ht.out] at this
          exact h1 this
        have Hf := Lib.hid (noWish_any H Ar cr a ca t ls pb w hc B hrl Ht.out (by omega) hH (b := true) (by rw [decide_eq_false h1]; rfl))
        clear h1 hrl
        go_wp2_with fail
        refine Hf.out.mono ?_
        rintro e w' ⟨rfl, rfl⟩
        go_wp2
        go_ret
        exact ⟨_, rfl, fun h => absurd h Hno.out, fun _ => by omega, rfl⟩
    · obtain rfl : k = n := by omega
      have Hyes : Hid (OkW H wish wish.length) := by show OkW _ _ _; rw [Hn.out]; exact Ho.out
      go_wp2
      go_ret
      exact ⟨_, rfl, fun _ => rfl, fun h => absurd Hyes.out h, rfl⟩
theorem containsWish_any (H : Nat) (Ar : Option Addr) (cr : Nat) (A : Option Addr) (c n : Nat) (wish : List (List Int)) (w : World) (B pb : Nat) (hr : RdV w B A wish) (hs : Small wish) (hm : wish.length = n) (hc : w.cell? ⟨pb, 0, none⟩ = some (.slice Ar H cr)) (hH : H ≤ 1152921504606846976) :
    Calls Try.prog 48 #[.slice A n c, .func (.func 45) #[] #[.pointer (some ⟨pb, 0, none⟩)]] w fun e w' => e = .returned (.bool (!(decide (OkW H wish wish.length)))) ∧ w = w' := by
  have H1 := Lib.hid (indexWish_any H Ar cr A c n wish w B pb hr hs hm hc hH)
  clear hr hs hm hc
  go_enter Try.func48, Try.ntmps48
  go_wp2_with fail
  refine H1.out.mono ?_
  rintro e w' ⟨r, rfl, h1, h2, rfl⟩
  by_cases hf : OkW H wish wish.length
  · have := h1 hf
    subst this
    have Hf := Lib.hid (decide_eq_true hf)
    clear h1 h2 hf
    go_wp2
    go_ret
    exact ⟨ret_bool (by rw [Hf.out]; rfl), rfl⟩
  · have hr0 := h2 hf
    have Hf := Lib.hid (decide_eq_false hf)
    clear h1 h2 hf
    go_wp2
    go_ret
    exact ⟨ret_bool (by rw [Hf.out]; simp), rfl⟩

set_option maxHeartbeats 800000 in
theorem iValidRoom_ok : RBool 18 := by
  intro A A' c c' H n room wish w h
  have Hin := Lib.hid h
  have hH20 := h.most
  have hn20 := h.mostw
  have HBW := Lib.hid ((Below.refl w.heap.size w).alloc (Nat.le_refl _) (.cells #[.slice A H c] 23))
  have hcell : (w.alloc (.cells #[.slice A H c] 23)).cell? ⟨w.heap.size, 0, none⟩ = some (.slice A H c) := by rw [World.cell?_alloc_new]; rfl
  have Hcell := Lib.hid hcell
  clear h hcell
  by_cases h4 : 4 < H
  · have Hs : Hid (vroom room wish = false) := vroom_no_len (.inl (by rw [Hin.out.len]; exact h4))
    go_enter Try.func18, Try.ntmps18
    go_wp2
    go_ret
    exact ⟨ret_bool Hs.out.symm, HBW.out⟩
  by_cases h7 : 7 < n
  · have Hs : Hid (vroom room wish = false) := vroom_no_len (.inr (by rw [Hin.out.lenw]; exact h7))
    go_enter Try.func18, Try.ntmps18
    go_wp2
    go_ret
    exact ⟨ret_bool Hs.out.symm, HBW.out⟩
  have H1 := Lib.hid (containsRoom_any noRoom noRoom_any A c H room (w.alloc (.cells #[.slice A H c] 23)) w.heap.size (Hin.out.rd.below HBW.out) Hin.out.len (by omega))
  have H2 := Lib.hid (containsWish_any H A c A' c' n wish (w.alloc (.cells #[.slice A H c] 23)) w.heap.size w.heap.size (Hin.out.rdw.below HBW.out) Hin.out.small Hin.out.lenw Hcell.out (by omega))
  have hcell2 := Hcell.out
  by_cases h1 : OkR room room.length
  · have hf1 : room.any noRoom = false := noRoom_all.2 h1
    rw [hf1] at H1
    by_cases h2 : OkW H wish wish.length
    · have Hs : Hid (vroom room wish = true) := vroom_yes (by rw [Hin.out.len]; omega) (by rw [Hin.out.lenw]; omega) h1 (by rw [Hin.out.len]; exact h2)
      rw [decide_eq_true h2] at H2
      clear h1 h2 hf1
      go_enter Try.func18, Try.ntmps18
      go_wp2_with fail
      refine H1.out.mono ?_
      rintro e w1 ⟨rfl, rfl⟩
      go_wp2_with fail
      refine H2.out.mono ?_
      rintro e w1 ⟨rfl, rfl⟩
      go_wp2
      go_ret
      exact ⟨ret_bool Hs.out.symm, HBW.out⟩
    · have Hs : Hid (vroom room wish = false) := by
        show _ = _
        rw [Bool.eq_false_iff]; intro h'
        have := ((vroom_iff _ _).1 h').2.2.2
        rw [Hin.out.len] at this
        exact h2 this
      rw [decide_eq_false h2] at H2
      clear h1 h2 hf1
      go_enter Try.func18, Try.ntmps18
      go_wp2_with fail
      refine H1.out.mono ?_
      rintro e w1 ⟨rfl, rfl⟩
      go_wp2_with fail
      refine H2.out.mono ?_
      rintro e w1 ⟨rfl, rfl⟩
      go_wp2
      go_ret
      exact ⟨ret_bool Hs.out.symm, HBW.out⟩
  · have hf1 : room.any noRoom = true := by
      have := mt (noRoom_all (room := room)).1 h1
      simpa using this
    have Hs : Hid (vroom room wish = false) := by
      show _ = _
      rw [Bool.eq_false_iff]; intro h'
      exact h1 ((vroom_iff _ _).1 h').2.2.1
    rw [hf1] at H1
    clear h1 hf1 H2
    go_enter Try.func18, Try.ntmps18
    go_wp2_with fail
    refine H1.out.mono ?_
    rintro e w1 ⟨rfl, rfl⟩
    go_wp2
    go_ret
    exact ⟨ret_bool Hs.out.symm, HBW.out⟩
end Go.Proofs.Ytakljcpneghgnaa
