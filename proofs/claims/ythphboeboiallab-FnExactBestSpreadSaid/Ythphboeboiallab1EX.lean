/-
  The exact laws of chapter 11 follow from the functions' contracts: the program's answer is the model's, the arguments stay, and a row owns its memory.
  Conditions: none beyond the contracts'.
-/
import Derived.Test.Ythphboeboiallab1TF
import Derived.Test.Ythphboeboiallab1MF
import Derived.Test.YthphboeboiallabUT
import Derived.Test.YthphboeboiallabE0
import Derived.Test.YthphboeboiallabMQ
import Derived.Deep.RegionHeld3
namespace Go.Proofs.Ythphboeboiallab
open Go.ChangeShapes Go.WideShapes Go.ChangeAt Go.RowKit
set_option linter.unusedVariables false
set_option maxRecDepth 4000

theorem own_rd {w : World} {B n c : Nat} {A : Option Addr} {xs : List Int} (h : w.ownsRow B 3 1 (.slice A n c) n (xs.map (Value.int .i64))) (hn : xs.length = n) : RdI w w.heap.size A xs := by
  obtain ⟨A', c', e, -, -, hr⟩ := own_slice h hn
  injection e with e1 _ _
  subst e1
  exact hr
theorem own_pin {w : World} {B n c : Nat} {A : Option Addr} {xs : List Int} (h : w.ownsRow B 3 1 (.slice A n c) n (xs.map (Value.int .i64))) (hn : xs.length = n) (hm : n ≤ 1048576) : PIn w A c n xs := by
  obtain ⟨A', c', e, h1, h2, hr⟩ := own_slice h hn
  injection e with e1 _ e3
  subst e1 e3
  exact ⟨hr, hn, ⟨h1, h2⟩, hm⟩
theorem own_part {w : World} {B n c : Nat} {A : Option Addr} {xs : List Int} (h : w.ownsRow B 3 1 (.slice A n c) n (xs.map (Value.int .i64))) (hn : xs.length = n) : PartQ w A n c xs := by
  obtain ⟨A', c', e, hp⟩ := part_own h hn
  injection e with e1 _ e3
  subst e1 e3
  exact hp
theorem bkQ_len (zs ss : List Int) (far : Int) : (bkQ zs ss far).length ≤ 10 := by
  by_cases h : vbB zs ss far = true
  · rw [bkQ_yes h, bkL_length]; exact vh_len (vbB_get h).1
  · rw [bkQ_no (by simpa using h)]; simp
theorem bsQ_len (zs : List Int) (k far u d : Int) : (bsQ zs k far u d).length ≤ 10 := by
  by_cases h : vsB zs k far u d = true
  · obtain ⟨v1, v2, v3, v4, v5, K, U, D, rfl, v6, rfl, rfl, v7, v8, v9⟩ := vsB_get h
    rw [bsQ_yes h, (spL_len (bstL_mem (vh_asc v1) v2 K)).1]; omega
  · rw [bsQ_no (by simpa using h)]; simp
theorem gdQ_len (zs : List Int) (k far u d : Int) : (gdQ zs k far u d).length ≤ 10 := by
  by_cases h : vsB zs k far u d = true
  · obtain ⟨v1, v2, v3, v4, v5, K, U, D, rfl, v6, rfl, rfl, v7, v8, v9⟩ := vsB_get h
    rw [gdQ_yes h, (gdL_asc _ v2 K).2.1]; omega
  · rw [gdQ_no (by simpa using h)]; simp
/-- A row's answer, its length named. -/
def RowM (xs : List Int) (m : Nat) (w : World) (e : Ending) (w' : World) : Prop := ∃ A' c', e = .returned (.slice A' m c') ∧ Hid (w'.ownsRow w.heap.size 3 1 (.slice A' m c') m (xs.map (Value.int .i64))) ∧ Hid (Below w.heap.size w w')
theorem rowM_of {xs : List Int} {m : Nat} {w w' : World} {e : Ending} (h : RowQ xs w e w') (hm : xs.length = m) : RowM xs m w e w' := by subst hm; exact h
/-- A row of the call's own, nil or not, marked: nothing else is written. -/
theorem markRowG_any (w : World) (B n c : Nat) (A : Option Addr) (zs : List Int) (hown : w.ownsRow B 3 1 (.slice A n c) n (zs.map (Value.int .i64))) (hn : zs.length = n) (hn7 : n ≤ 1048576) :
    Calls Try.prog 30 #[.slice A n c, .int .i64 1] w fun e w' => e = .returned (.int .i64 (1 + (n : Nat))) ∧ Hid (w'.ownsRow B 3 1 (.slice A n c) n ((mk 1 n).map (Value.int .i64))) ∧ Hid (w.grownBy w' (Value.slice A n c).ownBlock) := by
  have h0 := hown
  rcases hown.2 with ⟨he, hx⟩ | ⟨g, cap, cur, he, hg1, hg2, _⟩
  · injection he with h1 h2 h3
    subst h1 h2 h3
    clear h0 hown
    go_enter Try.func30, Try.ntmps30
    go_wp2
    go_loopw [1, 5] (fun a i wr => i = .int .i64 0 ∧ a = .int .i64 1 ∧ wr = w) (fun _ i _ => 0)
    case atStart => exact ⟨rfl, rfl, rfl⟩
    case round =>
      obtain ⟨rfl, rfl, rfl⟩ := hrel
      go_wp2
      go_ret
      exact ⟨rfl, World.ownsRow_nil _ _ _ _, grown_refl _ _⟩
  · injection he with h1 h2 h3
    subst h1 h3
    refine (markI_any w B g n c 1 zs h0 hn hn7 (by omega) (by omega)).mono ?_
    rintro e w' ⟨rfl, ho, hgr⟩
    exact ⟨rfl, ho, hgr⟩
/-- A copy, its length named. -/
def CopyN (zs : List Int) (n : Nat) (w : World) (e : Ending) (w' : World) : Prop := ∃ b, e = .returned (.slice (some ⟨b, 0, none⟩) n n) ∧ Hid (w.heap.size ≤ b) ∧ Hid (w'.ownsRow w.heap.size 3 1 (.slice (some ⟨b, 0, none⟩) n n) n (zs.map (Value.int .i64))) ∧ Hid (Below w.heap.size w w')
theorem toIntN_any (A : Option Addr) (c n : Nat) (zs : List Int) (w : World) (hr : RdI w w.heap.size A zs) (hn : zs.length = n) (hb : n ≤ 1048576) : Calls Try.prog 28 #[.slice A n c] w (CopyN zs n w) := by
  refine (toInt_any A c n zs w hr hn hb).mono ?_
  rintro e w' ⟨b, rfl, h1, -, h2, h3⟩
  rw [hn] at h3 ⊢
  exact ⟨b, rfl, h1, h3, h2⟩

set_option maxHeartbeats 1600000 in
theorem exBacksOf_walk (A : Option Addr) (c : Nat) (zs : List Int) (A' : Option Addr) (c' : Nat) (ss : List Int) (far : Int) (w : World) (hr : RdI w w.heap.size A zs) (hm : zs.length ≤ maxLen) (hr' : RdI w w.heap.size A' ss) (hm' : ss.length ≤ maxLen) (hwf : (Lit.int .i64 far).wf = true) :
    Calls Try.prog 9 #[.slice A zs.length c, .slice A' ss.length c', .int .i64 far] w fun e w' => e = .returned (.bool true) ∧ Below w.heap.size w w' := by
  unfold maxLen at hm hm'
  clear hwf
  obtain ⟨n, Hn⟩ : ∃ n, Hid (zs.length = n) := ⟨_, rfl⟩
  obtain ⟨k, Hk⟩ : ∃ k, Hid (ss.length = k) := ⟨_, rfl⟩
  rw [Hn.out] at hm ⊢
  rw [Hk.out] at hm' ⊢
  by_cases hb : 1048576 < n
  · clear hr hr'
    go_enter Try.func9, Try.ntmps9
    go_wp2
    go_ret
    exact ⟨rfl, Below.refl _ _⟩
  by_cases hb' : 1048576 < k
  · clear hr hr'
    go_enter Try.func9, Try.ntmps9
    go_wp2
    go_ret
    exact ⟨rfl, Below.refl _ _⟩
  · have HR := Lib.hid hr
    have HR' := Lib.hid hr'
    have hm2 := bkQ_len zs ss far
    obtain ⟨xs, Hx⟩ : ∃ xs, Hid (bkQ zs ss far = xs) := ⟨_, rfl⟩
    rw [Hx.out] at hm2
    obtain ⟨m, Hm⟩ : ∃ m, Hid (xs.length = m) := ⟨_, rfl⟩
    rw [Hm.out] at hm2
    have HI2 : Hid (∀ (A A' : Option Addr) (c c' n m' : Nat) (w : World), PIn w A c n zs → PIn w A' c' m' ss → Calls Try.prog 14 #[.slice A n c, .slice A' m' c', .int .i64 far] w (RowM xs m w)) := fun A A' c c' n m' w h h' => by
      have := iBacksOf_ok A A' c c' n m' zs ss far w h h'
      rw [Hx.out] at this
      exact this.mono fun _ _ hh => rowM_of hh Hm.out
    have HS2 : Hid (∀ (A A' : Option Addr) (c c' n m' : Nat) (w : World), PIn w A c n zs → PIn w A' c' m' ss → Calls Try.prog 16 #[.slice A n c, .slice A' m' c', .int .i64 far] w (RowM xs m w)) := fun A A' c c' n m' w h h' => by
      have := sBacksOf_ok A A' c c' n m' zs ss far w h h'
      rw [Hx.out] at this
      exact this.mono fun _ _ hh => rowM_of hh Hm.out
    clear hr hr'
    have T1 : Hid (∀ W, Below w.heap.size w W → Calls Try.prog 28 #[.slice A n c] W (CopyN zs n W)) := fun W hW => toIntN_any A c n zs W ((HR.out.below hW).more hW.size) Hn.out (by omega)
    have T2 : Hid (∀ W, Below w.heap.size w W → Calls Try.prog 28 #[.slice A' k c'] W (CopyN ss k W)) := fun W hW => toIntN_any A' c' k ss W ((HR'.out.below hW).more hW.size) Hk.out (by omega)
    clear HR HR'
    go_enter Try.func9, Try.ntmps9
    go_wp2_with fail
    refine (T1.out w (Below.refl w.heap.size w)).mono ?_
    rintro e v1 ⟨bv1, rfl, hbv1, hov1, hqv1⟩
    have GB_P : Hid (w.heap.size ≤ bv1) := by have h1 := hbv1.out; have h2 := ((Below.refl w.heap.size w)).size; show w.heap.size ≤ bv1; omega
    have B_v1 := Lib.hid hqv1.out
    clear hqv1
    clear hbv1
    go_wp2_with fail
    refine (T2.out v1 B_v1.out).mono ?_
    rintro e v2 ⟨bv2, rfl, hbv2, hov2, hqv2⟩
    have NE_P_R : Hid (∀ g, (Value.slice (some ⟨bv1, 0, none⟩) n n).ownBlock = some g → g ≠ bv2) := fun g e => by have h1 := (own_heap hov1.out e).2.2; have h2 := hbv2.out; omega
    have GB_R : Hid (w.heap.size ≤ bv2) := by have h1 := hbv2.out; have h2 := (B_v1.out).size; show w.heap.size ≤ bv2; omega
    have B_v2 := Lib.hid (B_v1.out.trans (hqv2.out.mono B_v1.out.size))
    have P_v2 := Lib.hid (ownN_below hov1.out hqv2.out)
    clear B_v1 hov1 hqv2
    clear hbv2
    go_wp2_with fail
    refine (HS2.out _ _ _ _ _ _ v2 (own_pin P_v2.out Hn.out (by omega)) (own_pin hov2.out Hk.out (by omega))).mono ?_
    rintro e v3 ⟨Av3, cv3, rfl, hov3, hqv3⟩
    have B_v3 := Lib.hid (B_v2.out.trans (hqv3.out.mono B_v2.out.size))
    have P_v3 := Lib.hid (ownN_below P_v2.out hqv3.out)
    have R_v3 := Lib.hid (ownN_below hov2.out hqv3.out)
    clear B_v2 P_v2 hov2 hqv3
    clear P_v3 R_v3
    go_wp2_with fail
    refine (T1.out v3 B_v3.out).mono ?_
    rintro e v4 ⟨bv4, rfl, hbv4, hov4, hqv4⟩
    have NE_Z_X : Hid (∀ g, (Value.slice Av3 m cv3).ownBlock = some g → g ≠ bv4) := fun g e => by have h1 := (own_heap hov3.out e).2.2; have h2 := hbv4.out; omega
    have GB_X : Hid (w.heap.size ≤ bv4) := by have h1 := hbv4.out; have h2 := (B_v3.out).size; show w.heap.size ≤ bv4; omega
    have B_v4 := Lib.hid (B_v3.out.trans (hqv4.out.mono B_v3.out.size))
    have Z_v4 := Lib.hid (ownN_below hov3.out hqv4.out)
    clear B_v3 hov3 hqv4
    clear hbv4
    go_wp2_with fail
    refine (T2.out v4 B_v4.out).mono ?_
    rintro e v5 ⟨bv5, rfl, hbv5, hov5, hqv5⟩
    have NE_Z_Y : Hid (∀ g, (Value.slice Av3 m cv3).ownBlock = some g → g ≠ bv5) := fun g e => by have h1 := (own_heap Z_v4.out e).2.2; have h2 := hbv5.out; omega
    have NE_X_Y : Hid (∀ g, (Value.slice (some ⟨bv4, 0, none⟩) n n).ownBlock = some g → g ≠ bv5) := fun g e => by have h1 := (own_heap hov4.out e).2.2; have h2 := hbv5.out; omega
    have GB_Y : Hid (w.heap.size ≤ bv5) := by have h1 := hbv5.out; have h2 := (B_v4.out).size; show w.heap.size ≤ bv5; omega
    have NE_Y_X : Hid (∀ g, (Value.slice (some ⟨bv5, 0, none⟩) k k).ownBlock = some g → g ≠ bv4) := fun g e => by have h1 := (own_heap hov5.out e).2.1; have h2 := (own_heap hov4.out (g := bv4) rfl).2.2; omega
    have B_v5 := Lib.hid (B_v4.out.trans (hqv5.out.mono B_v4.out.size))
    have Z_v5 := Lib.hid (ownN_below Z_v4.out hqv5.out)
    have X_v5 := Lib.hid (ownN_below hov4.out hqv5.out)
    clear B_v4 Z_v4 hov4 hqv5
    clear hbv5
    go_wp2_with fail
    refine (HI2.out _ _ _ _ _ _ v5 (own_pin X_v5.out Hn.out (by omega)) (own_pin hov5.out Hk.out (by omega))).mono ?_
    rintro e v6 ⟨Av6, cv6, rfl, hov6, hqv6⟩
    have NE_O_X : Hid (∀ g, (Value.slice Av6 m cv6).ownBlock = some g → g ≠ bv4) := fun g e => by have h1 := (own_heap hov6.out e).2.1; have h2 := (own_heap X_v5.out (g := bv4) rfl).2.2; omega
    have NE_O_Y : Hid (∀ g, (Value.slice Av6 m cv6).ownBlock = some g → g ≠ bv5) := fun g e => by have h1 := (own_heap hov6.out e).2.1; have h2 := (own_heap hov5.out (g := bv5) rfl).2.2; omega
    have GB_O : Hid (∀ g, (Value.slice Av6 m cv6).ownBlock = some g → w.heap.size ≤ g) := fun g e => by have h1 := (own_heap hov6.out e).2.1; have h2 := (B_v5.out).size; omega
    have K_Z_O : Hid ((Value.slice Av3 m cv3).ownBlock = none ∨ (Value.slice Av3 m cv3).ownBlock ≠ (Value.slice Av6 m cv6).ownBlock) := by
      rcases h : (Value.slice Av3 m cv3).ownBlock with _ | g
      · exact .inl rfl
      · exact .inr fun e => by have h1 := (own_heap Z_v5.out h).2.2; have h2 := (own_heap hov6.out e.symm).2.1; omega
    have B_v6 := Lib.hid (B_v5.out.trans (hqv6.out.mono B_v5.out.size))
    have Z_v6 := Lib.hid (ownN_below Z_v5.out hqv6.out)
    have X_v6 := Lib.hid (ownN_below X_v5.out hqv6.out)
    have Y_v6 := Lib.hid (ownN_below hov5.out hqv6.out)
    clear B_v5 Z_v5 X_v5 hov5 hqv6
    go_wp2_with fail
    refine (calls_drawn (eqInt_same _ _ _ _ _ _ xs v6 _ _ (own_rd hov6.out Hm.out) Hm.out (own_rd Z_v6.out Hm.out) Hm.out (by omega))).mono ?_
    rintro e v7 ⟨rfl, hqv70⟩
    have hqv7 := Lib.hid hqv70
    clear hqv70
    have B_v7 := Lib.hid (B_v6.out.trans (hqv7.out.mono B_v6.out.size))
    have Z_v7 := Lib.hid (ownN_below Z_v6.out hqv7.out)
    have X_v7 := Lib.hid (ownN_below X_v6.out hqv7.out)
    have Y_v7 := Lib.hid (ownN_below Y_v6.out hqv7.out)
    have O_v7 := Lib.hid (ownN_below hov6.out hqv7.out)
    clear B_v6 Z_v6 X_v6 Y_v6 hov6 hqv7
    go_wp2_with fail
    refine (T1.out v7 B_v7.out).mono ?_
    rintro e v8 ⟨bv8, rfl, hbv8, hov8, hqv8⟩
    have NE_Z_Q : Hid (∀ g, (Value.slice Av3 m cv3).ownBlock = some g → g ≠ bv8) := fun g e => by have h1 := (own_heap Z_v7.out e).2.2; have h2 := hbv8.out; omega
    have NE_X_Q : Hid (∀ g, (Value.slice (some ⟨bv4, 0, none⟩) n n).ownBlock = some g → g ≠ bv8) := fun g e => by have h1 := (own_heap X_v7.out e).2.2; have h2 := hbv8.out; omega
    have NE_Y_Q : Hid (∀ g, (Value.slice (some ⟨bv5, 0, none⟩) k k).ownBlock = some g → g ≠ bv8) := fun g e => by have h1 := (own_heap Y_v7.out e).2.2; have h2 := hbv8.out; omega
    have NE_O_Q : Hid (∀ g, (Value.slice Av6 m cv6).ownBlock = some g → g ≠ bv8) := fun g e => by have h1 := (own_heap O_v7.out e).2.2; have h2 := hbv8.out; omega
    have GB_Q : Hid (w.heap.size ≤ bv8) := by have h1 := hbv8.out; have h2 := (B_v7.out).size; show w.heap.size ≤ bv8; omega
    have NE_Q_X : Hid (∀ g, (Value.slice (some ⟨bv8, 0, none⟩) n n).ownBlock = some g → g ≠ bv4) := fun g e => by have h1 := (own_heap hov8.out e).2.1; have h2 := (own_heap X_v7.out (g := bv4) rfl).2.2; omega
    have NE_Q_Y : Hid (∀ g, (Value.slice (some ⟨bv8, 0, none⟩) n n).ownBlock = some g → g ≠ bv5) := fun g e => by have h1 := (own_heap hov8.out e).2.1; have h2 := (own_heap Y_v7.out (g := bv5) rfl).2.2; omega
    have B_v8 := Lib.hid (B_v7.out.trans (hqv8.out.mono B_v7.out.size))
    have Z_v8 := Lib.hid (ownN_below Z_v7.out hqv8.out)
    have X_v8 := Lib.hid (ownN_below X_v7.out hqv8.out)
    have Y_v8 := Lib.hid (ownN_below Y_v7.out hqv8.out)
    have O_v8 := Lib.hid (ownN_below O_v7.out hqv8.out)
    clear B_v7 Z_v7 X_v7 Y_v7 O_v7 hqv8
    clear hbv8
    go_wp2_with fail
    refine (calls_drawn (eqInt_same _ _ _ _ _ _ zs v8 _ _ (own_rd X_v8.out Hn.out) Hn.out (own_rd hov8.out Hn.out) Hn.out (by omega))).mono ?_
    rintro e v9 ⟨rfl, hqv90⟩
    have hqv9 := Lib.hid hqv90
    clear hqv90
    have B_v9 := Lib.hid (B_v8.out.trans (hqv9.out.mono B_v8.out.size))
    have Z_v9 := Lib.hid (ownN_below Z_v8.out hqv9.out)
    have X_v9 := Lib.hid (ownN_below X_v8.out hqv9.out)
    have Y_v9 := Lib.hid (ownN_below Y_v8.out hqv9.out)
    have O_v9 := Lib.hid (ownN_below O_v8.out hqv9.out)
    have Q_v9 := Lib.hid (ownN_below hov8.out hqv9.out)
    clear B_v8 Z_v8 X_v8 Y_v8 O_v8 hov8 hqv9
    clear Q_v9
    go_wp2_with fail
    refine (T2.out v9 B_v9.out).mono ?_
    rintro e v10 ⟨bv10, rfl, hbv10, hov10, hqv10⟩
    have NE_Z_Q2 : Hid (∀ g, (Value.slice Av3 m cv3).ownBlock = some g → g ≠ bv10) := fun g e => by have h1 := (own_heap Z_v9.out e).2.2; have h2 := hbv10.out; omega
    have NE_X_Q2 : Hid (∀ g, (Value.slice (some ⟨bv4, 0, none⟩) n n).ownBlock = some g → g ≠ bv10) := fun g e => by have h1 := (own_heap X_v9.out e).2.2; have h2 := hbv10.out; omega
    have NE_Y_Q2 : Hid (∀ g, (Value.slice (some ⟨bv5, 0, none⟩) k k).ownBlock = some g → g ≠ bv10) := fun g e => by have h1 := (own_heap Y_v9.out e).2.2; have h2 := hbv10.out; omega
    have NE_O_Q2 : Hid (∀ g, (Value.slice Av6 m cv6).ownBlock = some g → g ≠ bv10) := fun g e => by have h1 := (own_heap O_v9.out e).2.2; have h2 := hbv10.out; omega
    have GB_Q2 : Hid (w.heap.size ≤ bv10) := by have h1 := hbv10.out; have h2 := (B_v9.out).size; show w.heap.size ≤ bv10; omega
    have NE_Q2_X : Hid (∀ g, (Value.slice (some ⟨bv10, 0, none⟩) k k).ownBlock = some g → g ≠ bv4) := fun g e => by have h1 := (own_heap hov10.out e).2.1; have h2 := (own_heap X_v9.out (g := bv4) rfl).2.2; omega
    have NE_Q2_Y : Hid (∀ g, (Value.slice (some ⟨bv10, 0, none⟩) k k).ownBlock = some g → g ≠ bv5) := fun g e => by have h1 := (own_heap hov10.out e).2.1; have h2 := (own_heap Y_v9.out (g := bv5) rfl).2.2; omega
    have B_v10 := Lib.hid (B_v9.out.trans (hqv10.out.mono B_v9.out.size))
    have Z_v10 := Lib.hid (ownN_below Z_v9.out hqv10.out)
    have X_v10 := Lib.hid (ownN_below X_v9.out hqv10.out)
    have Y_v10 := Lib.hid (ownN_below Y_v9.out hqv10.out)
    have O_v10 := Lib.hid (ownN_below O_v9.out hqv10.out)
    clear B_v9 Z_v9 X_v9 Y_v9 O_v9 hqv10
    clear hbv10
    go_wp2_with fail
    refine (calls_drawn (eqInt_same _ _ _ _ _ _ ss v10 _ _ (own_rd Y_v10.out Hk.out) Hk.out (own_rd hov10.out Hk.out) Hk.out (by omega))).mono ?_
    rintro e v11 ⟨rfl, hqv110⟩
    have hqv11 := Lib.hid hqv110
    clear hqv110
    have B_v11 := Lib.hid (B_v10.out.trans (hqv11.out.mono B_v10.out.size))
    have Z_v11 := Lib.hid (ownN_below Z_v10.out hqv11.out)
    have X_v11 := Lib.hid (ownN_below X_v10.out hqv11.out)
    have Y_v11 := Lib.hid (ownN_below Y_v10.out hqv11.out)
    have O_v11 := Lib.hid (ownN_below O_v10.out hqv11.out)
    have Q2_v11 := Lib.hid (ownN_below hov10.out hqv11.out)
    clear B_v10 Z_v10 X_v10 Y_v10 O_v10 hov10 hqv11
    clear Q2_v11
    go_wp2_with fail
    refine (markI_any v11 _ bv4 n n 1 zs X_v11.out Hn.out (by omega) (by omega) (by omega)).mono ?_
    rintro e v12 ⟨rfl, -, hgv12⟩
    have B_v12 := Lib.hid (B_v11.out.grown hgv12 B_v11.out.size (fun k e => by injection e with e; rw [← e]; exact GB_X.out))
    have Z_v12 := Lib.hid (World.ownsRow.kept Z_v11.out hgv12 (.inr (fun e => NE_Z_X.out _ e rfl)))
    have Y_v12 := Lib.hid (World.ownsRow.kept Y_v11.out hgv12 (.inr (fun e => NE_Y_X.out _ e rfl)))
    have O_v12 := Lib.hid (World.ownsRow.kept O_v11.out hgv12 (.inr (fun e => NE_O_X.out _ e rfl)))
    clear B_v11 Z_v11 Y_v11 O_v11 X_v11 hgv12
    go_wp2_with fail
    refine (markI_any v12 _ bv5 k k (1 + (n : Int)) ss Y_v12.out Hk.out (by omega) (by omega) (by omega)).mono ?_
    rintro e v13 ⟨rfl, -, hgv13⟩
    have B_v13 := Lib.hid (B_v12.out.grown hgv13 B_v12.out.size (fun k e => by injection e with e; rw [← e]; exact GB_Y.out))
    have Z_v13 := Lib.hid (World.ownsRow.kept Z_v12.out hgv13 (.inr (fun e => NE_Z_Y.out _ e rfl)))
    have O_v13 := Lib.hid (World.ownsRow.kept O_v12.out hgv13 (.inr (fun e => NE_O_Y.out _ e rfl)))
    clear B_v12 Z_v12 O_v12 Y_v12 hgv13
    have hpos1 : ¬ (1 + (n : Int) + (k : Int)) < 0 := by omega
    go_wp2_with fail
    refine (calls_drawn (eqInt_same _ _ _ _ _ _ xs v13 _ _ (own_rd O_v13.out Hm.out) Hm.out (own_rd Z_v13.out Hm.out) Hm.out (by omega))).mono ?_
    rintro e v14 ⟨rfl, hqv140⟩
    have hqv14 := Lib.hid hqv140
    clear hqv140
    have B_v14 := Lib.hid (B_v13.out.trans (hqv14.out.mono B_v13.out.size))
    have Z_v14 := Lib.hid (ownN_below Z_v13.out hqv14.out)
    have O_v14 := Lib.hid (ownN_below O_v13.out hqv14.out)
    clear B_v13 Z_v13 O_v13 hqv14
    have hpos2 : ¬ (1 + ((m : Nat) : Int)) < 0 := by omega
    have hbn : ∀ x : Int, (x != x) = false := fun x => by simp
    go_wp2_with fail
    refine (markRowG_any v14 _ m _ _ xs O_v14.out Hm.out (by omega)).mono ?_
    rintro e v15 ⟨rfl, hov15, hgv15⟩
    have B_v15 := Lib.hid (B_v14.out.grown hgv15.out B_v14.out.size (fun k e => GB_O.out k e))
    have Z_v15 := Lib.hid (World.ownsRow.kept Z_v14.out hgv15.out K_Z_O.out)
    clear B_v14 Z_v14 O_v14 hgv15
    go_wp2_with fail
    refine (heldI_any v15 _ m _ 1 _ (own_rd hov15.out (mk_len 1 m)) (by omega) (by omega) (by omega)).mono ?_
    rintro e w' ⟨rfl, rfl⟩
    go_wp2_with fail
    refine (T1.out v15 B_v15.out).mono ?_
    rintro e v16 ⟨bv16, rfl, hbv16, hov16, hqv16⟩
    have NE_Z_P3 : Hid (∀ g, (Value.slice Av3 m cv3).ownBlock = some g → g ≠ bv16) := fun g e => by have h1 := (own_heap Z_v15.out e).2.2; have h2 := hbv16.out; omega
    have NE_O_P3 : Hid (∀ g, (Value.slice Av6 m cv6).ownBlock = some g → g ≠ bv16) := fun g e => by have h1 := (own_heap hov15.out e).2.2; have h2 := hbv16.out; omega
    have GB_P3 : Hid (w.heap.size ≤ bv16) := by have h1 := hbv16.out; have h2 := (B_v15.out).size; show w.heap.size ≤ bv16; omega
    have B_v16 := Lib.hid (B_v15.out.trans (hqv16.out.mono B_v15.out.size))
    have Z_v16 := Lib.hid (ownN_below Z_v15.out hqv16.out)
    have O_v16 := Lib.hid (ownN_below hov15.out hqv16.out)
    clear B_v15 Z_v15 hov15 hqv16
    clear hbv16
    go_wp2_with fail
    refine (T2.out v16 B_v16.out).mono ?_
    rintro e v17 ⟨bv17, rfl, hbv17, hov17, hqv17⟩
    have NE_Z_R3 : Hid (∀ g, (Value.slice Av3 m cv3).ownBlock = some g → g ≠ bv17) := fun g e => by have h1 := (own_heap Z_v16.out e).2.2; have h2 := hbv17.out; omega
    have NE_O_R3 : Hid (∀ g, (Value.slice Av6 m cv6).ownBlock = some g → g ≠ bv17) := fun g e => by have h1 := (own_heap O_v16.out e).2.2; have h2 := hbv17.out; omega
    have NE_P3_R3 : Hid (∀ g, (Value.slice (some ⟨bv16, 0, none⟩) n n).ownBlock = some g → g ≠ bv17) := fun g e => by have h1 := (own_heap hov16.out e).2.2; have h2 := hbv17.out; omega
    have GB_R3 : Hid (w.heap.size ≤ bv17) := by have h1 := hbv17.out; have h2 := (B_v16.out).size; show w.heap.size ≤ bv17; omega
    have B_v17 := Lib.hid (B_v16.out.trans (hqv17.out.mono B_v16.out.size))
    have Z_v17 := Lib.hid (ownN_below Z_v16.out hqv17.out)
    have O_v17 := Lib.hid (ownN_below O_v16.out hqv17.out)
    have P3_v17 := Lib.hid (ownN_below hov16.out hqv17.out)
    clear B_v16 Z_v16 O_v16 hov16 hqv17
    clear hbv17
    go_wp2_with fail
    refine (HI2.out _ _ _ _ _ _ v17 (own_pin P3_v17.out Hn.out (by omega)) (own_pin hov17.out Hk.out (by omega))).mono ?_
    rintro e v18 ⟨Av18, cv18, rfl, hov18, hqv18⟩
    have B_v18 := Lib.hid (B_v17.out.trans (hqv18.out.mono B_v17.out.size))
    have Z_v18 := Lib.hid (ownN_below Z_v17.out hqv18.out)
    have O_v18 := Lib.hid (ownN_below O_v17.out hqv18.out)
    have P3_v18 := Lib.hid (ownN_below P3_v17.out hqv18.out)
    have R3_v18 := Lib.hid (ownN_below hov17.out hqv18.out)
    clear B_v17 Z_v17 O_v17 P3_v17 hov17 hqv18
    clear P3_v18 R3_v18
    go_wp2_with fail
    refine (calls_drawn (eqInt_same _ _ _ _ _ _ xs v18 _ _ (own_rd hov18.out Hm.out) Hm.out (own_rd Z_v18.out Hm.out) Hm.out (by omega))).mono ?_
    rintro e v19 ⟨rfl, hqv190⟩
    have hqv19 := Lib.hid hqv190
    clear hqv190
    have B_v19 := Lib.hid (B_v18.out.trans (hqv19.out.mono B_v18.out.size))
    have Z_v19 := Lib.hid (ownN_below Z_v18.out hqv19.out)
    have O_v19 := Lib.hid (ownN_below O_v18.out hqv19.out)
    have O2_v19 := Lib.hid (ownN_below hov18.out hqv19.out)
    clear B_v18 Z_v18 O_v18 hov18 hqv19
    go_wp2_with fail
    refine (heldI_any v19 _ m _ 1 _ (own_rd O_v19.out (mk_len 1 m)) (by omega) (by omega) (by omega)).mono ?_
    rintro e w' ⟨rfl, rfl⟩
    go_wp2
    go_ret
    exact ⟨rfl, B_v19.out⟩
set_option maxHeartbeats 1600000 in
theorem exBestSpread_walk (A : Option Addr) (c : Nat) (zs : List Int) (k far u d : Int) (w : World) (hr : RdI w w.heap.size A zs) (hm : zs.length ≤ maxLen) (hwk : (Lit.int .i64 k).wf = true) (hwf : (Lit.int .i64 far).wf = true) (hwu : (Lit.int .i64 u).wf = true) (hwd : (Lit.int .i64 d).wf = true) :
    Calls Try.prog 11 #[.slice A zs.length c, .int .i64 k, .int .i64 far, .agg #[.int .i64 u, .int .i64 d]] w fun e w' => e = .returned (.bool true) ∧ Below w.heap.size w w' := by
  unfold maxLen at hm
  clear hwk hwf hwu hwd
  obtain ⟨n, Hn⟩ : ∃ n, Hid (zs.length = n) := ⟨_, rfl⟩
  rw [Hn.out] at hm ⊢
  by_cases hb : 1048576 < n
  · clear hr
    go_enter Try.func11, Try.ntmps11
    go_wp2
    go_ret
    exact ⟨rfl, (Below.refl _ _).alloc (Nat.le_refl _) _⟩
  · have hbb : Below w.heap.size w (w.alloc (.cells #[.int .i64 u, .int .i64 d] 43)) := (Below.refl _ _).alloc (Nat.le_refl _) _
    have pbx : (w.alloc (.cells #[.int .i64 u, .int .i64 d] 43)).heap[w.heap.size]? = some (.cells #[.int .i64 u, .int .i64 d] 43 (0, 0)) := heap_alloc_new _ _
    obtain ⟨wb, Hwb⟩ : ∃ wb, Hid (w.alloc (.cells #[.int .i64 u, .int .i64 d] 43) = wb) := ⟨_, rfl⟩
    rw [Hwb.out] at hbb pbx
    obtain ⟨pb, Hpb⟩ : ∃ pb, Hid (w.heap.size = pb) := ⟨_, rfl⟩
    rw [Hpb.out] at pbx
    have K : Hid (∀ W, Below wb.heap.size wb W → W.cell? ⟨pb, 0, none⟩ = some (.int .i64 u) ∧ W.cell? ⟨pb, 1, none⟩ = some (.int .i64 d)) := fun W hW => frac_cells ((hW.block _ (row_lt pbx)).trans pbx)
    have HRb := Lib.hid ((hr.below hbb).more hbb.size)
    have HBb := Lib.hid hbb
    have hm2 := bsQ_len zs k far u d
    obtain ⟨xs, Hx⟩ : ∃ xs, Hid (bsQ zs k far u d = xs) := ⟨_, rfl⟩
    rw [Hx.out] at hm2
    obtain ⟨m, Hm⟩ : ∃ m, Hid (xs.length = m) := ⟨_, rfl⟩
    rw [Hm.out] at hm2
    have HI2 : Hid (∀ (A : Option Addr) (c n : Nat) (w : World), PIn w A c n zs → Calls Try.prog 22 #[.slice A n c, .int .i64 k, .int .i64 far, .agg #[.int .i64 u, .int .i64 d]] w (RowM xs m w)) := fun A c n w h => by
      have := iBestSpread_ok A c n zs k far u d w h
      rw [Hx.out] at this
      exact this.mono fun _ _ hh => rowM_of hh Hm.out
    have HS2 : Hid (∀ (A : Option Addr) (c n : Nat) (w : World), PIn w A c n zs → Calls Try.prog 23 #[.slice A n c, .int .i64 k, .int .i64 far, .agg #[.int .i64 u, .int .i64 d]] w (RowM xs m w)) := fun A c n w h => by
      have := sBestSpread_ok A c n zs k far u d w h
      rw [Hx.out] at this
      exact this.mono fun _ _ hh => rowM_of hh Hm.out
    clear hr hbb pbx
    have T1 : Hid (∀ W, Below wb.heap.size wb W → Calls Try.prog 28 #[.slice A n c] W (CopyN zs n W)) := fun W hW => toIntN_any A c n zs W ((HRb.out.below hW).more hW.size) Hn.out (by omega)
    clear HRb
    go_enter Try.func11, Try.ntmps11
    have HKwb := Lib.hid (K.out wb (Below.refl wb.heap.size wb))
    obtain ⟨k0, k1⟩ := HKwb.out
    have HBrwb := Lib.hid ((Below.refl wb.heap.size wb))
    go_wp2
    rw [Hwb.out, Hpb.out]
    go_region_held3 (fun W' => W'.cell? ⟨pb, 0, none⟩ = some (.int .i64 u) ∧ W'.cell? ⟨pb, 1, none⟩ = some (.int .i64 d))
      (first
        | go_keep
        | exact HKwb.out
        | exact K.out _ (HBrwb.out.trans (hxv1.mono HBrwb.out.size))
        | exact K.out _ (HBrwb.out.trans (hxv2.mono HBrwb.out.size))
        | exact K.out _ (HBrwb.out.trans (hxv3.mono HBrwb.out.size))
      )
      (first
        | (go_at_call 28
           refine (T1.out _ (HBrwb.out.drew)).mono ?_
           rintro e v1 ⟨bv1, rfl, hbv1, hov1, hqv1⟩
           have hxv1 : Below wb.heap.size wb v1 := belowd hqv1.out)
        | (go_at_call 32
           refine (toFracQ_any u d _).mono ?_
           rintro e v2 ⟨rfl, hqv2⟩
           have hxv2 : Below wb.heap.size wb v2 := hxv1.trans (hqv2.mono hxv1.size)
           have hrv2 := ownN_below hov1.out hqv2)
        | (go_at_call 23
           refine (HS2.out _ _ _ _ (own_pin hrv2 Hn.out (by omega))).mono ?_
           rintro e v3 ⟨Av3, cv3, rfl, hov3, hqv3⟩
           have hxv3 : Below wb.heap.size wb v3 := hxv2.trans (hqv3.out.mono hxv2.size)))
    have hyv3 := Lib.hid hxv3
    clear hxv1 hxv2 hxv3 hrv2 hov1 hqv1 hqv2 hqv3 hbv1 HKwb HBrwb k0 k1
    have B_v3 := Lib.hid hyv3.out
    clear hyv3
    go_wp2_with fail
    refine (T1.out v3 B_v3.out).mono ?_
    rintro e v4 ⟨bv4, rfl, hbv4, hov4, hqv4⟩
    have NE_Z_X : Hid (∀ g, (Value.slice Av3 m cv3).ownBlock = some g → g ≠ bv4) := fun g e => by have h1 := (own_heap hov3.out e).2.2; have h2 := hbv4.out; omega
    have GB_X : Hid (wb.heap.size ≤ bv4) := by have h1 := hbv4.out; have h2 := (B_v3.out).size; show wb.heap.size ≤ bv4; omega
    have B_v4 := Lib.hid (B_v3.out.trans (hqv4.out.mono B_v3.out.size))
    have Z_v4 := Lib.hid (ownN_below hov3.out hqv4.out)
    clear B_v3 hov3 hqv4
    clear hbv4
    obtain ⟨k0, k1⟩ := K.out v4 B_v4.out
    go_wp2_with fail
    refine (toFracQ_any u d v4).mono ?_
    rintro e v5 ⟨rfl, hqv50⟩
    have hqv5 := Lib.hid hqv50
    clear hqv50 k0 k1
    have B_v5 := Lib.hid (B_v4.out.trans (hqv5.out.mono B_v4.out.size))
    have Z_v5 := Lib.hid (ownN_below Z_v4.out hqv5.out)
    have X_v5 := Lib.hid (ownN_below hov4.out hqv5.out)
    clear B_v4 Z_v4 hov4 hqv5
    go_wp2_with fail
    refine (HI2.out _ _ _ v5 (own_pin X_v5.out Hn.out (by omega))).mono ?_
    rintro e v6 ⟨Av6, cv6, rfl, hov6, hqv6⟩
    have NE_O_X : Hid (∀ g, (Value.slice Av6 m cv6).ownBlock = some g → g ≠ bv4) := fun g e => by have h1 := (own_heap hov6.out e).2.1; have h2 := (own_heap X_v5.out (g := bv4) rfl).2.2; omega
    have GB_O : Hid (∀ g, (Value.slice Av6 m cv6).ownBlock = some g → wb.heap.size ≤ g) := fun g e => by have h1 := (own_heap hov6.out e).2.1; have h2 := (B_v5.out).size; omega
    have K_Z_O : Hid ((Value.slice Av3 m cv3).ownBlock = none ∨ (Value.slice Av3 m cv3).ownBlock ≠ (Value.slice Av6 m cv6).ownBlock) := by
      rcases h : (Value.slice Av3 m cv3).ownBlock with _ | g
      · exact .inl rfl
      · exact .inr fun e => by have h1 := (own_heap Z_v5.out h).2.2; have h2 := (own_heap hov6.out e.symm).2.1; omega
    have B_v6 := Lib.hid (B_v5.out.trans (hqv6.out.mono B_v5.out.size))
    have Z_v6 := Lib.hid (ownN_below Z_v5.out hqv6.out)
    have X_v6 := Lib.hid (ownN_below X_v5.out hqv6.out)
    clear B_v5 Z_v5 X_v5 hqv6
    go_wp2_with fail
    refine (calls_drawn (eqInt_same _ _ _ _ _ _ xs v6 _ _ (own_rd hov6.out Hm.out) Hm.out (own_rd Z_v6.out Hm.out) Hm.out (by omega))).mono ?_
    rintro e v7 ⟨rfl, hqv70⟩
    have hqv7 := Lib.hid hqv70
    clear hqv70
    have B_v7 := Lib.hid (B_v6.out.trans (hqv7.out.mono B_v6.out.size))
    have Z_v7 := Lib.hid (ownN_below Z_v6.out hqv7.out)
    have X_v7 := Lib.hid (ownN_below X_v6.out hqv7.out)
    have O_v7 := Lib.hid (ownN_below hov6.out hqv7.out)
    clear B_v6 Z_v6 X_v6 hov6 hqv7
    go_wp2_with fail
    refine (T1.out v7 B_v7.out).mono ?_
    rintro e v8 ⟨bv8, rfl, hbv8, hov8, hqv8⟩
    have NE_Z_Q : Hid (∀ g, (Value.slice Av3 m cv3).ownBlock = some g → g ≠ bv8) := fun g e => by have h1 := (own_heap Z_v7.out e).2.2; have h2 := hbv8.out; omega
    have NE_X_Q : Hid (∀ g, (Value.slice (some ⟨bv4, 0, none⟩) n n).ownBlock = some g → g ≠ bv8) := fun g e => by have h1 := (own_heap X_v7.out e).2.2; have h2 := hbv8.out; omega
    have NE_O_Q : Hid (∀ g, (Value.slice Av6 m cv6).ownBlock = some g → g ≠ bv8) := fun g e => by have h1 := (own_heap O_v7.out e).2.2; have h2 := hbv8.out; omega
    have GB_Q : Hid (wb.heap.size ≤ bv8) := by have h1 := hbv8.out; have h2 := (B_v7.out).size; show wb.heap.size ≤ bv8; omega
    have NE_Q_X : Hid (∀ g, (Value.slice (some ⟨bv8, 0, none⟩) n n).ownBlock = some g → g ≠ bv4) := fun g e => by have h1 := (own_heap hov8.out e).2.1; have h2 := (own_heap X_v7.out (g := bv4) rfl).2.2; omega
    have B_v8 := Lib.hid (B_v7.out.trans (hqv8.out.mono B_v7.out.size))
    have Z_v8 := Lib.hid (ownN_below Z_v7.out hqv8.out)
    have X_v8 := Lib.hid (ownN_below X_v7.out hqv8.out)
    have O_v8 := Lib.hid (ownN_below O_v7.out hqv8.out)
    clear B_v7 Z_v7 X_v7 O_v7 hqv8
    clear hbv8
    go_wp2_with fail
    refine (calls_drawn (eqInt_same _ _ _ _ _ _ zs v8 _ _ (own_rd X_v8.out Hn.out) Hn.out (own_rd hov8.out Hn.out) Hn.out (by omega))).mono ?_
    rintro e v9 ⟨rfl, hqv90⟩
    have hqv9 := Lib.hid hqv90
    clear hqv90
    have B_v9 := Lib.hid (B_v8.out.trans (hqv9.out.mono B_v8.out.size))
    have Z_v9 := Lib.hid (ownN_below Z_v8.out hqv9.out)
    have X_v9 := Lib.hid (ownN_below X_v8.out hqv9.out)
    have O_v9 := Lib.hid (ownN_below O_v8.out hqv9.out)
    have Q_v9 := Lib.hid (ownN_below hov8.out hqv9.out)
    clear B_v8 Z_v8 X_v8 O_v8 hov8 hqv9
    clear Q_v9
    go_wp2_with fail
    refine (markI_any v9 _ bv4 n n 1 zs X_v9.out Hn.out (by omega) (by omega) (by omega)).mono ?_
    rintro e v10 ⟨rfl, -, hgv10⟩
    have B_v10 := Lib.hid (B_v9.out.grown hgv10 B_v9.out.size (fun k e => by injection e with e; rw [← e]; exact GB_X.out))
    have Z_v10 := Lib.hid (World.ownsRow.kept Z_v9.out hgv10 (.inr (fun e => NE_Z_X.out _ e rfl)))
    have O_v10 := Lib.hid (World.ownsRow.kept O_v9.out hgv10 (.inr (fun e => NE_O_X.out _ e rfl)))
    clear B_v9 Z_v9 O_v9 X_v9 hgv10
    have hpos1 : ¬ (1 + (n : Int)) < 0 := by omega
    go_wp2_with fail
    refine (calls_drawn (eqInt_same _ _ _ _ _ _ xs v10 _ _ (own_rd O_v10.out Hm.out) Hm.out (own_rd Z_v10.out Hm.out) Hm.out (by omega))).mono ?_
    rintro e v11 ⟨rfl, hqv110⟩
    have hqv11 := Lib.hid hqv110
    clear hqv110
    have B_v11 := Lib.hid (B_v10.out.trans (hqv11.out.mono B_v10.out.size))
    have Z_v11 := Lib.hid (ownN_below Z_v10.out hqv11.out)
    have O_v11 := Lib.hid (ownN_below O_v10.out hqv11.out)
    clear B_v10 Z_v10 O_v10 hqv11
    have hpos2 : ¬ (1 + ((m : Nat) : Int)) < 0 := by omega
    have hbn : ∀ x : Int, (x != x) = false := fun x => by simp
    go_wp2_with fail
    refine (markRowG_any v11 _ m _ _ xs O_v11.out Hm.out (by omega)).mono ?_
    rintro e v12 ⟨rfl, hov12, hgv12⟩
    have B_v12 := Lib.hid (B_v11.out.grown hgv12.out B_v11.out.size (fun k e => GB_O.out k e))
    have Z_v12 := Lib.hid (World.ownsRow.kept Z_v11.out hgv12.out K_Z_O.out)
    clear B_v11 Z_v11 O_v11 hgv12
    go_wp2_with fail
    refine (heldI_any v12 _ m _ 1 _ (own_rd hov12.out (mk_len 1 m)) (by omega) (by omega) (by omega)).mono ?_
    rintro e w' ⟨rfl, rfl⟩
    have HKv12 := Lib.hid (K.out v12 B_v12.out)
    obtain ⟨k0, k1⟩ := HKv12.out
    have HBrv12 := Lib.hid (B_v12.out)
    go_wp2
    go_region_held3 (fun W' => W'.cell? ⟨pb, 0, none⟩ = some (.int .i64 u) ∧ W'.cell? ⟨pb, 1, none⟩ = some (.int .i64 d))
      (first
        | go_keep
        | exact HKv12.out
        | exact K.out _ (HBrv12.out.trans (hxv13.mono HBrv12.out.size))
        | exact K.out _ (HBrv12.out.trans (hxv14.mono HBrv12.out.size))
        | exact K.out _ (HBrv12.out.trans (hxv15.mono HBrv12.out.size))
      )
      (first
        | (go_at_call 28
           refine (T1.out _ (HBrv12.out.drew)).mono ?_
           rintro e v13 ⟨bv13, rfl, hbv13, hov13, hqv13⟩
           have hxv13 : Below v12.heap.size v12 v13 := belowd hqv13.out)
        | (go_at_call 32
           refine (toFracQ_any u d _).mono ?_
           rintro e v14 ⟨rfl, hqv14⟩
           have hxv14 : Below v12.heap.size v12 v14 := hxv13.trans (hqv14.mono hxv13.size)
           have hrv14 := ownN_below hov13.out hqv14)
        | (go_at_call 22
           refine (HI2.out _ _ _ _ (own_pin hrv14 Hn.out (by omega))).mono ?_
           rintro e v15 ⟨Av15, cv15, rfl, hov15, hqv15⟩
           have hxv15 : Below v12.heap.size v12 v15 := hxv14.trans (hqv15.out.mono hxv14.size)))
    have hyv15 := Lib.hid hxv15
    clear hxv13 hxv14 hxv15 hrv14 hov13 hqv13 hqv14 hqv15 hbv13 HKv12 HBrv12 k0 k1
    have B_v15 := Lib.hid (B_v12.out.trans (hyv15.out.mono B_v12.out.size))
    have Z_v15 := Lib.hid (ownN_below Z_v12.out hyv15.out)
    have O_v15 := Lib.hid (ownN_below hov12.out hyv15.out)
    clear B_v12 Z_v12 hov12 hyv15
    go_wp2_with fail
    refine (calls_drawn (eqInt_same _ _ _ _ _ _ xs v15 _ _ (own_rd hov15.out Hm.out) Hm.out (own_rd Z_v15.out Hm.out) Hm.out (by omega))).mono ?_
    rintro e v16 ⟨rfl, hqv160⟩
    have hqv16 := Lib.hid hqv160
    clear hqv160
    have B_v16 := Lib.hid (B_v15.out.trans (hqv16.out.mono B_v15.out.size))
    have Z_v16 := Lib.hid (ownN_below Z_v15.out hqv16.out)
    have O_v16 := Lib.hid (ownN_below O_v15.out hqv16.out)
    have O2_v16 := Lib.hid (ownN_below hov15.out hqv16.out)
    clear B_v15 Z_v15 O_v15 hov15 hqv16
    go_wp2_with fail
    refine (heldI_any v16 _ m _ 1 _ (own_rd O_v16.out (mk_len 1 m)) (by omega) (by omega) (by omega)).mono ?_
    rintro e w' ⟨rfl, rfl⟩
    go_wp2
    go_ret
    exact ⟨rfl, HBb.out.trans (B_v16.out.mono HBb.out.size)⟩
set_option maxHeartbeats 1600000 in
theorem exGreedySpread_walk (A : Option Addr) (c : Nat) (zs : List Int) (k far u d : Int) (w : World) (hr : RdI w w.heap.size A zs) (hm : zs.length ≤ maxLen) (hwk : (Lit.int .i64 k).wf = true) (hwf : (Lit.int .i64 far).wf = true) (hwu : (Lit.int .i64 u).wf = true) (hwd : (Lit.int .i64 d).wf = true) :
    Calls Try.prog 12 #[.slice A zs.length c, .int .i64 k, .int .i64 far, .agg #[.int .i64 u, .int .i64 d]] w fun e w' => e = .returned (.bool true) ∧ Below w.heap.size w w' := by
  unfold maxLen at hm
  clear hwk hwf hwu hwd
  obtain ⟨n, Hn⟩ : ∃ n, Hid (zs.length = n) := ⟨_, rfl⟩
  rw [Hn.out] at hm ⊢
  by_cases hb : 1048576 < n
  · clear hr
    go_enter Try.func12, Try.ntmps12
    go_wp2
    go_ret
    exact ⟨rfl, (Below.refl _ _).alloc (Nat.le_refl _) _⟩
  · have hbb : Below w.heap.size w (w.alloc (.cells #[.int .i64 u, .int .i64 d] 43)) := (Below.refl _ _).alloc (Nat.le_refl _) _
    have pbx : (w.alloc (.cells #[.int .i64 u, .int .i64 d] 43)).heap[w.heap.size]? = some (.cells #[.int .i64 u, .int .i64 d] 43 (0, 0)) := heap_alloc_new _ _
    obtain ⟨wb, Hwb⟩ : ∃ wb, Hid (w.alloc (.cells #[.int .i64 u, .int .i64 d] 43) = wb) := ⟨_, rfl⟩
    rw [Hwb.out] at hbb pbx
    obtain ⟨pb, Hpb⟩ : ∃ pb, Hid (w.heap.size = pb) := ⟨_, rfl⟩
    rw [Hpb.out] at pbx
    have K : Hid (∀ W, Below wb.heap.size wb W → W.cell? ⟨pb, 0, none⟩ = some (.int .i64 u) ∧ W.cell? ⟨pb, 1, none⟩ = some (.int .i64 d)) := fun W hW => frac_cells ((hW.block _ (row_lt pbx)).trans pbx)
    have HRb := Lib.hid ((hr.below hbb).more hbb.size)
    have HBb := Lib.hid hbb
    have hm2 := gdQ_len zs k far u d
    obtain ⟨xs, Hx⟩ : ∃ xs, Hid (gdQ zs k far u d = xs) := ⟨_, rfl⟩
    rw [Hx.out] at hm2
    obtain ⟨m, Hm⟩ : ∃ m, Hid (xs.length = m) := ⟨_, rfl⟩
    rw [Hm.out] at hm2
    have HI2 : Hid (∀ (A : Option Addr) (c n : Nat) (w : World), PIn w A c n zs → Calls Try.prog 24 #[.slice A n c, .int .i64 k, .int .i64 far, .agg #[.int .i64 u, .int .i64 d]] w (RowM xs m w)) := fun A c n w h => by
      have := iGreedySpread_ok A c n zs k far u d w h
      rw [Hx.out] at this
      exact this.mono fun _ _ hh => rowM_of hh Hm.out
    have HS2 : Hid (∀ (A : Option Addr) (c n : Nat) (w : World), PIn w A c n zs → Calls Try.prog 26 #[.slice A n c, .int .i64 k, .int .i64 far, .agg #[.int .i64 u, .int .i64 d]] w (RowM xs m w)) := fun A c n w h => by
      have := sGreedySpread_ok A c n zs k far u d w h
      rw [Hx.out] at this
      exact this.mono fun _ _ hh => rowM_of hh Hm.out
    clear hr hbb pbx
    have T1 : Hid (∀ W, Below wb.heap.size wb W → Calls Try.prog 28 #[.slice A n c] W (CopyN zs n W)) := fun W hW => toIntN_any A c n zs W ((HRb.out.below hW).more hW.size) Hn.out (by omega)
    clear HRb
    go_enter Try.func12, Try.ntmps12
    have HKwb := Lib.hid (K.out wb (Below.refl wb.heap.size wb))
    obtain ⟨k0, k1⟩ := HKwb.out
    have HBrwb := Lib.hid ((Below.refl wb.heap.size wb))
    go_wp2
    rw [Hwb.out, Hpb.out]
    go_region_held3 (fun W' => W'.cell? ⟨pb, 0, none⟩ = some (.int .i64 u) ∧ W'.cell? ⟨pb, 1, none⟩ = some (.int .i64 d))
      (first
        | go_keep
        | exact HKwb.out
        | exact K.out _ (HBrwb.out.trans (hxv1.mono HBrwb.out.size))
        | exact K.out _ (HBrwb.out.trans (hxv2.mono HBrwb.out.size))
        | exact K.out _ (HBrwb.out.trans (hxv3.mono HBrwb.out.size))
      )
      (first
        | (go_at_call 28
           refine (T1.out _ (HBrwb.out.drew)).mono ?_
           rintro e v1 ⟨bv1, rfl, hbv1, hov1, hqv1⟩
           have hxv1 : Below wb.heap.size wb v1 := belowd hqv1.out)
        | (go_at_call 32
           refine (toFracQ_any u d _).mono ?_
           rintro e v2 ⟨rfl, hqv2⟩
           have hxv2 : Below wb.heap.size wb v2 := hxv1.trans (hqv2.mono hxv1.size)
           have hrv2 := ownN_below hov1.out hqv2)
        | (go_at_call 26
           refine (HS2.out _ _ _ _ (own_pin hrv2 Hn.out (by omega))).mono ?_
           rintro e v3 ⟨Av3, cv3, rfl, hov3, hqv3⟩
           have hxv3 : Below wb.heap.size wb v3 := hxv2.trans (hqv3.out.mono hxv2.size)))
    have hyv3 := Lib.hid hxv3
    clear hxv1 hxv2 hxv3 hrv2 hov1 hqv1 hqv2 hqv3 hbv1 HKwb HBrwb k0 k1
    have B_v3 := Lib.hid hyv3.out
    clear hyv3
    go_wp2_with fail
    refine (T1.out v3 B_v3.out).mono ?_
    rintro e v4 ⟨bv4, rfl, hbv4, hov4, hqv4⟩
    have NE_Z_X : Hid (∀ g, (Value.slice Av3 m cv3).ownBlock = some g → g ≠ bv4) := fun g e => by have h1 := (own_heap hov3.out e).2.2; have h2 := hbv4.out; omega
    have GB_X : Hid (wb.heap.size ≤ bv4) := by have h1 := hbv4.out; have h2 := (B_v3.out).size; show wb.heap.size ≤ bv4; omega
    have B_v4 := Lib.hid (B_v3.out.trans (hqv4.out.mono B_v3.out.size))
    have Z_v4 := Lib.hid (ownN_below hov3.out hqv4.out)
    clear B_v3 hov3 hqv4
    clear hbv4
    obtain ⟨k0, k1⟩ := K.out v4 B_v4.out
    go_wp2_with fail
    refine (toFracQ_any u d v4).mono ?_
    rintro e v5 ⟨rfl, hqv50⟩
    have hqv5 := Lib.hid hqv50
    clear hqv50 k0 k1
    have B_v5 := Lib.hid (B_v4.out.trans (hqv5.out.mono B_v4.out.size))
    have Z_v5 := Lib.hid (ownN_below Z_v4.out hqv5.out)
    have X_v5 := Lib.hid (ownN_below hov4.out hqv5.out)
    clear B_v4 Z_v4 hov4 hqv5
    go_wp2_with fail
    refine (HI2.out _ _ _ v5 (own_pin X_v5.out Hn.out (by omega))).mono ?_
    rintro e v6 ⟨Av6, cv6, rfl, hov6, hqv6⟩
    have NE_O_X : Hid (∀ g, (Value.slice Av6 m cv6).ownBlock = some g → g ≠ bv4) := fun g e => by have h1 := (own_heap hov6.out e).2.1; have h2 := (own_heap X_v5.out (g := bv4) rfl).2.2; omega
    have GB_O : Hid (∀ g, (Value.slice Av6 m cv6).ownBlock = some g → wb.heap.size ≤ g) := fun g e => by have h1 := (own_heap hov6.out e).2.1; have h2 := (B_v5.out).size; omega
    have K_Z_O : Hid ((Value.slice Av3 m cv3).ownBlock = none ∨ (Value.slice Av3 m cv3).ownBlock ≠ (Value.slice Av6 m cv6).ownBlock) := by
      rcases h : (Value.slice Av3 m cv3).ownBlock with _ | g
      · exact .inl rfl
      · exact .inr fun e => by have h1 := (own_heap Z_v5.out h).2.2; have h2 := (own_heap hov6.out e.symm).2.1; omega
    have B_v6 := Lib.hid (B_v5.out.trans (hqv6.out.mono B_v5.out.size))
    have Z_v6 := Lib.hid (ownN_below Z_v5.out hqv6.out)
    have X_v6 := Lib.hid (ownN_below X_v5.out hqv6.out)
    clear B_v5 Z_v5 X_v5 hqv6
    go_wp2_with fail
    refine (calls_drawn (eqInt_same _ _ _ _ _ _ xs v6 _ _ (own_rd hov6.out Hm.out) Hm.out (own_rd Z_v6.out Hm.out) Hm.out (by omega))).mono ?_
    rintro e v7 ⟨rfl, hqv70⟩
    have hqv7 := Lib.hid hqv70
    clear hqv70
    have B_v7 := Lib.hid (B_v6.out.trans (hqv7.out.mono B_v6.out.size))
    have Z_v7 := Lib.hid (ownN_below Z_v6.out hqv7.out)
    have X_v7 := Lib.hid (ownN_below X_v6.out hqv7.out)
    have O_v7 := Lib.hid (ownN_below hov6.out hqv7.out)
    clear B_v6 Z_v6 X_v6 hov6 hqv7
    go_wp2_with fail
    refine (T1.out v7 B_v7.out).mono ?_
    rintro e v8 ⟨bv8, rfl, hbv8, hov8, hqv8⟩
    have NE_Z_Q : Hid (∀ g, (Value.slice Av3 m cv3).ownBlock = some g → g ≠ bv8) := fun g e => by have h1 := (own_heap Z_v7.out e).2.2; have h2 := hbv8.out; omega
    have NE_X_Q : Hid (∀ g, (Value.slice (some ⟨bv4, 0, none⟩) n n).ownBlock = some g → g ≠ bv8) := fun g e => by have h1 := (own_heap X_v7.out e).2.2; have h2 := hbv8.out; omega
    have NE_O_Q : Hid (∀ g, (Value.slice Av6 m cv6).ownBlock = some g → g ≠ bv8) := fun g e => by have h1 := (own_heap O_v7.out e).2.2; have h2 := hbv8.out; omega
    have GB_Q : Hid (wb.heap.size ≤ bv8) := by have h1 := hbv8.out; have h2 := (B_v7.out).size; show wb.heap.size ≤ bv8; omega
    have NE_Q_X : Hid (∀ g, (Value.slice (some ⟨bv8, 0, none⟩) n n).ownBlock = some g → g ≠ bv4) := fun g e => by have h1 := (own_heap hov8.out e).2.1; have h2 := (own_heap X_v7.out (g := bv4) rfl).2.2; omega
    have B_v8 := Lib.hid (B_v7.out.trans (hqv8.out.mono B_v7.out.size))
    have Z_v8 := Lib.hid (ownN_below Z_v7.out hqv8.out)
    have X_v8 := Lib.hid (ownN_below X_v7.out hqv8.out)
    have O_v8 := Lib.hid (ownN_below O_v7.out hqv8.out)
    clear B_v7 Z_v7 X_v7 O_v7 hqv8
    clear hbv8
    go_wp2_with fail
    refine (calls_drawn (eqInt_same _ _ _ _ _ _ zs v8 _ _ (own_rd X_v8.out Hn.out) Hn.out (own_rd hov8.out Hn.out) Hn.out (by omega))).mono ?_
    rintro e v9 ⟨rfl, hqv90⟩
    have hqv9 := Lib.hid hqv90
    clear hqv90
    have B_v9 := Lib.hid (B_v8.out.trans (hqv9.out.mono B_v8.out.size))
    have Z_v9 := Lib.hid (ownN_below Z_v8.out hqv9.out)
    have X_v9 := Lib.hid (ownN_below X_v8.out hqv9.out)
    have O_v9 := Lib.hid (ownN_below O_v8.out hqv9.out)
    have Q_v9 := Lib.hid (ownN_below hov8.out hqv9.out)
    clear B_v8 Z_v8 X_v8 O_v8 hov8 hqv9
    clear Q_v9
    go_wp2_with fail
    refine (markI_any v9 _ bv4 n n 1 zs X_v9.out Hn.out (by omega) (by omega) (by omega)).mono ?_
    rintro e v10 ⟨rfl, -, hgv10⟩
    have B_v10 := Lib.hid (B_v9.out.grown hgv10 B_v9.out.size (fun k e => by injection e with e; rw [← e]; exact GB_X.out))
    have Z_v10 := Lib.hid (World.ownsRow.kept Z_v9.out hgv10 (.inr (fun e => NE_Z_X.out _ e rfl)))
    have O_v10 := Lib.hid (World.ownsRow.kept O_v9.out hgv10 (.inr (fun e => NE_O_X.out _ e rfl)))
    clear B_v9 Z_v9 O_v9 X_v9 hgv10
    have hpos1 : ¬ (1 + (n : Int)) < 0 := by omega
    go_wp2_with fail
    refine (calls_drawn (eqInt_same _ _ _ _ _ _ xs v10 _ _ (own_rd O_v10.out Hm.out) Hm.out (own_rd Z_v10.out Hm.out) Hm.out (by omega))).mono ?_
    rintro e v11 ⟨rfl, hqv110⟩
    have hqv11 := Lib.hid hqv110
    clear hqv110
    have B_v11 := Lib.hid (B_v10.out.trans (hqv11.out.mono B_v10.out.size))
    have Z_v11 := Lib.hid (ownN_below Z_v10.out hqv11.out)
    have O_v11 := Lib.hid (ownN_below O_v10.out hqv11.out)
    clear B_v10 Z_v10 O_v10 hqv11
    have hpos2 : ¬ (1 + ((m : Nat) : Int)) < 0 := by omega
    have hbn : ∀ x : Int, (x != x) = false := fun x => by simp
    go_wp2_with fail
    refine (markRowG_any v11 _ m _ _ xs O_v11.out Hm.out (by omega)).mono ?_
    rintro e v12 ⟨rfl, hov12, hgv12⟩
    have B_v12 := Lib.hid (B_v11.out.grown hgv12.out B_v11.out.size (fun k e => GB_O.out k e))
    have Z_v12 := Lib.hid (World.ownsRow.kept Z_v11.out hgv12.out K_Z_O.out)
    clear B_v11 Z_v11 O_v11 hgv12
    go_wp2_with fail
    refine (heldI_any v12 _ m _ 1 _ (own_rd hov12.out (mk_len 1 m)) (by omega) (by omega) (by omega)).mono ?_
    rintro e w' ⟨rfl, rfl⟩
    have HKv12 := Lib.hid (K.out v12 B_v12.out)
    obtain ⟨k0, k1⟩ := HKv12.out
    have HBrv12 := Lib.hid (B_v12.out)
    go_wp2
    go_region_held3 (fun W' => W'.cell? ⟨pb, 0, none⟩ = some (.int .i64 u) ∧ W'.cell? ⟨pb, 1, none⟩ = some (.int .i64 d))
      (first
        | go_keep
        | exact HKv12.out
        | exact K.out _ (HBrv12.out.trans (hxv13.mono HBrv12.out.size))
        | exact K.out _ (HBrv12.out.trans (hxv14.mono HBrv12.out.size))
        | exact K.out _ (HBrv12.out.trans (hxv15.mono HBrv12.out.size))
      )
      (first
        | (go_at_call 28
           refine (T1.out _ (HBrv12.out.drew)).mono ?_
           rintro e v13 ⟨bv13, rfl, hbv13, hov13, hqv13⟩
           have hxv13 : Below v12.heap.size v12 v13 := belowd hqv13.out)
        | (go_at_call 32
           refine (toFracQ_any u d _).mono ?_
           rintro e v14 ⟨rfl, hqv14⟩
           have hxv14 : Below v12.heap.size v12 v14 := hxv13.trans (hqv14.mono hxv13.size)
           have hrv14 := ownN_below hov13.out hqv14)
        | (go_at_call 24
           refine (HI2.out _ _ _ _ (own_pin hrv14 Hn.out (by omega))).mono ?_
           rintro e v15 ⟨Av15, cv15, rfl, hov15, hqv15⟩
           have hxv15 : Below v12.heap.size v12 v15 := hxv14.trans (hqv15.out.mono hxv14.size)))
    have hyv15 := Lib.hid hxv15
    clear hxv13 hxv14 hxv15 hrv14 hov13 hqv13 hqv14 hqv15 hbv13 HKv12 HBrv12 k0 k1
    have B_v15 := Lib.hid (B_v12.out.trans (hyv15.out.mono B_v12.out.size))
    have Z_v15 := Lib.hid (ownN_below Z_v12.out hyv15.out)
    have O_v15 := Lib.hid (ownN_below hov12.out hyv15.out)
    clear B_v12 Z_v12 hov12 hyv15
    go_wp2_with fail
    refine (calls_drawn (eqInt_same _ _ _ _ _ _ xs v15 _ _ (own_rd hov15.out Hm.out) Hm.out (own_rd Z_v15.out Hm.out) Hm.out (by omega))).mono ?_
    rintro e v16 ⟨rfl, hqv160⟩
    have hqv16 := Lib.hid hqv160
    clear hqv160
    have B_v16 := Lib.hid (B_v15.out.trans (hqv16.out.mono B_v15.out.size))
    have Z_v16 := Lib.hid (ownN_below Z_v15.out hqv16.out)
    have O_v16 := Lib.hid (ownN_below O_v15.out hqv16.out)
    have O2_v16 := Lib.hid (ownN_below hov15.out hqv16.out)
    clear B_v15 Z_v15 O_v15 hov15 hqv16
    go_wp2_with fail
    refine (heldI_any v16 _ m _ 1 _ (own_rd O_v16.out (mk_len 1 m)) (by omega) (by omega) (by omega)).mono ?_
    rintro e w' ⟨rfl, rfl⟩
    go_wp2
    go_ret
    exact ⟨rfl, HBb.out.trans (B_v16.out.mono HBb.out.size)⟩
end Go.Proofs.Ythphboeboiallab
