/-
  ValidCalls, WayAhead and WorkOf of the program, walked.
  Conditions: fewer than 2^20 calls.
-/
import Derived.Test.YthgllpiclaihjaaJE
namespace Go.Proofs.Ythgllpiclaihjaa
open Go.ChangeShapes Go.WideShapes Go.ChangeAt Go.RowKit
set_option linter.unusedVariables false
set_option maxRecDepth 4000

/-- A search in a row of ints, by a function that leaves the world as it is. -/
def IntIdxJ (P : Int → Bool) (zs : List Int) (w : World) (e : Ending) (w' : World) : Prop := ∃ r : Int, e = .returned (.int .i64 r) ∧ (zs.any P = false → r = -1) ∧ (zs.any P = true → 0 ≤ r) ∧ w = w'
theorem any_noJ {P : Int → Bool} {zs : List Int} {k : Nat} (h : ∀ i, i < k → P (zs.getD i 0) = false) (hk : zs.length ≤ k) : zs.any P = false := by
  rw [List.any_eq_false]
  intro x hx
  obtain ⟨i, hi, rfl⟩ := List.getElem_of_mem hx
  have := h i (by omega)
  simp only [List.getD, List.getElem?_eq_getElem hi, Option.getD_some] at this
  simp [this]
theorem any_yesJ {P : Int → Bool} {zs : List Int} {k : Nat} {x : Int} (hk : k < zs.length) (hx : zs.getD k 0 = x) (h : P x = true) : zs.any P = true := by
  rw [List.any_eq_true]
  refine ⟨x, ?_, h⟩
  rw [← hx]
  simp [List.getD, List.getElem?_eq_getElem hk]
set_option maxHeartbeats 800000 in
theorem indexCall_any (P : Int → Bool) (HF : ∀ (x : Int) (w : World), Calls Try.prog 44 #[.int .i64 x] w fun e w' => e = .returned (.bool (P x)) ∧ w = w') (A : Option Addr) (c n : Nat) (zs : List Int) (w : World) (B : Nat) (hr : RdI w B A zs) (hn : zs.length = n) (hb : n ≤ 1152921504606846976) :
    Calls Try.prog 60 #[.slice A n c, .func (.func 44) #[] #[]] w (IntIdxJ P zs w) := by
  have Hn := Lib.hid hn
  have HF' : Hid (∀ (x : Int) (w : World) (b : Bool), P x = b → Calls Try.prog 44 #[.int .i64 x] w fun e w' => e = .returned (.bool b) ∧ w = w') := fun x w b h => h ▸ HF x w
  clear hn HF
  go_enter Try.func60, Try.ntmps60
  go_wp2
  go_loop [8] (fun i => ∃ k : Nat, k ≤ n ∧ i = .int .i64 k ∧ Hid (∀ i, i < k → P (zs.getD i 0) = false)) (fun i => n - (intOf i).toNat)
  case atStart => exact ⟨0, by omega, rfl, fun i hi => by omega⟩
  case round =>
    obtain ⟨k, hk, rfl, Ho⟩ := hrel
    by_cases hlt : k < n
    · obtain ⟨b, off, x, rfl, -, Hx, hcx⟩ := hr.x (k := k) (by rw [Hn.out]; omega)
      by_cases h1 : P x = true
      · have Hs := Lib.hid (any_yesJ (by rw [Hn.out]; exact hlt) Hx.out h1)
        have Hf := Lib.hid (HF'.out x w true h1)
        clear h1
        go_wp2_with fail
        refine Hf.out.mono ?_
        rintro e w' ⟨rfl, rfl⟩
        go_wp2
        go_ret
        exact ⟨_, rfl, fun h => absurd (Hs.out.symm.trans h) (by decide), fun _ => by omega, rfl⟩
      · have h2 : P x = false := by simpa using h1
        have Hs : Hid (∀ i, i < k + 1 → P (zs.getD i 0) = false) := fun i hi => by
          by_cases e : i = k
          · subst e; rw [Hx.out]; exact h2
          · exact Ho.out i (by omega)
        have Hf := Lib.hid (HF'.out x w false h2)
        clear h1 h2
        go_wp2_with fail
        refine Hf.out.mono ?_
        rintro e w' ⟨rfl, rfl⟩
        go_wp2
        go_round
        case rel => exact ⟨k + 1, by omega, by go_num, Hs⟩
        case measure => simp [intOf]; omega
    · have Hs := Lib.hid (any_noJ Ho.out (by rw [Hn.out]; omega))
      go_wp2
      go_ret
      exact ⟨_, rfl, fun _ => rfl, fun h => absurd (Hs.out.symm.trans h) (by decide), rfl⟩
theorem containsCall_any (P : Int → Bool) (HF : ∀ (x : Int) (w : World), Calls Try.prog 44 #[.int .i64 x] w fun e w' => e = .returned (.bool (P x)) ∧ w = w') (A : Option Addr) (c n : Nat) (zs : List Int) (w : World) (B : Nat) (hr : RdI w B A zs) (hn : zs.length = n) (hb : n ≤ 1152921504606846976) :
    Calls Try.prog 43 #[.slice A n c, .func (.func 44) #[] #[]] w fun e w' => e = .returned (.bool (zs.any P)) ∧ w = w' := by
  have H := Lib.hid (indexCall_any P HF A c n zs w B hr hn hb)
  clear hn hr HF
  go_enter Try.func43, Try.ntmps43
  go_wp2_with fail
  refine H.out.mono ?_
  rintro e w' ⟨r, rfl, h1, h2, rfl⟩
  by_cases hf : zs.any P = true
  · have hr0 := h2 hf
    have Hf := Lib.hid hf
    clear h1 h2 hf
    go_wp2
    go_ret
    exact ⟨ret_bool (by rw [Hf.out]), rfl⟩
  · have hf' : zs.any P = false := by simpa using hf
    have := h1 hf'
    subst this
    have Hf := Lib.hid hf'
    clear h1 h2 hf hf'
    go_wp2
    go_ret
    exact ⟨ret_bool (by rw [Hf.out]), rfl⟩

def offL (x : Int) : Bool := decide (x < 0) || decide (50 < x)
theorem offL_any (x : Int) (w : World) : Calls Try.prog 44 #[.int .i64 x] w fun e w' => e = .returned (.bool (offL x)) ∧ w = w' := by
  by_cases h1 : x < 0 <;> by_cases h2 : 50 < x
  all_goals
    go_enter Try.func44, Try.ntmps44
    go_wp2
    go_ret
    exact ⟨ret_bool (by simp [offL, h1, h2]), rfl⟩

/-- Both stand in order, and the calls are on the line. -/
def vst (a b : Int) : Bool := decide (0 ≤ a) && (decide (a ≤ b) && decide (b ≤ 50))
def vcl (a b : Int) (zs : List Int) : Bool := vst a b && (decide (zs.length ≤ 8) && !(zs.any offL))
theorem vst_iff {a b : Int} : vst a b = true ↔ 0 ≤ a ∧ a ≤ b ∧ b ≤ 50 := by unfold vst; simp
theorem offL_iff {zs : List Int} : zs.any offL = false ↔ On50 zs := by
  rw [List.any_eq_false]
  constructor
  · intro h x hx
    have := h x hx
    unfold offL at this
    rw [Bool.or_eq_true, decide_eq_true_eq, decide_eq_true_eq] at this
    omega
  · intro h x hx
    have := h x hx
    simp [offL]
    omega
theorem vcl_iff {a b : Int} {zs : List Int} : vcl a b zs = true ↔ (0 ≤ a ∧ a ≤ b ∧ b ≤ 50) ∧ zs.length ≤ 8 ∧ On50 zs := by
  unfold vcl
  rw [Bool.and_eq_true, Bool.and_eq_true, vst_iff, decide_eq_true_eq, Bool.not_eq_true', offL_iff]
/-- Calls as a function is given them. -/
structure CallsIn (w : World) (A : Option Addr) (c n : Nat) (zs : List Int) : Prop where
  rd : RdI w w.heap.size A zs
  len : zs.length = n
  cap : n ≤ c ∧ c ≤ 9223372036854775807
  most : n ≤ 1048576
theorem CallsIn.later {w w' : World} {A : Option Addr} {c n : Nat} {zs : List Int} (h : CallsIn w A c n zs) (hb : Below w.heap.size w w') : CallsIn w' A c n zs :=
  ⟨(h.rd.below hb).more hb.size, h.len, h.cap, h.most⟩
def JBool (F : Nat) : Prop := ∀ (a b : Int) (A : Option Addr) (c n : Nat) (zs : List Int) (w : World), CallsIn w A c n zs →
  Calls Try.prog F #[.int .i64 a, .int .i64 b, .slice A n c] w fun e w' => e = .returned (.bool (vcl a b zs)) ∧ Below w.heap.size w w'
def JNum (F : Nat) (ans : Int → Int → List Int → Int) : Prop := ∀ (a b : Int) (A : Option Addr) (c n : Nat) (zs : List Int) (w : World), CallsIn w A c n zs →
  Calls Try.prog F #[.int .i64 a, .int .i64 b, .slice A n c] w fun e w' => e = .returned (.int .i64 (ans a b zs)) ∧ Below w.heap.size w w'
def JNum2 (F : Nat) (ans : Int → Int → List Int → Int → Int → Int) : Prop := ∀ (a b x y : Int) (A : Option Addr) (c n : Nat) (zs : List Int) (w : World), CallsIn w A c n zs →
  Calls Try.prog F #[.int .i64 a, .int .i64 b, .slice A n c, .int .i64 x, .int .i64 y] w fun e w' => e = .returned (.int .i64 (ans a b zs x y)) ∧ Below w.heap.size w w'
/-- The answers. -/
def wav (a b : Int) (zs : List Int) : Int := if vcl a b zs = true then lwF zr2 a b zs else -1
def toB (x y a b : Int) : Int := min (gapI a x + gapI b y) (gapI a y + gapI b x)
def wkv (a b : Int) (zs : List Int) (x y : Int) : Int := if vcl a b zs = true ∧ vst x y = true then lwF (toB x y) a b zs else -1

set_option maxHeartbeats 800000 in
theorem iValidCalls_ok : JBool 18 := by
  intro a b A c n zs w h
  have H1 := Lib.hid (fun W => validStand_any a b W)
  have hv : (decide (0 ≤ a) && (decide (a ≤ b) && decide (b ≤ 50))) = vst a b := rfl
  rw [hv] at H1
  clear hv
  have hn := h.most
  have H2 := Lib.hid (fun W hW => containsCall_any offL offL_any A c n zs W w.heap.size (h.rd.below hW) h.len (by omega))
  by_cases hs : vst a b = true
  · rw [hs] at H1
    by_cases h8 : 8 < n
    · have Hs : Hid (vcl a b zs = false) := by show _ = _; unfold vcl; rw [h.len]; simp; omega
      clear h
      go_enter Try.func18, Try.ntmps18
      go_wp2_with fail
      refine (H1.out _).mono ?_
      rintro e w' ⟨rfl, rfl⟩
      go_wp2
      go_ret
      exact ⟨ret_bool Hs.out.symm, Below.refl _ _⟩
    · have Hs : Hid (vcl a b zs = !(zs.any offL)) := by show _ = _; unfold vcl; rw [hs, h.len, decide_eq_true (by omega : n ≤ 8), Bool.true_and, Bool.true_and]
      obtain ⟨t, Ht⟩ : ∃ t, Hid (zs.any offL = t) := ⟨_, rfl⟩
      rw [Ht.out] at H2 Hs
      clear h
      go_enter Try.func18, Try.ntmps18
      go_wp2_with fail
      refine (H1.out _).mono ?_
      rintro e w' ⟨rfl, rfl⟩
      go_wp2_with fail
      refine (H2.out w (Below.refl _ _)).mono ?_
      rintro e w' ⟨rfl, rfl⟩
      go_wp2
      go_ret
      exact ⟨ret_bool Hs.out.symm, Below.refl _ _⟩
  · have hs' : vst a b = false := by simpa using hs
    rw [hs'] at H1
    have Hs : Hid (vcl a b zs = false) := by show _ = _; unfold vcl; rw [hs']; rfl
    clear h hs hs'
    go_enter Try.func18, Try.ntmps18
    go_wp2_with fail
    refine (H1.out _).mono ?_
    rintro e w' ⟨rfl, rfl⟩
    go_wp2
    go_ret
    exact ⟨ret_bool Hs.out.symm, Below.refl _ _⟩

theorem zr2_bd : ∀ a b, 0 ≤ a → a ≤ 50 → 0 ≤ b → b ≤ 50 → 0 ≤ zr2 a b ∧ zr2 a b ≤ 100 := fun a b _ _ _ _ => by unfold zr2; omega
theorem toXY_bd {x y : Int} (hx : P50 x) (hy : P50 y) : ∀ a b, 0 ≤ a → a ≤ 50 → 0 ≤ b → b ≤ 50 → 0 ≤ toXY x y a b ∧ toXY x y a b ≤ 100 := fun a b h1 h2 h3 h4 => by
  have g1 := gapI_in50 h1 h2 hx.1 hx.2
  have g2 := gapI_in50 h3 h4 hy.1 hy.2
  have g3 := gapI_nonneg a x
  have g4 := gapI_nonneg b y
  unfold toXY
  omega
theorem toB_sym (x y : Int) : Sym2 (toB x y) := fun a b => by unfold toB; omega
theorem toXY_toB {x y : Int} (h : x ≤ y) : ∀ a b, a ≤ b → toXY x y a b = toB x y a b := fun a b hab => by
  unfold toXY toB gapI
  split <;> split <;> split <;> split <;> omega

set_option maxHeartbeats 800000 in
theorem iWayAhead_ok : JNum 21 wav := by
  intro a b A c n zs w h
  have H1 := Lib.hid (iValidCalls_ok a b A c n zs w h)
  by_cases hv : vcl a b zs = true
  · rw [hv] at H1
    obtain ⟨⟨ha, hab, hb⟩, h8, h50⟩ := vcl_iff.1 hv
    have Hs : Hid (dwF zr2 a b zs = wav a b zs) := by show _ = _; unfold wav; rw [if_pos hv, dw_lw zr2_sym (fun _ _ _ => rfl) zs a b hab]
    have H2 := Lib.hid (fun W (hW : Below w.heap.size w W) => leastWay_all 47 #[] zr2 w (leastWay_zero0 w) zr2_bd zs h50 h8 a b A n c W ⟨ha, by omega⟩ ⟨by omega, hb⟩ h.len ((h.rd.below hW).more hW.size) h.cap.1 h.cap.2 hW)
    rw [Hs.out] at H2
    clear h hv
    go_enter Try.func21, Try.ntmps21
    go_wp2_with fail
    refine H1.out.mono ?_
    rintro e w1 ⟨rfl, hq⟩
    have HQ := Lib.hid hq
    clear hq
    go_wp2_with fail
    refine (H2.out w1 HQ.out).mono ?_
    rintro e w2 ⟨rfl, hq2⟩
    go_wp2
    go_ret
    exact ⟨rfl, HQ.out.trans (hq2.mono HQ.out.size)⟩
  · have hv' : vcl a b zs = false := by simpa using hv
    rw [hv'] at H1
    have Hs : Hid (wav a b zs = -1) := by show _ = _; unfold wav; rw [if_neg hv]
    clear h hv hv'
    go_enter Try.func21, Try.ntmps21
    go_wp2_with fail
    refine H1.out.mono ?_
    rintro e w1 ⟨rfl, hq⟩
    go_wp2
    go_ret
    exact ⟨ret_int Hs.out.symm, hq⟩

set_option maxHeartbeats 1600000 in
theorem iWorkOf_ok : JNum2 34 wkv := by
  intro a b x y A c n zs w h
  obtain ⟨W, HW⟩ : ∃ W, Hid ((w.alloc (.cells #[.int .i64 x] 3)).alloc (.cells #[.int .i64 y] 3) = W) := ⟨_, rfl⟩
  have hB : Below w.heap.size w W := by
    rw [← HW.out]
    exact ((Below.refl _ w).alloc (Nat.le_refl _) _).alloc (by rw [sz1J]; omega) _
  have hs0 : W.heap[w.heap.size]? = some (.cells #[.int .i64 x] 3) := by
    rw [← HW.out]; exact heap_past _ _ _ _ (heap_alloc_new w _)
  have hs1 : W.heap[w.heap.size + 1]? = some (.cells #[.int .i64 y] 3) := by
    rw [← HW.out]; exact heap_newJ _ _ _ (sz1J _ _)
  have cx : W.cell? ⟨w.heap.size, 0, none⟩ = some (.int .i64 x) := by rw [cell_of_row _ _ _ _ _ _ hs0]; rfl
  have cy : W.cell? ⟨w.heap.size + 1, 0, none⟩ = some (.int .i64 y) := by rw [cell_of_row _ _ _ _ _ _ hs1]; rfl
  have lx := World.block_lt_of_cell? W _ cx
  have ly := World.block_lt_of_cell? W _ cy
  have hW := h.later hB
  have H1 := Lib.hid (iValidCalls_ok a b A c n zs W hW)
  have H3 := Lib.hid (fun W => validStand_any x y W)
  have hv3 : (decide (0 ≤ x) && (decide (x ≤ y) && decide (y ≤ 50))) = vst x y := rfl
  rw [hv3] at H3
  clear hv3
  have HB := Lib.hid hB
  by_cases hv : vcl a b zs = true
  · rw [hv] at H1
    by_cases hs : vst x y = true
    · rw [hs] at H3
      obtain ⟨⟨ha, hab, hb⟩, h8, h50⟩ := vcl_iff.1 hv
      obtain ⟨hx, hxy, hy⟩ := vst_iff.1 hs
      have px : P50 x := ⟨hx, by omega⟩
      have py : P50 y := ⟨by omega, hy⟩
      have Hs : Hid (dwF (toXY x y) a b zs = wkv a b zs x y) := by show _ = _; unfold wkv; rw [if_pos ⟨hv, hs⟩, dw_lw (toB_sym x y) (toXY_toB hxy) zs a b hab]
      have H2 := Lib.hid (fun W' (hW' : Below W.heap.size W W') => leastWay_all 56 #[.pointer (some ⟨w.heap.size, 0, none⟩), .pointer (some ⟨w.heap.size + 1, 0, none⟩)] (toXY x y) W (leastWay_zeroXY W x y _ _ px py cx cy) (toXY_bd px py) zs h50 h8 a b A n c W' ⟨ha, by omega⟩ ⟨by omega, hb⟩ h.len ((hW.rd.below hW').more hW'.size) h.cap.1 h.cap.2 hW')
      rw [Hs.out] at H2
      have hmf : ∀ (fn : Fn) (first cap : Array Value) (w : World), (Instr.makeFunc fn first cap).run Try.prog w = .ok (.func fn first cap) w := fun _ _ _ _ => rfl
      clear h hv hs hB hW hs0 hs1 hx hxy hy px py
      go_enter Try.func34, Try.ntmps34
      go_wp2_with fail
      rw [HW.out]
      refine H1.out.mono ?_
      rintro e w1 ⟨rfl, hq⟩
      have cx1 := (hq.cell (p := ⟨w.heap.size, 0, none⟩) lx).trans cx
      have cy1 := (hq.cell (p := ⟨w.heap.size + 1, 0, none⟩) ly).trans cy
      have HQ := Lib.hid hq
      clear hq cx cy
      go_wp2_with fail
      refine (H3.out w1).mono ?_
      rintro e w' ⟨rfl, rfl⟩
      go_wp2_with fail
      refine (H2.out w1 HQ.out).mono ?_
      rintro e w2 ⟨rfl, hq2⟩
      go_wp2
      go_ret
      exact ⟨rfl, HB.out.trans ((HQ.out.trans (hq2.mono HQ.out.size)).mono HB.out.size)⟩
    · have hs' : vst x y = false := by simpa using hs
      rw [hs'] at H3
      have Hs : Hid (wkv a b zs x y = -1) := by show _ = _; unfold wkv; rw [if_neg fun h' => hs h'.2]
      clear h hv hs hs' hB hW hs0 hs1
      go_enter Try.func34, Try.ntmps34
      go_wp2_with fail
      rw [HW.out]
      refine H1.out.mono ?_
      rintro e w1 ⟨rfl, hq⟩
      have cx1 := (hq.cell (p := ⟨w.heap.size, 0, none⟩) lx).trans cx
      have cy1 := (hq.cell (p := ⟨w.heap.size + 1, 0, none⟩) ly).trans cy
      have HQ := Lib.hid hq
      clear hq cx cy
      go_wp2_with fail
      refine (H3.out w1).mono ?_
      rintro e w' ⟨rfl, rfl⟩
      go_wp2
      go_ret
      exact ⟨ret_int Hs.out.symm, HB.out.trans (HQ.out.mono HB.out.size)⟩
  · have hv' : vcl a b zs = false := by simpa using hv
    rw [hv'] at H1
    have Hs : Hid (wkv a b zs x y = -1) := by show _ = _; unfold wkv; rw [if_neg fun h' => hv h'.1]
    clear h hv hv' hB hW hs0 hs1 cx cy
    go_enter Try.func34, Try.ntmps34
    go_wp2_with fail
    rw [HW.out]
    refine H1.out.mono ?_
    rintro e w1 ⟨rfl, hq⟩
    go_wp2
    go_ret
    exact ⟨ret_int Hs.out.symm, HB.out.trans (hq.mono HB.out.size)⟩
end Go.Proofs.Ythgllpiclaihjaa
