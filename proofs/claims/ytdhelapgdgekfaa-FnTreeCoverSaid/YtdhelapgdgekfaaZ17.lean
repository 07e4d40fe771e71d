/-
  OnesCount of a set of at most seven homes.
  Conditions: the set is below 128.
  hasAllNear of the program, walked: whether each node's near ones meet a set.
  Conditions: at most seven nodes, sets below 128.
  The model's cover of a tree: the farthest node that has none near, climbed from as far as may be, till all have one.
  Conditions: none beyond what each theorem states.
  Trees: the cover from the greatest depth up has as few nodes as a cover can have, and as many as can be apart.
  Conditions: each node's road goes to a node ahead of it; at most seven nodes.
  What the laws on trees as nets ask: covers and those apart are as many in the tree as in the net of its roads.
  Conditions: none beyond what each theorem states.
-/
import Derived.Test.YtdhelapgdgekfaaZ2
import Derived.Test.YtdhelapgdgekfaaZ16
import Derived.Test.YtdhelapgdgekfaaZ0
import Derived.Test.YtdhelapgdgekfaaZ13
import Derived.Test.YtdhelapgdgekfaaZ1
import Derived.Test.YtdhelapgdgekfaaZ6
import Derived.Test.YtdhelapgdgekfaaZ19
namespace Go.Proofs.Ytdhelapgdgekfaa
open Go.ChangeShapes Go.WideShapes Go.ChangeAt Go.RowKit
set_option linter.unusedVariables false

def oc1 (x : Int) : Int := IntKind.u64.wrap (bits BinOp.and IntKind.u64 (x / 2) 6148914691236517205 + bits BinOp.and IntKind.u64 x 6148914691236517205)
def oc2 (x : Int) : Int := IntKind.u64.wrap (bits BinOp.and IntKind.u64 (x / 4) 3689348814741910323 + bits BinOp.and IntKind.u64 x 3689348814741910323)
def oc3 (x : Int) : Int := bits BinOp.and IntKind.u64 (IntKind.u64.wrap (x / 16 + x)) 1085102592571150095
def oc4 (x : Int) : Int := IntKind.u64.wrap (x + x / 256)
def oc5 (x : Int) : Int := IntKind.u64.wrap (x + x / 65536)
def oc6 (x : Int) : Int := IntKind.u64.wrap (x + x / 4294967296)
def oc (x : Int) : Int := bits BinOp.and IntKind.i64 (wrap64 (oc6 (oc5 (oc4 (oc3 (oc2 (oc1 x))))))) 127
/-- The homes of a set, in order. -/
def bitsOf (s : Nat) : List Nat := (List.range 7).filter (fun i => s.testBit i)
theorem oc_all : ∀ s : Fin 128, oc (s.val : Int) = ((bitsOf s.val).length : Int) := by decide +kernel
theorem oc_small {s : Nat} (h : s < 128) : oc (s : Int) = ((bitsOf s).length : Int) := oc_all ⟨s, h⟩

set_option maxHeartbeats 1000000 in
theorem ones64_small (s : Nat) (hs : s < 128) (w : World) :
    Calls Try.prog 110 #[.int .u64 s] w fun e w' => e = .returned (.int .i64 ((bitsOf s).length : Int)) ∧ w = w' := by
  have H := Lib.hid (oc_small hs)
  go_enter Try.func110, Try.ntmps110
  go_wp2
  go_ret
  refine ⟨?_, rfl⟩
  rw [← H.out]
  rfl
theorem ones_small (s : Nat) (hs : s < 128) (w : World) :
    Calls Try.prog 72 #[.int .u64 s] w fun e w' => e = .returned (.int .i64 ((bitsOf s).length : Int)) ∧ w = w' := by
  have H := Lib.hid (ones64_small s hs w)
  go_enter Try.func72, Try.ntmps72
  go_wp2_with fail
  refine H.out.mono ?_
  rintro e w' ⟨rfl, rfl⟩
  go_wp2
  go_ret
  exact ⟨rfl, rfl⟩
end Go.Proofs.Ytdhelapgdgekfaa
namespace Go.Proofs.Ytdhelapgdgekfaa
open Go.ChangeShapes Go.WideShapes Go.ChangeAt Go.RowKit
set_option linter.unusedVariables false
set_option maxRecDepth 4000

theorem ones_bc : ∀ s : Fin 128, (bitsOf s.val).length = bc 7 s.val := by decide +kernel
/-- Each of the first n sets meets S. -/
def hits (N : Nat → Nat) (S n : Nat) : Bool := (List.range n).all fun i => !decide (N i &&& S = 0)
theorem hits_iff {N : Nat → Nat} {S n : Nat} : hits N S n = true ↔ ∀ v, v < n → ¬ N v &&& S = 0 := by
  unfold hits
  rw [List.all_eq_true]
  simp only [List.mem_range, Bool.not_eq_true', decide_eq_false_iff_not]
theorem hits_no {N : Nat → Nat} {S n v : Nat} (hv : v < n) (h : N v &&& S = 0) : hits N S n = false := by
  rw [Bool.eq_false_iff]
  intro h2
  exact hits_iff.1 h2 v hv h
theorem nmk_iff {d : Nat → Nat → Int} {far : Int} {n : Nat} (hb : ∀ a b, a < n → b < n → -1 ≤ d a b) {i : Nat} (hi : i < n) (v : Nat) : (nmk d far i n).testBit v = true ↔ v < n ∧ 0 ≤ d i v ∧ d i v ≤ far := by
  rw [nmk_bit]
  constructor
  · rintro ⟨h1, h2, h3⟩
    have := hb i v hi h1
    exact ⟨h1, by omega, h3⟩
  · rintro ⟨h1, h2, h3⟩
    exact ⟨h1, by omega, h3⟩
/-- A cover is a set that each node's near ones meet. -/
theorem cover_hits {d : Nat → Nat → Int} {far : Int} {n S : Nat} (hb : ∀ a b, a < n → b < n → -1 ≤ d a b) : cvF d far S n n = hits (fun i => nmk d far i n) S n := by
  rw [Bool.eq_iff_iff, hits_iff, cover_iff (N := fun i => nmk d far i n) (fun i hi v => nmk_iff hb hi v)]

theorem miss_is (x S pb : Nat) (w : World) (hx : x < 128) (hS : S < 128) (hc : w.cell? ⟨pb, 0, none⟩ = some (.int .u64 S)) {b : Bool} (h : decide (x &&& S = 0) = b) :
    Calls Try.prog 108 #[.int .u64 x, .pointer (some ⟨pb, 0, none⟩)] w fun e w' => e = .returned (.bool b) ∧ ∃ q, w' = w.drewN q := by
  have ha := and2_u64 ⟨x, hx⟩ ⟨S, hS⟩
  simp only at ha
  obtain ⟨y, Hy⟩ : ∃ y, Hid (x &&& S = y) := ⟨_, rfl⟩
  rw [Hy.out] at ha h
  have hb : (((y : Nat) : Int) == 0) = b := by
    rw [← h]
    by_cases e : y = 0
    · subst e; rfl
    · rw [decide_eq_false e, beq_eq_false_iff_ne]; omega
  clear h
  go_enter Try.func108, Try.ntmps108
  go_wp2
  go_ret
  exact ⟨rfl, 0, rfl⟩
def HitIdx (N : Nat → Nat) (S n : Nat) (w : World) (e : Ending) (w' : World) : Prop := ∃ r : Int, e = .returned (.int .i64 r) ∧ (hits N S n = true → r = -1) ∧ (hits N S n = false → 0 ≤ r) ∧ Below w.heap.size w w'
set_option maxHeartbeats 800000 in
theorem indexHit_any (N : Nat → Nat) (A : Option Addr) (c n S pb : Nat) (w : World) (hN : ∀ i, N i < 128) (hS : S < 128) (h7 : n ≤ 7) (hpb : pb < w.heap.size) (hr : ∀ w', Below w.heap.size w w' → RdU w' A N 0 n) (hc : w.cell? ⟨pb, 0, none⟩ = some (.int .u64 S)) :
    Calls Try.prog 121 #[.slice A n c, .func (.func 108) #[] #[.pointer (some ⟨pb, 0, none⟩)]] w (HitIdx N S n w) := by
  have HR := Lib.hid hr
  clear hr
  go_enter Try.func121, Try.ntmps121
  go_wp2
  go_loopw [8] (fun i wr => ∃ k : Nat, k ≤ n ∧ i = .int .i64 k ∧ Hid (∀ v, v < k → ¬ N v &&& S = 0) ∧ Below w.heap.size w wr) (fun i _ => n - (intOf i).toNat)
  case atStart => exact ⟨0, by omega, rfl, fun v hv => by omega, Below.refl _ _⟩
  case round =>
    obtain ⟨k, hk, rfl, Ho, hnx⟩ := hrel
    have hc2 : wr.cell? ⟨pb, 0, none⟩ = some (.int .u64 S) := (hnx.cell (p := ⟨pb, 0, none⟩) hpb).trans hc
    by_cases hlt : k < n
    · obtain ⟨b, off, rfl, hcell⟩ := HR.out wr hnx (by omega)
      have hx := hcell k hlt
      rw [Nat.zero_add] at hx
      have hN128 := hN k
      by_cases h1 : N k &&& S = 0
      · have Hs := Lib.hid (hits_no hlt h1)
        have Hf := Lib.hid (miss_is (N k) S pb wr hN128 hS hc2 (b := true) (decide_eq_true h1))
        clear h1 hc2 hcell
        go_wp2_with fail
        refine Hf.out.mono ?_
        rintro e w' ⟨rfl, q, rfl⟩
        go_wp2
        go_ret
        exact ⟨_, rfl, fun h => absurd (Hs.out.symm.trans h) (by decide), fun _ => by omega, below_drewN hnx q⟩
      · have Hs : Hid (∀ v, v < k + 1 → ¬ N v &&& S = 0) := fun v hv => by
          by_cases e : v = k
          · subst e; exact h1
          · exact Ho.out v (by omega)
        have Hf := Lib.hid (miss_is (N k) S pb wr hN128 hS hc2 (b := false) (decide_eq_false h1))
        clear h1 hc2 hcell
        go_wp2_with fail
        refine Hf.out.mono ?_
        rintro e w' ⟨rfl, q, rfl⟩
        go_wp2
        go_roundw
        case rel => exact ⟨k + 1, by omega, by go_num, Hs, below_drewN hnx q⟩
        case measure => simp [intOf]; omega
    · obtain rfl : k = n := by omega
      have Hs := Lib.hid (hits_iff.2 Ho.out)
      go_wp2
      go_ret
      exact ⟨_, rfl, fun _ => rfl, fun h => absurd (Hs.out.symm.trans h) (by decide), hnx⟩
theorem containsHit_any (N : Nat → Nat) (A : Option Addr) (c n S pb : Nat) (w : World) (hN : ∀ i, N i < 128) (hS : S < 128) (h7 : n ≤ 7) (hpb : pb < w.heap.size) (hr : ∀ w', Below w.heap.size w w' → RdU w' A N 0 n) (hc : w.cell? ⟨pb, 0, none⟩ = some (.int .u64 S)) :
    Calls Try.prog 107 #[.slice A n c, .func (.func 108) #[] #[.pointer (some ⟨pb, 0, none⟩)]] w fun e w' => e = .returned (.bool (!(hits N S n))) ∧ Below w.heap.size w w' := by
  have H := Lib.hid (indexHit_any N A c n S pb w hN hS h7 hpb hr hc)
  clear hr hc
  go_enter Try.func107, Try.ntmps107
  go_wp2_with fail
  refine H.out.mono ?_
  rintro e w' ⟨r, rfl, h1, h2, hnx⟩
  by_cases hf : hits N S n = true
  · have := h1 hf
    subst this
    have Hf := Lib.hid hf
    clear h1 h2 hf
    go_wp2
    go_ret
    exact ⟨ret_bool (by rw [Hf.out]; rfl), hnx⟩
  · have hf' : hits N S n = false := by simpa using hf
    have hr0 := h2 hf'
    have Hf := Lib.hid hf'
    clear h1 h2 hf hf'
    go_wp2
    go_ret
    exact ⟨ret_bool (by rw [Hf.out]; simp), hnx⟩
theorem hasAll_any (N : Nat → Nat) (A : Option Addr) (c n S : Nat) (w : World) (hN : ∀ i, N i < 128) (hS : S < 128) (h7 : n ≤ 7) (hr : ∀ w', Below w.heap.size w w' → RdU w' A N 0 n) :
    Calls Try.prog 71 #[.slice A n c, .int .u64 S] w fun e w' => e = .returned (.bool (hits N S n)) ∧ Below w.heap.size w w' := by
  have hb0 := (Below.refl w.heap.size w).alloc (Nat.le_refl _) (.cells #[.int .u64 S] 86)
  obtain ⟨W, HW⟩ : ∃ W, Hid (w.alloc (.cells #[.int .u64 S] 86) = W) := ⟨_, rfl⟩
  have hsz : W.heap.size = w.heap.size + 1 := by rw [← HW.out]; exact size_alloc1 _ _
  have hcc : W.cell? ⟨w.heap.size, 0, none⟩ = some (.int .u64 S) := by rw [← HW.out, cell_of_row _ _ _ _ _ _ (heap_alloc_new w _)]; rfl
  rw [HW.out] at hb0
  have Hf := Lib.hid (containsHit_any N A c n S w.heap.size W hN hS h7 (by omega) (fun w' h => hr w' (hb0.trans (h.mono (by omega)))) hcc)
  have HB := Lib.hid hb0
  clear hr hb0 hcc hsz
  go_enter Try.func71, Try.ntmps71
  go_wp2_with fail
  rw [HW.out]
  refine Hf.out.mono ?_
  rintro e w' ⟨rfl, hnx2⟩
  go_wp2
  go_ret
  exact ⟨ret_bool (by simp), HB.out.trans (hnx2.mono HB.out.size)⟩
end Go.Proofs.Ytdhelapgdgekfaa
namespace Go.Proofs.Ytdhelapgdgekfaa
open Go.ChangeShapes Go.WideShapes Go.ChangeAt Go.RowKit
set_option linter.unusedVariables false

/-- The farthest of the nodes below m that has none yet, the first one of them; -1 for none. -/
def fstC (dep : Nat → Int) (has : Nat → Bool) : Nat → Int
  | 0 => -1
  | m + 1 => if has m = false ∧ (fstC dep has m < 0 ∨ dep (fstC dep has m).toNat < dep m) then (m : Int) else fstC dep has m
theorem fstC_bd (dep : Nat → Int) (has : Nat → Bool) : ∀ m, -1 ≤ fstC dep has m ∧ fstC dep has m < m
  | 0 => by simp only [fstC]; omega
  | m + 1 => by have := fstC_bd dep has m; simp only [fstC]; split <;> omega
theorem fstC_none {dep : Nat → Int} {has : Nat → Bool} : ∀ {m}, fstC dep has m < 0 → ∀ i, i < m → has i = true
  | 0, _, i, h => by omega
  | m + 1, h, i, hi => by
    simp only [fstC] at h
    split at h
    · omega
    · rename_i hc
      by_cases e : i = m
      · subst e
        cases hh : has i with
        | true => rfl
        | false => exact absurd ⟨hh, .inl h⟩ hc
      · exact fstC_none h i (by omega)
theorem fstC_some {dep : Nat → Int} {has : Nat → Bool} : ∀ {m a : Nat}, fstC dep has m = a → a < m ∧ has a = false ∧ (∀ i, i < m → has i = false → dep i ≤ dep a) ∧ ∀ i, i < a → has i = false → dep i < dep a
  | 0, a, h => by simp only [fstC] at h; omega
  | m + 1, a, h => by
    simp only [fstC] at h
    split at h
    · rename_i hc
      obtain rfl : m = a := by omega
      have hall : ∀ i, i < m → has i = false → dep i < dep m := fun i hi hf => by
        rcases hc.2 with hn | hd
        · have := fstC_none hn i hi; rw [this] at hf; cases hf
        · have hb := fstC_bd dep has m
          rcases Int.lt_or_le (fstC dep has m) 0 with hn | hn
          · have := fstC_none hn i hi; rw [this] at hf; cases hf
          · obtain ⟨h1, h2, h3, h4⟩ := fstC_some (dep := dep) (has := has) (m := m) (a := (fstC dep has m).toNat) (by omega)
            have := h3 i hi hf
            omega
      refine ⟨by omega, hc.1, fun i hi hf => ?_, hall⟩
      by_cases e : i = m
      · subst e; exact Int.le_refl _
      · have := hall i (by omega) hf; omega
    · rename_i hc
      obtain ⟨h1, h2, h3, h4⟩ := fstC_some h
      refine ⟨by omega, h2, fun i hi hf => ?_, h4⟩
      by_cases e : i = m
      · subst e
        rcases Int.lt_or_le (dep a) (dep i) with hl | hl
        · exact absurd ⟨hf, .inr (by rw [h]; exact hl)⟩ hc
        · exact hl
      · exact h3 i (by omega) hf
theorem fstC_yes {dep : Nat → Int} {has : Nat → Bool} {m : Nat} (h : has m = false ∧ (fstC dep has m < 0 ∨ dep (fstC dep has m).toNat < dep m)) : fstC dep has (m + 1) = m := by simp only [fstC]; rw [if_pos h]
theorem fstC_no {dep : Nat → Int} {has : Nat → Bool} {m : Nat} (h : ¬ (has m = false ∧ (fstC dep has m < 0 ∨ dep (fstC dep has m).toNat < dep m))) : fstC dep has (m + 1) = fstC dep has m := by simp only [fstC]; rw [if_neg h]

/-- From s on towards the node 0, while it is at most far from a. -/
def clmC (t : List (Int × Int)) (d : Nat → Nat → Int) (far : Int) (a : Nat) : Nat → Nat → Nat
  | 0, s => s
  | f + 1, s => if 0 < s ∧ d a (tto t s) ≤ far then clmC t d far a f (tto t s) else s
theorem clmC_is {t : List (Int × Int)} (ht : Ahead t) {d : Nat → Nat → Int} {far : Int} {a : Nat} : ∀ f s, s < t.length → d a s ≤ far → clmC t d far a f s ≤ s ∧ d a (clmC t d far a f s) ≤ far
  | 0, s, _, h => ⟨Nat.le_refl _, h⟩
  | f + 1, s, hl, h => by
    simp only [clmC]
    split
    · rename_i hc
      have hs := (ht s hc.1 hl).1
      have := clmC_is ht f (tto t s) (by omega) hc.2
      omega
    · exact ⟨Nat.le_refl _, h⟩
theorem clmC_up {t : List (Int × Int)} {d : Nat → Nat → Int} {far : Int} {a f s : Nat} (h : 0 < s ∧ d a (tto t s) ≤ far) : clmC t d far a (f + 1) s = clmC t d far a f (tto t s) := by simp only [clmC]; rw [if_pos h]
theorem clmC_stop {t : List (Int × Int)} {d : Nat → Nat → Int} {far : Int} {a s : Nat} (h : ¬ (0 < s ∧ d a (tto t s) ≤ far)) : ∀ f, clmC t d far a f s = s
  | 0 => rfl
  | f + 1 => by simp only [clmC]; rw [if_neg h]

def leftC (has : Nat → Bool) : Nat → Nat
  | 0 => 0
  | m + 1 => leftC has m + (if has m = true then 0 else 1)
theorem leftC_le {has has' : Nat → Bool} (h : ∀ i, has i = true → has' i = true) : ∀ m, leftC has' m ≤ leftC has m
  | 0 => Nat.le_refl _
  | m + 1 => by
    have := leftC_le h m
    simp only [leftC]
    by_cases e : has m = true
    · rw [if_pos e, if_pos (h m e)]; omega
    · rw [if_neg e]; split <;> omega
theorem leftC_lt {has has' : Nat → Bool} (h : ∀ i, has i = true → has' i = true) {a : Nat} (ha : has a = false) (ha' : has' a = true) : ∀ m, a < m → leftC has' m < leftC has m
  | 0, hm => by omega
  | m + 1, hm => by
    simp only [leftC]
    by_cases e : a = m
    · subst e
      have := leftC_le h a
      rw [if_pos ha', if_neg (by rw [ha]; simp)]; omega
    · have := leftC_lt h ha ha' m (by omega)
      by_cases e : has m = true
      · rw [if_pos e, if_pos (h m e)]; omega
      · rw [if_neg e]; split <;> omega
theorem leftC_none : ∀ m, leftC (fun _ => false) m = m
  | 0 => rfl
  | m + 1 => by simp only [leftC]; rw [leftC_none m, if_neg (by simp)]

/-- Who has one near, when one stands there too. -/
def addC (d : Nat → Nat → Int) (far : Int) (has : Nat → Bool) (s : Nat) : Nat → Bool := fun i => has i || decide (d s i ≤ far)
def covC (t : List (Int × Int)) (d : Nat → Nat → Int) (far : Int) (n : Nat) : Nat → (Nat → Bool) → Nat
  | 0, _ => 0
  | f + 1, has => if fstC (d 0) has n < 0 then 0 else covC t d far n f (addC d far has (clmC t d far (fstC (d 0) has n).toNat (fstC (d 0) has n).toNat (fstC (d 0) has n).toNat)) + 1
theorem covC_end {t : List (Int × Int)} {d : Nat → Nat → Int} {far : Int} {n : Nat} {has : Nat → Bool} (h : fstC (d 0) has n < 0) : ∀ f, covC t d far n f has = 0
  | 0 => rfl
  | f + 1 => by simp only [covC]; rw [if_pos h]
theorem covC_next {t : List (Int × Int)} {d : Nat → Nat → Int} {far : Int} {n f a : Nat} {has : Nat → Bool} (h : fstC (d 0) has n = a) : covC t d far n (f + 1) has = covC t d far n f (addC d far has (clmC t d far a a a)) + 1 := by
  simp only [covC]; rw [if_neg (by omega), h]; rfl
/-- One more leaves fewer without. -/
theorem left_next {t : List (Int × Int)} (ht : Ahead t) {far : Int} {n a : Nat} {has : Nat → Bool} (hn : n ≤ t.length) (hf : 0 ≤ far) (h : fstC (dn t n 0) has n = a) : leftC (addC (dn t n) far has (clmC t (dn t n) far a a a)) n < leftC has n := by
  obtain ⟨h1, h2, -, -⟩ := fstC_some h
  refine leftC_lt (fun i hi => by simp [addC, hi]) h2 ?_ n h1
  have := (clmC_is ht (d := dn t n) (far := far) (a := a) a a (by omega) (by rw [dn_diag t n a h1]; exact hf)).2
  rw [dn_symm] at this
  simp [addC, this]
/-- TreeCover's answer. -/
def cvv (t : List (Int × Int)) (far : Int) : Int := if vt t = true ∧ 0 ≤ far ∧ far ≤ 50 then ((covC t (dn t t.length) far t.length t.length (fun _ => false) : Nat) : Int) else -1
theorem cvv_no {t : List (Int × Int)} {far : Int} (h : vt t = false ∨ far < 0 ∨ 50 < far) : cvv t far = -1 := by
  unfold cvv
  rw [if_neg]
  rintro ⟨h1, h2, h3⟩
  rcases h with h | h | h
  · rw [h1] at h; cases h
  · omega
  · omega
theorem cvv_yes {t : List (Int × Int)} {far : Int} (h : vt t = true) (h1 : 0 ≤ far) (h2 : far ≤ 50) : cvv t far = ((covC t (dn t t.length) far t.length t.length (fun _ => false) : Nat) : Int) := by
  unfold cvv; rw [if_pos ⟨h, h1, h2⟩]
/-- The row of who has one near, in memory. -/
def hrow (has : Nat → Bool) (n : Nat) : List Value := (List.range n).map fun i => Value.bool (has i)
theorem hrow_len (has : Nat → Bool) (n : Nat) : (hrow has n).length = n := by simp [hrow]
theorem hrow_at (has : Nat → Bool) {n i : Nat} (h : i < n) : (hrow has n)[i]? = some (.bool (has i)) := by simp [hrow, h]
theorem hrow_set (has : Nat → Bool) {n i : Nat} (b : Bool) (h : i < n) : (hrow has n).set i (.bool b) = hrow (upd has i b) n := by
  apply List.ext_getElem?
  intro j
  rw [List.getElem?_set]
  by_cases e : i = j
  · subst e
    rw [if_pos rfl, if_pos (by rw [hrow_len]; exact h), hrow_at _ h, upd_at]
  · rw [if_neg e]
    by_cases hj : j < n
    · rw [hrow_at _ hj, hrow_at _ hj, upd_other _ _ (fun e' => e e'.symm)]
    · rw [List.getElem?_eq_none (by rw [hrow_len]; omega), List.getElem?_eq_none (by rw [hrow_len]; omega)]
theorem hrow_congr {has has' : Nat → Bool} {n : Nat} (h : ∀ i, i < n → has i = has' i) : hrow has n = hrow has' n := by
  unfold hrow
  apply List.map_congr_left
  intro i hi
  rw [h i (List.mem_range.1 hi)]
/-- Where the marking of the nodes has come to. -/
def midC (d : Nat → Nat → Int) (far : Int) (has : Nat → Bool) (s k : Nat) : Nat → Bool := fun i => if i < k then addC d far has s i else has i
theorem midC_step {d : Nat → Nat → Int} {far : Int} {has : Nat → Bool} {s k : Nat} {b : Bool} (h : addC d far has s k = b) {n : Nat} : hrow (upd (midC d far has s k) k b) n = hrow (midC d far has s (k + 1)) n := by
  refine hrow_congr fun i hi => ?_
  unfold upd midC
  by_cases e : i = k
  · subst e; rw [if_pos rfl, if_pos (by omega), h]
  · rw [if_neg e]
    by_cases hk : i < k
    · rw [if_pos hk, if_pos (by omega)]
    · rw [if_neg hk, if_neg (by omega)]
end Go.Proofs.Ytdhelapgdgekfaa
namespace Go.Proofs.Ytdhelapgdgekfaa
open Go.ChangeShapes Go.WideShapes Go.ChangeAt Go.RowKit
set_option linter.unusedVariables false

/-- A way out of what is behind v goes over v's road. -/
theorem dn_cross {t : List (Int × Int)} (ht : Ahead t) {n v x : Nat} (hn : n ≤ t.length) (hv1 : 1 ≤ v) (hv : v < n) (hx : x < n) (hxv : ¬ Bh t v x) : ∀ i, i < n → Bh t v i → dn t n i x = dn t n i v + tlg t v + dn t n (tto t v) x := by
  intro i
  induction i using Nat.strongRecOn with
  | ind i ih =>
    intro hi hb
    have hle := bh_le ht (by omega) hb
    by_cases e : i = v
    · subst e
      rw [dn_over ht hn hv1 hv x hx, if_neg hxv, dn_diag t n i hi]; omega
    · have hr := ht i (by omega) (by omega)
      rw [dn_over ht hn (by omega) hi x hx, if_neg (fun h => hxv (bh_trans ht (by omega) (by omega) hb h)), dn_over ht hn (by omega) hi v hv, if_neg (fun h => by have := bh_le ht (by omega) h; omega),
        ih _ hr.1 (by omega) ((bh_up ht (by omega) (by omega)).1 hb)]
      omega
/-- Depths add up. -/
theorem dn_down {t : List (Int × Int)} (ht : Ahead t) {n v : Nat} (hn : n ≤ t.length) (hv : v < n) : ∀ i, i < n → Bh t v i → dn t n 0 i = dn t n 0 v + dn t n v i := by
  intro i
  induction i using Nat.strongRecOn with
  | ind i ih =>
    intro hi hb
    have hle := bh_le ht (by omega) hb
    by_cases e : i = v
    · subst e; rw [dn_diag t n i hi]; omega
    · have hr := ht i (by omega) (by omega)
      rw [dn_symm t n 0 i, dn_road ht hn hi (by omega), dn_symm t n v i, dn_road ht hn hi (by omega), dn_symm t n _ 0, ih _ hr.1 (by omega) ((bh_up ht (by omega) (by omega)).1 hb), dn_symm t n v (tto t i)]
      omega
theorem bh_zero {t : List (Int × Int)} (ht : Ahead t) {i : Nat} (hi : i < t.length) : Bh t 0 i := Nat.le_zero.1 (tp_le ht (j := 0) i hi).1

/-- What was picked first, a, served from s, and what was picked later, b, have no node near both. -/
theorem picked_apart {t : List (Int × Int)} {far : Int} (ht : Ahead t) {n a s b : Nat} (hn : n ≤ t.length) (ha : a < n) (hs : s < n) (hb : b < n) (hsa : Bh t s a) (h1 : dn t n s a ≤ far) (h2 : s = 0 ∨ far < dn t n a (tto t s))
    (h3 : dn t n 0 b ≤ dn t n 0 a) (h4 : far < dn t n s b) : ∀ x, x < n → ¬ (dn t n x a ≤ far ∧ dn t n x b ≤ far) := by
  intro x hx ⟨hxa, hxb⟩
  by_cases hsb : Bh t s b
  · have e1 := dn_down ht hn hs b hb hsb
    have e2 := dn_down ht hn hs a ha hsa
    omega
  · have hs1 : 1 ≤ s := by
      rcases Nat.eq_zero_or_pos s with h | h
      · subst h; exact absurd (bh_zero ht (by omega)) hsb
      · exact h
    have hr := ht s hs1 (by omega)
    by_cases hsx : Bh t s x
    · have e1 := dn_cross ht hn hs1 hs hb hsb x hx hsx
      have e2 := dn_cross ht hn hs1 hs hb hsb s hs (bh_self t s)
      have e3 := dn_diag t n s hs
      have e4 := (dn_bd ht n x s hn hx hs).1
      omega
    · have e1 := dn_cross ht hn hs1 hs hx hsx a ha hsa
      have hp : ¬ Bh t s (tto t s) := fun h => by have := bh_le ht (by omega) h; omega
      have e2 := dn_cross ht hn hs1 hs (show tto t s < n by omega) hp a ha hsa
      have e3 := dn_diag t n (tto t s) (by omega)
      have e4 := (dn_bd ht n (tto t s) x hn (by omega) hx).1
      have e5 := dn_symm t n a x
      rcases h2 with h2 | h2 <;> omega

theorem clmC_spec {t : List (Int × Int)} {far : Int} (ht : Ahead t) {n a : Nat} (hn : n ≤ t.length) (ha : a < n) : ∀ f s, s ≤ f → s ≤ a → Bh t s a → dn t n a s ≤ far →
    let r := clmC t (dn t n) far a f s
    r ≤ a ∧ Bh t r a ∧ dn t n a r ≤ far ∧ (r = 0 ∨ far < dn t n a (tto t r))
  | 0, s, h, hsa, hb, hd => by
    obtain rfl : s = 0 := by omega
    exact ⟨by simp [clmC], by simpa [clmC] using hb, by simpa [clmC] using hd, .inl rfl⟩
  | f + 1, s, h, hsa, hb, hd => by
    by_cases hc : 0 < s ∧ dn t n a (tto t s) ≤ far
    · have hr := ht s (by omega) (by omega)
      have ih := clmC_spec (far := far) ht hn ha f (tto t s) (by omega) (by omega) (bh_trans ht (v := s) (by omega) (by omega) ((bh_up ht (by omega) hr.1).2 (bh_self t _)) hb) hc.2
      simp only [clmC, if_pos hc]
      exact ih
    · simp only [clmC, if_neg hc]
      refine ⟨hsa, hb, hd, ?_⟩
      rcases Nat.eq_zero_or_pos s with h0 | h0
      · exact .inl h0
      · right
        rcases Int.lt_or_le far (dn t n a (tto t s)) with h1 | h1
        · exact h1
        · exact absurd ⟨h0, h1⟩ hc
theorem leftC_pos {has : Nat → Bool} : ∀ {m i}, i < m → has i = false → 1 ≤ leftC has m
  | 0, i, h, _ => by omega
  | m + 1, i, h, hf => by
    simp only [leftC]
    by_cases e : i = m
    · subst e; rw [if_neg (by rw [hf]; simp)]; omega
    · have := leftC_pos (m := m) (by omega) hf; omega
theorem covC_run {t : List (Int × Int)} {far : Int} (ht : Ahead t) (hfar : 0 ≤ far) {n : Nat} (hn : n ≤ t.length) : ∀ f has, leftC has n ≤ f → ∃ P : List (Nat × Nat), P.length = covC t (dn t n) far n f has ∧
    (∀ p ∈ P, p.1 < n ∧ p.2 < n ∧ has p.1 = false ∧ Bh t p.2 p.1 ∧ dn t n p.2 p.1 ≤ far ∧ (p.2 = 0 ∨ far < dn t n p.1 (tto t p.2))) ∧
    P.Pairwise (fun p q => dn t n 0 q.1 ≤ dn t n 0 p.1 ∧ far < dn t n p.2 q.1) ∧ (∀ i, i < n → has i = true ∨ ∃ p ∈ P, dn t n p.2 i ≤ far)
  | 0, has, h => by
    refine ⟨[], rfl, fun p hp => (by cases hp), List.Pairwise.nil, fun i hi => ?_⟩
    cases e : has i with
    | true => exact .inl rfl
    | false => have := leftC_pos hi e; omega
  | f + 1, has, h => by
    rcases Int.lt_or_le (fstC (dn t n 0) has n) 0 with hneg | hpos
    · exact ⟨[], by rw [covC_end hneg]; rfl, fun p hp => (by cases hp), List.Pairwise.nil, fun i hi => .inl (fstC_none hneg i hi)⟩
    · obtain ⟨a, e⟩ := Int.eq_ofNat_of_zero_le hpos
      obtain ⟨a1, a2, a3, -⟩ := fstC_some e
      obtain ⟨s1, s2, s3, s4⟩ := clmC_spec (far := far) ht hn a1 a a (Nat.le_refl _) (Nat.le_refl _) (bh_self t a) (by rw [dn_diag t n a a1]; exact hfar)
      have hl := left_next ht hn hfar e
      rw [covC_next e]
      generalize hs : clmC t (dn t n) far a a a = s at s1 s2 s3 s4 hl
      have s3' : dn t n s a ≤ far := by rw [dn_symm]; exact s3
      obtain ⟨P, p1, p2, p3, p4⟩ := covC_run ht hfar hn f (addC (dn t n) far has s) (by omega)
      refine ⟨(a, s) :: P, ?_, ?_, ?_, ?_⟩
      · simp only [List.length_cons, p1]
      · intro p hp
        rcases List.mem_cons.1 hp with rfl | hp
        · exact ⟨a1, by show s < n; omega, a2, s2, s3', s4⟩
        · obtain ⟨q1, q2, q3, q4⟩ := p2 p hp
          simp only [addC, Bool.or_eq_false_iff] at q3
          exact ⟨q1, q2, q3.1, q4⟩
      · refine List.Pairwise.cons (fun q hq => ?_) p3
        obtain ⟨q1, q2, q3, q4⟩ := p2 q hq
        simp only [addC, Bool.or_eq_false_iff, decide_eq_false_iff_not] at q3
        exact ⟨a3 _ q1 q3.1, by show far < dn t n s q.1; omega⟩
      · intro i hi
        rcases p4 i hi with h1 | ⟨p, hp, h1⟩
        · simp only [addC, Bool.or_eq_true, decide_eq_true_eq] at h1
          rcases h1 with h1 | h1
          · exact .inl h1
          · exact .inr ⟨(a, s), by simp, h1⟩
        · exact .inr ⟨p, by simp [hp], h1⟩
/-- The greedy cover: its nodes cover, and those picked are apart. -/
theorem covC_both {t : List (Int × Int)} {far : Int} (ht : Ahead t) (hfar : 0 ≤ far) {n : Nat} (hn : n ≤ t.length) :
    (∃ P, Cov (dn t n) far n P ∧ P.length = covC t (dn t n) far n n (fun _ => false)) ∧ ∃ J, Apt (dn t n) far n J ∧ J.length = covC t (dn t n) far n n (fun _ => false) := by
  obtain ⟨P, p1, p2, p3, p4⟩ := covC_run ht hfar hn n (fun _ => false) (by rw [leftC_none]; exact Nat.le_refl _)
  refine ⟨⟨P.map (·.2), ⟨fun i hi => ?_, fun v hv => ?_⟩, by rw [List.length_map, p1]⟩, P.map (·.1), ⟨fun i hi => ?_, ?_, ?_⟩, by rw [List.length_map, p1]⟩
  · obtain ⟨p, hp, rfl⟩ := List.mem_map.1 hi
    exact (p2 p hp).2.1
  · rcases p4 v hv with h | ⟨p, hp, h⟩
    · cases h
    · refine ⟨p.2, List.mem_map.2 ⟨p, hp, rfl⟩, (dn_bd ht n v p.2 hn hv (p2 p hp).2.1).1, ?_⟩
      rw [dn_symm]; exact h
  · obtain ⟨p, hp, rfl⟩ := List.mem_map.1 hi
    exact (p2 p hp).1
  · unfold List.Nodup
    rw [List.pairwise_map]
    refine List.Pairwise.imp_of_mem ?_ p3
    intro p q hp hq h e
    obtain ⟨q1, q2, q3, q4, q5, q6⟩ := p2 p hp
    rw [e] at q5
    omega
  · have hpw : P.Pairwise fun p q => ∀ v, v < n → ¬ (dn t n v p.1 ≤ far ∧ dn t n v q.1 ≤ far) := by
      refine List.Pairwise.imp_of_mem ?_ p3
      intro p q hp hq h
      obtain ⟨a1, a2, a3, a4, a5, a6⟩ := p2 p hp
      exact picked_apart ht hn a1 a2 (p2 q hq).1 a4 a5 a6 h.1 h.2
    intro i hi k hk hne v hv ⟨h1, h2⟩
    obtain ⟨p, hp, rfl⟩ := List.mem_map.1 hi
    obtain ⟨q, hq, rfl⟩ := List.mem_map.1 hk
    have key : ∀ {L : List (Nat × Nat)}, L.Pairwise (fun p q => ∀ v, v < n → ¬ (dn t n v p.1 ≤ far ∧ dn t n v q.1 ≤ far)) → p ∈ L → q ∈ L → ¬ (dn t n v p.1 ≤ far ∧ dn t n v q.1 ≤ far) := by
      intro L hL
      induction hL with
      | nil => intro h; cases h
      | @cons a L h5 h6 ih =>
        intro hi hk
        rcases List.mem_cons.1 hi with hi2 | hi2 <;> rcases List.mem_cons.1 hk with hk2 | hk2
        · exact absurd (by rw [hi2, hk2]) hne
        · rw [hi2]; exact h5 q hk2 v hv
        · rw [hk2]; exact fun ⟨a1, a2⟩ => h5 p hi2 v hv ⟨a2, a1⟩
        · exact ih hi2 hk2
    exact key hpw hp hq ⟨h1.2, h2.2⟩
/-- In trees: fewest that cover are most that are apart. -/
theorem tree_cover {t : List (Int × Int)} {far : Int} (ht : Ahead t) (hfar : 0 ≤ far) {n : Nat} (hn : n ≤ t.length) (h7 : n ≤ 7) :
    covC t (dn t n) far n n (fun _ => false) = pkB (dn t n) far n (2 ^ n) ∧ cvN (dn t n) far n (2 ^ n) = pkB (dn t n) far n (2 ^ n) := by
  obtain ⟨⟨P, hP, hPl⟩, J, hJ, hJl⟩ := covC_both ht hfar hn
  have h1 := cvN_le_cov h7 hP
  have h2 := apt_le_pkB h7 hJ
  have h3 := pk_le_cv (d := dn t n) (far := far) h7 (fun a b _ _ => dn_symm t n a b) (fun a ha => dn_diag t n a ha) hfar
  omega
end Go.Proofs.Ytdhelapgdgekfaa
namespace Go.Proofs.Ytdhelapgdgekfaa
open Go.ChangeShapes Go.WideShapes Go.ChangeAt Go.RowKit
set_option linter.unusedVariables false
set_option maxRecDepth 4000

theorem cvv_has {ts : List (Int × Int)} {far : Int} (h : 0 ≤ cvv ts far) : vt ts = true ∧ 0 ≤ far ∧ far ≤ 50 := by
  unfold cvv at h
  split at h
  · assumption
  · omega
theorem apv_has {ts : List (Int × Int)} {far : Int} (h : 0 ≤ apv ts far) : vt ts = true ∧ 0 ≤ far ∧ far ≤ 50 := by
  unfold apv at h
  split at h
  · assumption
  · omega
theorem tree_facts {ts : List (Int × Int)} {far : Int} (hv : vt ts = true) (h0 : 0 ≤ far) (h1 : far ≤ 50) : apv ts far = cvv ts far ∧ ncv ts.length (strOf ts) far = cvv ts far ∧ nap ts.length (strOf ts) far = cvv ts far := by
  obtain ⟨g1, g7, -⟩ := (vt_iff ts).1 hv
  have hn := strOf_net hv
  obtain ⟨e1, e2⟩ := tree_cover (far := far) (vt_ahead hv) h0 (Nat.le_refl ts.length) g7
  have ea : apv ts far = ((pkB (dn ts ts.length) far ts.length (2 ^ ts.length) : Nat) : Int) := if_pos ⟨hv, h0, h1⟩
  have ec : cvv ts far = ((covC ts (dn ts ts.length) far ts.length ts.length (fun _ => false) : Nat) : Int) := if_pos ⟨hv, h0, h1⟩
  refine ⟨by rw [ea, ec, e1], ?_, ?_⟩
  · rw [ncv_yes hn h0 h1, ec, e1, ← e2, cvN_congr fun a b ha hb => strOf_dn hv ha hb]
  · rw [nap_yes hn h0 h1, ec, e1, pkB_congr fun a b ha hb => strOf_dn hv ha hb]
theorem cvv_bd (ts : List (Int × Int)) (far : Int) : -1 ≤ cvv ts far := by
  unfold cvv
  split <;> omega
/-- With as many helpers as a cover needs, the farthest is near enough, and so near a cover needs no more. -/
theorem nets_facts {ts : List (Int × Int)} {far : Int} (h1 : 1 ≤ cvv ts far) (h4 : cvv ts far ≤ 4) : 0 ≤ nfr ts.length (strOf ts) (cvv ts far) ∧ nfr ts.length (strOf ts) (cvv ts far) ≤ far ∧ cvv ts (nfr ts.length (strOf ts) (cvv ts far)) ≤ cvv ts far := by
  obtain ⟨hv, h0, h50⟩ := cvv_has (ts := ts) (far := far) (by omega)
  have hf := far_facts (strOf_net hv) h1 h4
  have e1 := (tree_facts hv h0 h50).2.1
  obtain ⟨a1, a2⟩ := (hf far h0 h50).1 (by rw [e1]; omega)
  refine ⟨a1, a2, ?_⟩
  have e2 := (tree_facts hv a1 (by omega)).2.1
  rw [← e2]
  exact (hf _ a1 (by omega)).2 ⟨a1, by omega⟩
end Go.Proofs.Ytdhelapgdgekfaa
