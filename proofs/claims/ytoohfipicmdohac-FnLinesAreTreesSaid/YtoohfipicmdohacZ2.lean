/-
  The laws' isIn.
  Conditions: none.
  The laws' different.
  Conditions: none.
  Small parts of chapter 1's contracts that other laws take too: what valid homes are, how far reaches, cut rows.
  Conditions: none beyond what each theorem states.
  The law FnMostApart: what it takes (the parts lie in DF).
  Conditions: none.
  Rows in memory: words for slices that a call owns, and for tables of rows.
  Conditions: none beyond what each theorem states.
  The reader that draws inputs: what it answers lies in its range, and it writes its own place alone.
  Conditions: fewer than 100000 draws.
  The reader made; one of a list drawn; homes drawn.
  Conditions: none beyond what each theorem states.
  Numbers drawn out of a list that is written out.
  Conditions: none beyond what each theorem states.
  How far drawn.
  Conditions: none beyond what each theorem states.
  Homes drawn, helpers drawn, how far drawn.
  Conditions: none beyond what each theorem states.
  The drawn arguments of MostApart: a list of at most ten numbers, and a number.
  Conditions: none beyond what each theorem states.
-/
import Derived.Test.YtoohfipicmdohacZ0
import Derived.Deep.AppendLies
import Derived.Maps.AppendAt
import Derived.Deep.CutBlock
namespace Go.Proofs.Ytoohfipicmdohac
open Go.ChangeShapes Go.WideShapes Go.ChangeAt Go.RowKit
set_option linter.unusedVariables false

theorem take_snoc_getD {zs : List Int} {j : Nat} (hj : j < zs.length) : zs.take (j + 1) = zs.take j ++ [zs.getD j 0] := by
  rw [List.take_succ_eq_append_getElem hj]
  simp [List.getD, List.getElem?_eq_getElem hj]
theorem RdI.take {w : World} {B : Nat} {A : Option Addr} {zs : List Int} (h : RdI w B A zs) (k : Nat) : RdI w B A (zs.take k) := fun hp => by
  have hl : (zs.take k).length ≤ zs.length := by rw [List.length_take]; omega
  obtain ⟨b, off, e, hb, hc⟩ := h (by omega)
  refine ⟨b, off, e, hb, fun i hi => ?_⟩
  have hik : i < k := by rw [List.length_take] at hi; omega
  rw [hc i (by omega)]
  simp [hik]
def hasB (l : List Int) (y : Int) : Bool := l.contains y
theorem isIn_step {zs : List Int} {k : Nat} {x y : Int} (hk : k < zs.length) (hx : zs.getD k 0 = x) (h : y ∉ zs.take k) (hne : ¬ x = y) : y ∉ zs.take (k + 1) := by
  rw [take_snoc_getD hk, hx]
  simp only [List.mem_append, List.mem_singleton, not_or]
  exact ⟨h, fun e => hne e.symm⟩
theorem isIn_yes {zs : List Int} {k : Nat} {y : Int} (hk : k < zs.length) (hx : zs.getD k 0 = y) : hasB zs y = true := by
  unfold hasB
  rw [List.contains_iff_mem, ← hx]
  simp [List.getD, List.getElem?_eq_getElem hk]
theorem isIn_no {zs : List Int} {k : Nat} {y : Int} (hk : zs.length ≤ k) (h : y ∉ zs.take k) : hasB zs y = false := by
  rw [List.take_of_length_le hk] at h
  unfold hasB
  simpa using h

set_option maxHeartbeats 400000 in
theorem isIn_any (A : Option Addr) (c n : Nat) (zs : List Int) (y : Int) (w : World) (B : Nat) (hr : RdI w B A zs) (hn : zs.length = n) (hb : n ≤ 1048576) :
    Calls Try.prog 42 #[.slice A n c, .int .i64 y] w fun e w' => e = .returned (.bool (hasB zs y)) ∧ w = w' := by
  have Hn := Lib.hid hn
  clear hn
  go_enter Try.func42, Try.ntmps42
  go_wp2
  go_loop [5] (fun i => ∃ k : Nat, k ≤ n ∧ Hid (y ∉ zs.take k) ∧ i = .int .i64 k) (fun i => n - (intOf i).toNat)
  case atStart => exact ⟨0, Nat.zero_le _, (by show y ∉ zs.take 0; simp), rfl⟩
  case round =>
    obtain ⟨k, hk, Hy, rfl⟩ := hrel
    by_cases hlt : k < n
    · obtain ⟨b, off, x, rfl, hbw, Hx, hc⟩ := hr.x (k := k) (by rw [Hn.out]; exact hlt)
      by_cases he : x = y
      · subst he
        have Hs := Lib.hid (isIn_yes (by rw [Hn.out]; exact hlt) Hx.out)
        go_wp2
        go_ret
        exact ⟨ret_bool Hs.out.symm, rfl⟩
      · have hb1 : (x == y) = false := by rw [beq_eq_false_iff_ne]; exact he
        have Hs := Lib.hid (isIn_step (by rw [Hn.out]; exact hlt) Hx.out Hy.out he)
        clear he
        go_wp2
        go_round
        case rel => exact ⟨k + 1, by omega, Hs, by go_num⟩
        case measure => simp [intOf]; omega
    · have Hs := Lib.hid (isIn_no (by rw [Hn.out]; omega) Hy.out)
      go_wp2
      go_ret
      exact ⟨ret_bool Hs.out.symm, rfl⟩
end Go.Proofs.Ytoohfipicmdohac
namespace Go.Proofs.Ytoohfipicmdohac
open Go.ChangeShapes Go.WideShapes Go.ChangeAt Go.RowKit
set_option linter.unusedVariables false

def diffc (zs : List Int) : Nat → Int
  | 0 => 0
  | i + 1 => if hasB (zs.take i) (zs.getD i 0) then diffc zs i else diffc zs i + 1
theorem diffc_bd (zs : List Int) : ∀ i, 0 ≤ diffc zs i ∧ diffc zs i ≤ i
  | 0 => by simp [diffc]
  | i + 1 => by have := diffc_bd zs i; simp only [diffc]; split <;> omega
theorem diffc_yes {zs : List Int} {k : Nat} {x : Int} (hx : zs.getD k 0 = x) (h : hasB (zs.take k) x = true) : diffc zs (k + 1) = diffc zs k := by
  simp only [diffc, hx, h, if_true]
theorem diffc_no {zs : List Int} {k : Nat} {x : Int} (hx : zs.getD k 0 = x) (h : hasB (zs.take k) x = false) : diffc zs (k + 1) = diffc zs k + 1 := by
  simp only [diffc, hx, h]; rfl

set_option maxHeartbeats 400000 in
theorem different_any (A : Option Addr) (c n : Nat) (zs : List Int) (w : World) (B : Nat) (hr : RdI w B A zs) (hn : zs.length = n) (hcap : n ≤ c) (hc63 : c ≤ 9223372036854775807) (hb : n ≤ 1000) :
    Calls Try.prog 18 #[.slice A n c] w fun e w' => e = .returned (.int .i64 (diffc zs zs.length)) ∧ ∃ q, w' = w.drewN q := by
  have Hn := Lib.hid hn
  clear hn
  go_enter Try.func18, Try.ntmps18
  go_wp2
  go_loopw [3, 4] (fun v i wr => ∃ k : Nat, ∃ q : Nat, k ≤ n ∧ i = .int .i64 k ∧ v = .int .i64 (diffc zs k) ∧ wr = w.drewN q) (fun _ i _ => n - (intOf i).toNat)
  case atStart => exact ⟨0, 0, Nat.zero_le _, rfl, rfl, rfl⟩
  case round =>
    obtain ⟨k, q, hk, rfl, rfl, rfl⟩ := hrel
    have hd := diffc_bd zs k
    by_cases hlt : k < n
    · obtain ⟨b, off, x, rfl, hbw, Hx, hc⟩ := hr.x (k := k) (by rw [Hn.out]; exact hlt)
      have hrk := hr.take k
      have hlk : (zs.take k).length = k := by rw [List.length_take, Hn.out]; omega
      have Hq := Lib.hid (fun W : World => fun h : RdI W B (some ⟨b, off, none⟩) (zs.take k) => isIn_any (some ⟨b, off, none⟩) c k (zs.take k) x W B h hlk (by omega))
      have hkc : k ≤ c := by omega
      clear hlk
      cases hin : hasB (zs.take k) x with
      | true =>
        have Hs := Lib.hid (diffc_yes Hx.out hin)
        rw [hin] at Hq
        clear hin
        go_wp2
        go_quiet ((go_at_call 42; exact quiet_gen (Hq.out _ hrk) ⟨_, rfl⟩))
        go_wp2
        go_roundw
        case rel => exact ⟨k + 1, _, by omega, by go_num, by rw [Hs.out], rfl⟩
        case measure => simp [intOf]; omega
      | false =>
        have Hs := Lib.hid (diffc_no Hx.out hin)
        rw [hin] at Hq
        clear hin
        go_wp2
        go_quiet ((go_at_call 42; exact quiet_gen (Hq.out _ hrk) ⟨_, rfl⟩))
        go_wp2
        go_roundw
        case rel => exact ⟨k + 1, _, by omega, by go_num, by rw [Hs.out], rfl⟩
        case measure => simp [intOf]; omega
    · obtain rfl : k = n := by omega
      go_wp2
      go_ret
      exact ⟨ret_int (by rw [Hn.out]), _, rfl⟩
end Go.Proofs.Ytoohfipicmdohac
namespace Go.Proofs.Ytoohfipicmdohac
open Go.ChangeShapes Go.WideShapes Go.ChangeAt Go.RowKit
set_option linter.unusedVariables false

def vfar (far : Int) : Bool := decide (0 ≤ far) && decide (far ≤ 50)
theorem vfar_yes {far : Int} (h1 : 0 ≤ far) (h2 : far ≤ 50) : vfar far = true := by simp [vfar, h1, h2]
theorem vfar_no {far : Int} (h : far < 0 ∨ 50 < far) : vfar far = false := by
  simp only [vfar, Bool.and_eq_false_iff, decide_eq_false_iff_not]; omega
theorem okFrom_mem {zs : List Int} : ∀ {a : Int}, okFrom a zs = true → ∀ x ∈ zs, a ≤ x ∧ x ≤ 50 := by
  induction zs with
  | nil => intro a _ x hx; cases hx
  | cons y r ih =>
    intro a h x hx
    simp only [okFrom, Bool.and_eq_true, decide_eq_true_eq] at h
    rcases List.mem_cons.1 hx with rfl | hx
    · exact ⟨h.1, h.2.1⟩
    · have := ih h.2.2 x hx
      exact ⟨by omega, this.2⟩
theorem vh_len {zs : List Int} (h : vh zs = true) : zs.length ≤ 10 := by unfold vh at h; simp at h; exact h.1
theorem vh_ok {zs : List Int} (h : vh zs = true) : okFrom 0 zs = true := by unfold vh at h; simp at h; exact h.2
theorem vh_get {zs : List Int} (h : vh zs = true) {k : Nat} {x : Int} (hk : k < zs.length) (hx : zs.getD k 0 = x) : 0 ≤ x ∧ x ≤ 50 := by
  refine okFrom_mem (vh_ok h) x ?_
  rw [← hx]
  simp [List.getD, List.getElem?_eq_getElem hk]
theorem validFar_yes (far : Int) (w : World) (h1 : 0 ≤ far) (h2 : far ≤ 50) :
    Calls Try.prog 40 #[.int .i64 far] w fun e w' => e = .returned (.bool true) ∧ w = w' := by
  go_enter Try.func40, Try.ntmps40
  go_wp2
  go_ret
  exact ⟨ret_bool (by simp <;> omega), rfl⟩
theorem validFar_no (far : Int) (w : World) (h : far < 0 ∨ 50 < far) :
    Calls Try.prog 40 #[.int .i64 far] w fun e w' => e = .returned (.bool false) ∧ w = w' := by
  by_cases h1 : far < 0
  all_goals
    go_enter Try.func40, Try.ntmps40
    go_wp2
    go_ret
    exact ⟨ret_bool (by simp <;> omega), rfl⟩
theorem pw_take {zs : List Int} (h : zs.Pairwise (· ≤ ·)) (k : Nat) : (zs.take k).Pairwise (· ≤ ·) := h.sublist (List.take_sublist _ _)
theorem pw_le {zs : List Int} (h : zs.Pairwise (· ≤ ·)) {j : Nat} (hj : j < zs.length) : ∀ y ∈ zs.take j, y ≤ zs.getD j 0 := by
  have h1 := pw_take h (j + 1)
  rw [take_snoc_getD hj, List.pairwise_append] at h1
  exact fun y hy => h1.2.2 y hy _ (by simp)
theorem pw_getD {zs : List Int} (h : zs.Pairwise (· ≤ ·)) {i j : Nat} (hij : i ≤ j) (hj : j < zs.length) : zs.getD i 0 ≤ zs.getD j 0 := by
  rcases Nat.lt_or_ge i j with hlt | hge
  · refine pw_le h hj _ ?_
    simp only [List.getD_eq_getElem?_getD, List.getElem?_eq_getElem (show i < zs.length by omega), Option.getD_some]
    rw [List.mem_take_iff_getElem]
    exact ⟨i, by omega, rfl⟩
  · obtain rfl : i = j := by omega
    exact Int.le_refl _
end Go.Proofs.Ytoohfipicmdohac

namespace Go.Proofs.Ytoohfipicmdohac
open Go.ChangeShapes Go.WideShapes Go.ChangeAt Go.RowKit
set_option linter.unusedVariables false
set_option maxRecDepth 4000

theorem belowd {a w : World} (h : Below a.drew.heap.size a.drew w) : Below a.heap.size a w := ⟨h.os, h.tape, h.output, h.size, h.block⟩

/-- The first k numbers are there, then zeros. -/
def fillL (zs : List Int) (k : Nat) : List Value := (zs.take k).map (Value.int .i64) ++ List.replicate (zs.length - k) (Value.int .i64 0)
theorem fill_step {w : World} {B b n cap sz k : Nat} {t : TypeId} {zs : List Int} (hk : k < zs.length)
    (hown : w.ownsRow B t sz (.slice (some ⟨b, 0, none⟩) n cap) n (fillL zs k)) :
    (w.setCell ⟨b, k, none⟩ (Value.int .i64 (zs.getD k 0))).ownsRow B t sz (.slice (some ⟨b, 0, none⟩) n cap) n (fillL zs (k + 1)) := by
  have h := hown.stored k (Value.int .i64 (zs.getD k 0))
  have e : (fillL zs k).set k (Value.int .i64 (zs.getD k 0)) = fillL zs (k + 1) := by
    unfold fillL
    have hl : ((zs.take k).map (Value.int .i64)).length = k := by simp; omega
    rw [List.set_append_right _ _ (by omega), hl, Nat.sub_self]
    have hr : List.replicate (zs.length - k) (Value.int .i64 0) = Value.int .i64 0 :: List.replicate (zs.length - (k + 1)) (Value.int .i64 0) := by
      rw [show zs.length - k = (zs.length - (k + 1)) + 1 by omega]; rfl
    rw [hr, List.set_cons_zero, List.take_succ_eq_append_getElem (by omega), List.map_append]
    have hg : zs.getD k 0 = zs[k]'(by omega) := by simp [List.getD, List.getElem?_eq_getElem (show k < zs.length by omega)]
    rw [hg]; simp
  rw [e] at h
  exact h.1
theorem fillL_len (zs : List Int) {k : Nat} (hk : k ≤ zs.length) : (fillL zs k).length = zs.length := by unfold fillL; simp; omega
theorem fillL_all (zs : List Int) {k : Nat} (hk : zs.length ≤ k) : fillL zs k = zs.map (Value.int .i64) := by
  unfold fillL
  rw [List.take_of_length_le hk, show zs.length - k = 0 by omega]; simp
theorem rdI_of_ownN {w : World} {B b n cap sz : Nat} {t : TypeId} {zs : List Int} (h : w.ownsRow B t sz (.slice (some ⟨b, 0, none⟩) n cap) n (zs.map (Value.int .i64))) (hn : zs.length = n * sz) : RdI w w.heap.size (some ⟨b, 0, none⟩) zs := fun _ =>
  ⟨b, 0, rfl, (h.lt b rfl).2, fun i hi => by
    rw [Nat.zero_add, h.cellAt i (by omega)]
    simp [List.getElem?_eq_getElem hi]⟩
theorem ownN_below {w w' : World} {B s n : Nat} {e : TypeId} {v : Value} {xs : List Value} (h : w.ownsRow B e s v n xs) (hb : Below w.heap.size w w') : w'.ownsRow B e s v n xs := by
  refine ⟨h.1, ?_⟩
  rcases h.2 with h0 | ⟨g, cap, cur, h1, h2, hg, h3⟩
  · exact .inl h0
  · exact .inr ⟨g, cap, cur, h1, h2, (hb.block g (Array.getElem?_eq_some_iff.1 hg).1).trans hg, h3⟩
theorem own_sliceN {w : World} {B n sz : Nat} {t : TypeId} {v : Value} {xs : List Value} (h : w.ownsRow B t sz v n xs) : ∃ A c, v = .slice A n c ∧ n ≤ c ∧ c ≤ 9223372036854775807 ∧ (0 < n → ∃ g, A = some ⟨g, 0, none⟩ ∧ B ≤ g ∧ g < w.heap.size) := by
  have h0 := h
  rcases h.2 with ⟨rfl, rfl⟩ | ⟨g, cap, cur, rfl, _, _, hnc, hmx, _⟩
  · exact ⟨none, 0, rfl, Nat.le_refl _, by omega, fun hp => by omega⟩
  · exact ⟨_, cap, rfl, hnc, hmx, fun _ => ⟨g, rfl, h0.lt g rfl⟩⟩
theorem addr_add0 {b k : Nat} : (⟨b, 0, none⟩ : Addr).add k = ⟨b, k, none⟩ := by unfold Addr.add; split <;> simp_all
theorem own_cell {w : World} {B b n cap sz : Nat} {t : TypeId} {xs : List Value} (h : w.ownsRow B t sz (.slice (some ⟨b, 0, none⟩) n cap) n xs) {j : Nat} (hj : j < n * sz) (hl : xs.length = n * sz) : ∃ v, w.cell? ⟨b, j, none⟩ = some v := by
  rw [h.cellAt j hj]
  exact ⟨_, List.getElem?_eq_getElem (by omega)⟩
theorem gb_trans {R : Nat} {a b c : World} {row : Option Nat} (h : a.grownBy b (some R)) (k : b.grownBy c row) (hr : row = some R ∨ ∀ g, row = some g → a.heap.size ≤ g) : a.grownBy c (some R) :=
  ⟨k.os.trans h.os, k.tape.trans h.tape, k.output.trans h.output, Nat.le_trans h.size k.size, fun i hi hne => (k.block i (Nat.lt_of_lt_of_le hi h.size) (by
    rcases hr with hr | hr
    · rw [hr]; exact hne
    · intro e; have := hr i e.symm; omega)).trans (h.block i hi hne)⟩
theorem gb_below {R B : Nat} {a b : World} (h : a.grownBy b (some R)) (hB : B ≤ R) (hR : R ≤ a.heap.size) : Below B a b :=
  ⟨h.os, h.tape, h.output, h.size, fun i hi => h.block i (by omega) (by intro e; injection e with e; omega)⟩
theorem size_alloc1 (w : World) (o : Obj) : (w.alloc o).heap.size = w.heap.size + 1 := by show (w.heap.push o).size = _; simp
theorem grown_node {W w1 : World} {row : Option Nat} {Q : Nat} {o : Obj} (hg : W.grownBy w1 row) (hh : W.heap[Q]? = some o) (hne : row ≠ some Q) : w1.heap[Q]? = some o :=
  (hg.block Q (Array.getElem?_eq_some_iff.1 hh).1 (fun e => hne e.symm)).trans hh
theorem frozen_of_row (w : World) (g j : Nat) (cs : Array Value) (t : TypeId) (hh : w.heap[g]? = some (.cells cs t (0, 0))) : w.frozen? ⟨g, j, none⟩ = false := by simp [World.frozen?, hh]
theorem own_heap {w : World} {B s n : Nat} {e : TypeId} {v : Value} {xs : List Value} (h : w.ownsRow B e s v n xs) {g : Nat} (hg : v.ownBlock = some g) : (∃ cs, w.heap[g]? = some (.cells cs e (0, 0))) ∧ B ≤ g ∧ g < w.heap.size := by
  have hl := h.lt g hg
  rcases h.2 with ⟨rfl, _⟩ | ⟨g', cap, cur, rfl, h2, hb, h3⟩
  · simp [Value.ownBlock] at hg
  · have e : g' = g := by simpa [Value.ownBlock] using hg
    subst e
    exact ⟨⟨cur, hb⟩, hl⟩
theorem types_apart {w : World} {g g' : Nat} {cs cs' : Array Value} {ty ty' : TypeId} {fz fz' : Nat × Nat} (h : w.heap[g]? = some (.cells cs ty fz)) (h' : w.heap[g']? = some (.cells cs' ty' fz')) (hne : ty ≠ ty') : g ≠ g' := by
  rintro rfl
  rw [h] at h'
  injection h' with h'
  injection h' with _ e _
  exact hne e
theorem grown_refl (w : World) (row : Option Nat) : w.grownBy w row := ⟨rfl, rfl, rfl, Nat.le_refl _, fun _ _ _ => rfl⟩
theorem grown_trans {R : Nat} {a b c : World} (h : a.grownBy b (some R)) (k : b.grownBy c (some R)) : a.grownBy c (some R) := gb_trans h k (.inl rfl)
theorem own_blockN {w : World} {B b n : Nat} {t : TypeId} {xs : List Value} (h : w.ownsRow B t 1 (.slice (some ⟨b, 0, none⟩) n n) n xs) : w.heap[b]? = some (.cells xs.toArray t (0, 0)) := by
  rcases h.2 with ⟨h', _⟩ | ⟨g, cap, cur, h', _, hb, _, _, hs, ht⟩
  · simp at h'
  · injection h' with h1 h2 h3
    injection h1 with h1
    injection h1 with h1
    subst h1 h3
    rw [hb]
    congr 2
    rw [← ht]
    rw [List.take_of_length_le (by rw [Array.length_toList, hs]; omega)]
def upd {α : Type} (f : Nat → α) (r : Nat) (v : α) : Nat → α := fun i => if i = r then v else f i
theorem upd_at {α : Type} (f : Nat → α) (r : Nat) (v : α) : upd f r v r = v := if_pos rfl
theorem upd_other {α : Type} (f : Nat → α) {r i : Nat} (v : α) (h : i ≠ r) : upd f r v i = f i := if_neg h
/-- Rows of ints, each in a block of its own, from block B on. -/
structure TT (w : World) (B m : Nat) (VR : Nat → Value) (ls : Nat → List Int) : Prop where
  own : ∀ j, j < m → w.ownsRow B 3 1 (VR j) (ls j).length ((ls j).map (Value.int .i64))
  dis : ∀ i j g, i < m → j < m → (VR i).ownBlock = some g → (VR j).ownBlock = some g → i = j
theorem TT.below {w w' : World} {B m : Nat} {VR : Nat → Value} {ls : Nat → List Int} (h : TT w B m VR ls) (hb : Below w.heap.size w w') : TT w' B m VR ls :=
  ⟨fun j hj => ownN_below (h.own j hj) hb, h.dis⟩
theorem TT.congr {w : World} {B m : Nat} {VR : Nat → Value} {ls ls' : Nat → List Int} (h : TT w B m VR ls) (he : ∀ j, j < m → ls j = ls' j) : TT w B m VR ls' :=
  ⟨fun j hj => by rw [← he j hj]; exact h.own j hj, h.dis⟩
theorem TT.append {w W w2 : World} {B m r g2 l2 c2 : Nat} {d : Int} {VR : Nat → Value} {ls : Nat → List Int} (h : TT w B m VR ls) (hr : r < m) (hW : Below w.heap.size w W) (hg : W.grownBy w2 (VR r).ownBlock)
    (hown : w2.ownsRow B 3 1 (.slice (some ⟨g2, 0, none⟩) l2 c2) l2 ((ls r).map (Value.int .i64) ++ [Value.int .i64 d])) (hl2 : l2 = (ls r).length + 1) (hat : (VR r).ownBlock = some g2 ∨ g2 = W.heap.size) :
    TT w2 B m (upd VR r (.slice (some ⟨g2, 0, none⟩) l2 c2)) (upd ls r (ls r ++ [d])) := by
  have hTW := h.below hW
  have hlt : ∀ {i g}, i < m → (VR i).ownBlock = some g → g < w.heap.size := fun hi e => (own_heap (h.own _ hi) e).2.2
  constructor
  · intro j hj
    by_cases e : j = r
    · subst e
      rw [upd_at, upd_at]
      simp only [List.length_append, List.length_cons, List.length_nil, Nat.zero_add, ← hl2, List.map_append, List.map_cons, List.map_nil]
      exact hown
    · rw [upd_other _ _ e, upd_other _ _ e]
      exact (hTW.own j hj).kept hg (by
        rcases e' : (VR j).ownBlock with _ | g
        · exact .inl rfl
        · right; intro e2; exact e (h.dis j r g hj hr e' e2.symm))
  · intro i j g hi hj h1 h2
    have hs := hW.size
    by_cases e1 : i = r <;> by_cases e2 : j = r
    · omega
    · subst e1
      rw [upd_at] at h1; rw [upd_other _ _ e2] at h2
      have : g2 = g := by simpa [Value.ownBlock] using h1
      subst this
      rcases hat with ha | ha
      · exact h.dis i j _ hr hj ha h2
      · have := hlt hj h2; omega
    · subst e2
      rw [upd_at] at h2; rw [upd_other _ _ e1] at h1
      have : g2 = g := by simpa [Value.ownBlock] using h2
      subst this
      rcases hat with ha | ha
      · exact h.dis i j _ hi hr h1 ha
      · have := hlt hi h1; omega
    · rw [upd_other _ _ e1] at h1; rw [upd_other _ _ e2] at h2
      exact h.dis i j g hi hj h1 h2
theorem TT.store {w : World} {B m g k : Nat} {VR : Nat → Value} {ls : Nat → List Int} {v : Value} {cs : Array Value} {ty : TypeId} (h : TT w B m VR ls) (hc : w.heap[g]? = some (.cells cs ty (0, 0))) (hne : ty ≠ 3) : TT (w.setCell ⟨g, k, none⟩ v) B m VR ls :=
  ⟨fun j hj => ownsRow_setCell_other (h.own j hj) (fun e => by
    obtain ⟨⟨cs', hc'⟩, _⟩ := own_heap (h.own j hj) e
    exact types_apart hc hc' hne rfl) _, h.dis⟩
theorem TT.add {w : World} {B m : Nat} {VR : Nat → Value} {ls : Nat → List Int} (h : TT w B m VR ls) (hB : B ≤ w.heap.size) : TT (w.alloc (.cells #[] 3)) B (m + 1) (upd VR m (.slice (some ⟨w.heap.size, 0, none⟩) 0 0)) (upd ls m []) := by
  have hb := (Below.refl w.heap.size w).alloc (Nat.le_refl _) (.cells #[] 3)
  constructor
  · intro j hj
    by_cases e : j = m
    · subst e
      rw [upd_at, upd_at]
      exact World.ownsRow_lit w #[] 0 hB (by decide) rfl
    · rw [upd_other _ _ e, upd_other _ _ e]
      exact ownN_below (h.own j (by omega)) hb
  · intro i j g hi hj h1 h2
    by_cases e1 : i = m <;> by_cases e2 : j = m
    · omega
    · rw [e1, upd_at] at h1; rw [upd_other _ _ e2] at h2
      have : w.heap.size = g := by simpa [Value.ownBlock] using h1
      have := (own_heap (h.own j (by omega)) h2).2.2; omega
    · rw [e2, upd_at] at h2; rw [upd_other _ _ e1] at h1
      have : w.heap.size = g := by simpa [Value.ownBlock] using h2
      have := (own_heap (h.own i (by omega)) h1).2.2; omega
    · rw [upd_other _ _ e1] at h1; rw [upd_other _ _ e2] at h2
      exact h.dis i j g (by omega) (by omega) h1 h2
/-- The rows' outer slice. -/
def Outer (w : World) (B n : Nat) (v : Value) (VR : Nat → Value) : Prop := w.ownsRow B 23 1 v n ((List.range n).map VR)
theorem Outer.kept {w W w2 : World} {B n m r : Nat} {v : Value} {VR VR' : Nat → Value} {ls : Nat → List Int} (h : Outer w B n v VR) (ht : TT w B m VR' ls) (hr : r < m) (hW : Below w.heap.size w W) (hg : W.grownBy w2 (VR' r).ownBlock) : Outer w2 B n v VR :=
  (ownN_below h hW).kept hg (by
    rcases e : v.ownBlock with _ | g
    · exact .inl rfl
    · right
      intro e2
      obtain ⟨⟨cs, hc⟩, _⟩ := own_heap h e
      obtain ⟨⟨cs', hc'⟩, _⟩ := own_heap (ht.own r hr) e2.symm
      exact types_apart hc hc' (by decide) rfl)
theorem Outer.congr {w : World} {B n : Nat} {v : Value} {VR VR' : Nat → Value} (h : Outer w B n v VR) (he : ∀ j, j < n → VR j = VR' j) : Outer w B n v VR' := by
  unfold Outer at h ⊢
  rw [← List.map_congr_left (f := VR) fun i hi => he i (List.mem_range.1 hi)]; exact h
theorem Outer.cell {w : World} {B n g c : Nat} {VR : Nat → Value} (h : Outer w B n (.slice (some ⟨g, 0, none⟩) n c) VR) {j : Nat} (hj : j < n) : w.cell? ⟨g, j, none⟩ = some (VR j) := by
  rw [World.ownsRow.cellAt h j (by omega)]
  simp [hj]
theorem Outer.stored {w : World} {B n g c k : Nat} {VR : Nat → Value} {v : Value} (h : Outer w B n (.slice (some ⟨g, 0, none⟩) n c) VR) (hk : k < n) : Outer (w.setCell ⟨g, k, none⟩ v) B n (.slice (some ⟨g, 0, none⟩) n c) (upd VR k v) := by
  have h1 := (World.ownsRow.stored h k v).1
  unfold Outer
  have e : ((List.range n).map VR).set k v = (List.range n).map (upd VR k v) := by
    apply List.ext_getElem?
    intro i
    rw [List.getElem?_set]
    by_cases hi : i < n
    · by_cases e : k = i
      · subst e; simp [hi, upd_at]
      · simp [hi, e, upd_other VR v (fun h => e h.symm)]
    · simp [hi]; omega
  rw [← e]; exact h1
theorem TT.drewN {w : World} {B m : Nat} {VR : Nat → Value} {ls : Nat → List Int} (h : TT w B m VR ls) (q : Nat) : TT (w.drewN q) B m VR ls := ⟨fun j hj => h.own j hj, h.dis⟩
theorem Outer.drewN {w : World} {B n : Nat} {v : Value} {VR : Nat → Value} (h : Outer w B n v VR) (q : Nat) : Outer (w.drewN q) B n v VR := h
/-- A row's cells. -/
theorem TT.cells {w : World} {B m : Nat} {VR : Nat → Value} {ls : Nat → List Int} (h : TT w B m VR ls) {j k : Nat} (hj : j < m) (hk : k < (ls j).length) :
    ∃ g c, VR j = .slice (some ⟨g, 0, none⟩) (ls j).length c ∧ w.cell? ⟨g, k, none⟩ = some (.int .i64 ((ls j).getD k 0)) := by
  obtain ⟨A, c, e, _, _, h3⟩ := own_sliceN (h.own j hj)
  obtain ⟨g, rfl, _⟩ := h3 (by omega)
  have h1 := h.own j hj
  rw [e] at h1
  refine ⟨g, c, e, ?_⟩
  rw [h1.cellAt k (by omega)]
  simp [List.getElem?_eq_getElem hk]
theorem TT.keptBy {w w' : World} {B m : Nat} {VR : Nat → Value} {ls : Nat → List Int} {row : Option Nat} (h : TT w B m VR ls) (hg : w.grownBy w' row) (hr : ∀ g, row = some g → ∃ cs ty, w.heap[g]? = some (.cells cs ty (0, 0)) ∧ ty ≠ 3) : TT w' B m VR ls :=
  ⟨fun j hj => (h.own j hj).kept hg (by
    rcases e : (VR j).ownBlock with _ | g
    · exact .inl rfl
    · right
      intro e'
      obtain ⟨cs, ty, hc, hne⟩ := hr g e'.symm
      obtain ⟨⟨cs', hc'⟩, _⟩ := own_heap (h.own j hj) e
      exact types_apart hc hc' hne rfl), h.dis⟩
theorem slInfo2 : (Try.prog.info? 23).map (fun i => (i.zero, i.size, i.bytes)) = some (some (.slice none 0 0), 1, 24) := by kernel_rfl
theorem Outer.below {w w' : World} {B n : Nat} {v : Value} {VR : Nat → Value} (h : Outer w B n v VR) (hb : Below w.heap.size w w') : Outer w' B n v VR := ownN_below h hb
theorem Outer.keptRow {w w' : World} {B n b : Nat} {v : Value} {VR : Nat → Value} {cs : Array Value} {ty : TypeId} (h : Outer w B n v VR) (hg : w.grownBy w' (some b)) (hc : w.heap[b]? = some (.cells cs ty (0, 0))) (hne : ty ≠ 23) : Outer w' B n v VR :=
  World.ownsRow.kept h hg (by
    rcases e : v.ownBlock with _ | g
    · exact .inl rfl
    · right
      intro e2
      injection e2 with e2
      subst e2
      obtain ⟨⟨cs', hc'⟩, _⟩ := own_heap h e
      exact types_apart hc hc' hne rfl)
/-- A row of a table, as it is read. -/
theorem TT.row {w : World} {B m : Nat} {VR : Nat → Value} {ls : Nat → List Int} (h : TT w B m VR ls) {j : Nat} (hj : j < m) : ∃ A c, VR j = .slice A (ls j).length c ∧ RdI w w.heap.size A (ls j) := by
  have h1 := h.own j hj
  obtain ⟨A, c, e, _, _, h3⟩ := own_sliceN h1
  refine ⟨A, c, e, fun hp => ?_⟩
  obtain ⟨g, rfl, _, _⟩ := h3 hp
  rw [e] at h1
  exact rdI_of_own h1 rfl hp
end Go.Proofs.Ytoohfipicmdohac
namespace Go.Proofs.Ytoohfipicmdohac
open Go.ChangeShapes Go.WideShapes Go.ChangeAt Go.RowKit
set_option linter.unusedVariables false

/-- Block R is a reader over bytes below B, at most k draws on. -/
def GR (w : World) (B R k : Nat) : Prop :=
  ∃ A c bs, ∃ p : Int, B ≤ R ∧ w.heap[R]? = some (.cells #[.slice A bs.length c, .int .i64 p] 78 (0, 0)) ∧ RdB w B A bs ∧ bs.length ≤ 2000 ∧ 0 ≤ p ∧ p ≤ k
theorem GR.lt {w : World} {B R k : Nat} (h : GR w B R k) : R < w.heap.size := by
  obtain ⟨A, c, bs, p, hB, hh, _⟩ := h
  rcases Nat.lt_or_ge R w.heap.size with hlt | hge
  · exact hlt
  · rw [Array.getElem?_eq_none hge] at hh; cases hh
theorem GR.le {w : World} {B R k : Nat} (h : GR w B R k) : B ≤ R := by obtain ⟨A, c, bs, p, hB, _⟩ := h; exact hB
theorem GR.more {w : World} {B R k k' : Nat} (h : GR w B R k) (hk : k ≤ k') : GR w B R k' := by
  obtain ⟨A, c, bs, p, hB, hh, hr, hl, h0, h1⟩ := h
  exact ⟨A, c, bs, p, hB, hh, hr, hl, h0, by omega⟩
/-- What is done elsewhere leaves the reader. -/
theorem GR.kept {w w' : World} {B R k : Nat} {row : Option Nat} (h : GR w B R k) (hg : w.grownBy w' row) (hr : ∀ g, row = some g → R < g) : GR w' B R k := by
  have hlt := h.lt
  obtain ⟨A, c, bs, p, hB, hh, hrd, hl, h0, h1⟩ := h
  refine ⟨A, c, bs, p, hB, ?_, hrd.keep fun q hq => World.cell?_of_block (hg.block q.block (by omega) (fun e => by have := hr _ e.symm; omega)), hl, h0, h1⟩
  rw [hg.block R hlt (fun e => by have := hr _ e.symm; omega)]
  exact hh

def PickPost (B R k : Nat) (n : Int) (w : World) (e : Ending) (w' : World) : Prop :=
  ∃ v : Int, e = .returned (.int .i64 v) ∧ 0 ≤ v ∧ (1 ≤ n → v < n) ∧ (n < 1 → v = 0) ∧ GR w' B R (k + 1) ∧ w.grownBy w' (some R)

theorem pick_world {w : World} {B R k : Nat} {A : Option Addr} {c : Nat} {bs : List Int} {p : Int} (hB : B ≤ R) (hh : w.heap[R]? = some (.cells #[.slice A bs.length c, .int .i64 p] 78 (0, 0)))
    (hrd : RdB w B A bs) (hl : bs.length ≤ 2000) (h0 : 0 ≤ p) (h1 : p ≤ k) (q : Nat) :
    GR ((w.setCell ⟨R, 1, none⟩ (.int .i64 (p + 1))).drewN q) B R (k + 1) ∧ w.grownBy ((w.setCell ⟨R, 1, none⟩ (.int .i64 (p + 1))).drewN q) (some R) := by
  refine ⟨⟨A, c, bs, p + 1, hB, ?_, ?_, hl, by omega, by omega⟩, ⟨rfl, rfl, rfl, by simp [World.setCell], fun i hi hne => ?_⟩⟩
  · show (w.setCell ⟨R, 1, none⟩ (.int .i64 (p + 1))).heap[R]? = _
    simp [World.setCell, Array.getElem?_modify, hh]
  · exact hrd.keep fun x hx => World.cell?_setCell_other w ⟨R, 1, none⟩ x _ (fun e => by subst e; simp at hx; omega)
  · exact Below.heap_setCell w _ _ i (by rintro rfl; exact hne rfl)

theorem pick_world0 {w : World} {B R k : Nat} {A : Option Addr} {c : Nat} {bs : List Int} {p : Int} (hB : B ≤ R) (hh : w.heap[R]? = some (.cells #[.slice A bs.length c, .int .i64 p] 78 (0, 0)))
    (hrd : RdB w B A bs) (hl : bs.length ≤ 2000) (h0 : 0 ≤ p) (h1 : p ≤ k) :
    GR (w.setCell ⟨R, 1, none⟩ (.int .i64 (p + 1))) B R (k + 1) ∧ w.grownBy (w.setCell ⟨R, 1, none⟩ (.int .i64 (p + 1))) (some R) := by
  have h := pick_world (k := k) hB hh hrd hl h0 h1 0
  exact ⟨h.1, ⟨h.2.os, h.2.tape, h.2.output, h.2.size, h.2.block⟩⟩

theorem rem_bd {x n : Int} (hx : 0 ≤ x) (hn : 1 ≤ n) : 0 ≤ x % n ∧ x % n < n := ⟨Int.emod_nonneg _ (by omega), Int.emod_lt_of_pos _ (by omega)⟩

theorem i64_xor_small (a b : Nat) (ha : a < 1073741824) (hb : b < 1073741824) : 0 ≤ bits .xor .i64 (a : Int) (b : Int) := by
  have hx : a ^^^ b < 2 ^ 30 := Nat.xor_lt_two_pow (by omega) (by omega)
  show 0 ≤ IntKind.i64.wrap ((BitVec.ofInt 64 (a : Int) ^^^ BitVec.ofInt 64 (b : Int)).toNat : Int)
  rw [BitVec.toNat_xor, ofInt_u64 a (by omega), ofInt_u64 b (by omega), IntWalk.i64_in _ (by omega)]
  omega
theorem pick_num {S n : Int} (h0 : 0 ≤ S) (h1 : S ≤ 1000000000) (hn : 1 ≤ n) : 0 ≤ (bits .xor .i64 S (S / 64)).tmod n ∧ (bits .xor .i64 S (S / 64)).tmod n < n := by
  obtain ⟨s, rfl⟩ := Int.eq_ofNat_of_zero_le h0
  have hx := i64_xor_small s (s / 64) (by omega) (by omega)
  rw [show ((s : Int) / 64) = ((s / 64 : Nat) : Int) by omega, Int.tmod_eq_emod_of_nonneg hx]
  exact ⟨Int.emod_nonneg _ (by omega), Int.emod_lt_of_pos _ (by omega)⟩

set_option maxHeartbeats 800000 in
theorem pick_any (R B k : Nat) (n : Int) (w : World) (hg : GR w B R k) (hk : k ≤ 100000) (hn1 : -1000000 ≤ n) (hn2 : n ≤ 1000000) :
    Calls Try.prog 48 #[.pointer (some ⟨R, 0, none⟩), .int .i64 n] w (PickPost B R k n w) := by
  obtain ⟨A, c, bs, p, hB, hh, hrd, hl, h0, h1⟩ := hg
  have Hw := Lib.hid (fun q => pick_world hB hh hrd hl h0 h1 q)
  have Hw0 := Lib.hid (pick_world0 hB hh hrd hl h0 h1)
  have c0 : w.cell? ⟨R, 0, none⟩ = some (.slice A bs.length c) := by simp [World.cell?, hh]
  have c1 : w.cell? ⟨R, 1, none⟩ = some (.int .i64 p) := by simp [World.cell?, hh]
  have f1 : w.frozen? ⟨R, 1, none⟩ = false := by simp [World.frozen?, hh]
  clear hh
  obtain ⟨m, rfl⟩ := Int.eq_ofNat_of_zero_le h0
  by_cases hn : n < 1
  · go_enter Try.func48, Try.ntmps48
    go_wp2
    go_ret
    exact ⟨0, rfl, by omega, fun h => by omega, fun _ => rfl, Hw0.out.1, Hw0.out.2⟩
  · have hn' : 1 ≤ n := by omega
    clear hn
    obtain ⟨L, HL⟩ : ∃ L, Hid (bs.length = L) := ⟨_, rfl⟩
    rw [HL.out] at c0 hl
    by_cases hL : L = 0
    · subst hL
      go_enter Try.func48, Try.ntmps48
      go_wp2
      go_ret
      exact ⟨0, rfl, by omega, fun h => by omega, fun _ => rfl, Hw0.out.1, Hw0.out.2⟩
    · have hL1 : 1 ≤ L := by omega
      have hLb : ((L : Int) == 0) = false := by rw [beq_eq_false_iff_ne]; omega
      clear hL
      by_cases hm : m < L
      · obtain ⟨b, off, x, rfl, hb, Hx, hx0, hx1, hcx⟩ := hrd.x (k := m) (by rw [HL.out]; exact hm)
        have hcx' : (w.setCell ⟨R, 1, none⟩ (.int .i64 (↑m + 1))).cell? ⟨b, off + m, none⟩ = some (.int .u8 x) := by
          rw [World.cell?_setCell_other w ⟨R, 1, none⟩ _ _ (by intro e; injection e with e; omega)]; exact hcx
        clear hcx
        have hr := rem_bd hx0 hn'
        have Hr := Lib.hid hr
        clear hr
        go_enter Try.func48, Try.ntmps48
        go_wp2
        go_ret
        exact ⟨_, rfl, Hr.out.1, fun _ => Hr.out.2, fun h => by omega, Hw0.out.1, Hw0.out.2⟩
      · have hm' : L ≤ m := by omega
        clear hm
        have hmk : m ≤ 100000 := by omega
        have hi1 : m % L < L := Nat.mod_lt _ (by omega)
        have hi2 : (m * 7 + 3) % L < L := Nat.mod_lt _ (by omega)
        obtain ⟨b, off, x, rfl, hb, Hx, hx0, hx1, hcx⟩ := hrd.x (k := m % L) (by rw [HL.out]; exact hi1)
        obtain ⟨b', off', y, he, hb', Hy, hy0, hy1, hcy⟩ := hrd.x (k := (m * 7 + 3) % L) (by rw [HL.out]; exact hi2)
        injection he with he
        injection he with he1 he2
        subst he1 he2
        have hcx' : (w.setCell ⟨R, 1, none⟩ (.int .i64 (↑m + 1))).cell? ⟨b, off + m % L, none⟩ = some (.int .u8 x) := by
          rw [World.cell?_setCell_other w ⟨R, 1, none⟩ _ _ (by intro e; injection e with e; omega)]; exact hcx
        have hcy' : (w.setCell ⟨R, 1, none⟩ (.int .i64 (↑m + 1))).cell? ⟨b, off + (m * 7 + 3) % L, none⟩ = some (.int .u8 y) := by
          rw [World.cell?_setCell_other w ⟨R, 1, none⟩ _ _ (by intro e; injection e with e; omega)]; exact hcy
        clear hcx hcy
        obtain ⟨i1, Hi1⟩ : ∃ i1, Hid (m % L = i1) := ⟨_, rfl⟩
        obtain ⟨i2, Hi2⟩ : ∃ i2, Hid ((m * 7 + 3) % L = i2) := ⟨_, rfl⟩
        obtain ⟨d, Hd⟩ : ∃ d, Hid (m / L = d) := ⟨_, rfl⟩
        have hd : d ≤ m := by rw [← Hd.out]; exact Nat.div_le_self _ _
        rw [Hi1.out] at hcx' hi1
        rw [Hi2.out] at hcy' hi2
        have e1 : (m : Int).tmod (L : Int) = (i1 : Int) := by rw [← Hi1.out]; exact (Int.ofNat_tmod m L).symm
        have e2 : ((m : Int) * 7 + 3).tmod (L : Int) = (i2 : Int) := by rw [← Hi2.out]; exact (Int.ofNat_tmod (m * 7 + 3) L).symm
        have e3 : (m : Int).tdiv (L : Int) = (d : Int) := by rw [← Hd.out]; exact (Int.ofNat_tdiv m L).symm
        have w1 : IntKind.i64.wrap ((m : Int) * 7) = (m : Int) * 7 := IntWalk.i64_in _ (by omega)
        have w2 : IntKind.i64.wrap ((m : Int) * 7 + 3) = (m : Int) * 7 + 3 := IntWalk.i64_in _ (by omega)
        have w3 : IntKind.i64.wrap (x * 131) = x * 131 := IntWalk.i64_in _ (by omega)
        have w4 : IntKind.i64.wrap (y * 1117) = y * 1117 := IntWalk.i64_in _ (by omega)
        have w5 : IntKind.i64.wrap (x * 131 + y * 1117) = x * 131 + y * 1117 := IntWalk.i64_in _ (by omega)
        have w6 : IntKind.i64.wrap ((m : Int) * 29) = (m : Int) * 29 := IntWalk.i64_in _ (by omega)
        have w7 : IntKind.i64.wrap (x * 131 + y * 1117 + (m : Int) * 29) = x * 131 + y * 1117 + (m : Int) * 29 := IntWalk.i64_in _ (by omega)
        have w8 : IntKind.i64.wrap ((d : Int) * 53) = (d : Int) * 53 := IntWalk.i64_in _ (by omega)
        have w9 : IntKind.i64.wrap (x * 131 + y * 1117 + (m : Int) * 29 + (d : Int) * 53) = x * 131 + y * 1117 + (m : Int) * 29 + (d : Int) * 53 := IntWalk.i64_in _ (by omega)
        have hLn : ¬ (L : Int) = 0 := by omega
        have hLn' : ¬ L = 0 := by omega
        have j1 : (i1 : Int) < (L : Int) := by omega
        have j2 : (i2 : Int) < (L : Int) := by omega
        go_enter Try.func48, Try.ntmps48
        go_wp2
        go_quiet (fail)
        clear w1 w2 w3 w4 w5 w6 w7 w8 w9 e1 e2 e3
        have hS0 : 0 ≤ x * 131 + y * 1117 + (m : Int) * 29 + (d : Int) * 53 := by omega
        have hS1 : x * 131 + y * 1117 + (m : Int) * 29 + (d : Int) * 53 ≤ 1000000000 := by omega
        generalize x * 131 + y * 1117 + (m : Int) * 29 + (d : Int) * 53 = S at hS0 hS1 ⊢
        have Hf := Lib.hid (pick_num hS0 hS1 hn')
        go_wp2
        go_ret
        exact ⟨_, rfl, Hf.out.1, fun _ => Hf.out.2, fun h => by omega, (Hw.out nq).1, (Hw.out nq).2⟩
end Go.Proofs.Ytoohfipicmdohac
namespace Go.Proofs.Ytoohfipicmdohac
open Go.ChangeShapes Go.WideShapes Go.ChangeAt Go.RowKit
set_option linter.unusedVariables false

theorem gr_new {w : World} {A : Option Addr} {c : Nat} {bs : List Int} {n : Nat} (hr : RdB w w.heap.size A bs) (hn : bs.length = n) (hl : n ≤ 2000) :
    GR (w.alloc (.cells #[.slice A n c, .int .i64 0] 78)) w.heap.size w.heap.size 0 := by
  subst hn
  exact ⟨A, c, bs, 0, Nat.le_refl _, heap_alloc_new w _, hr.keep (fun p hp => World.cell?_alloc_lt w _ p hp), hl, by omega, by omega⟩

def MadeReader (w : World) (e : Ending) (w' : World) : Prop :=
  e = .returned (.pointer (some ⟨w.heap.size, 0, none⟩)) ∧ GR w' w.heap.size w.heap.size 0 ∧ Below w.heap.size w w'

set_option maxHeartbeats 400000 in
theorem newReader_any (A : Option Addr) (c n : Nat) (bs : List Int) (w : World) (hr : RdB w w.heap.size A bs) (hn : bs.length = n) (hc : n ≤ c) (hm : c ≤ 9223372036854775807) :
    Calls Try.prog 36 #[.slice A n c] w (MadeReader w) := by
  by_cases h2 : 2000 < n
  · have hr2 : RdB w w.heap.size A (bs.take 2000) := by
      refine ⟨fun x hx => hr.1 x (List.mem_of_mem_take hx), fun hp => ?_⟩
      obtain ⟨b, off, e, hb, hcl⟩ := hr.2 (by omega)
      refine ⟨b, off, e, hb, fun i hi => ?_⟩
      have hi2 : i < 2000 := by rw [List.length_take] at hi; omega
      rw [hcl i (by omega)]
      simp [hi2]
    have hg := gr_new (n := 2000) (c := c) hr2 (by rw [List.length_take]; omega) (Nat.le_refl _)
    have Hg := Lib.hid hg
    clear hg hr2
    have Hn := Lib.hid hn
    clear hn
    have hc2 : 2000 ≤ c := by omega
    go_enter Try.func36, Try.ntmps36
    go_wp2
    go_ret
    exact ⟨rfl, Hg.out, (Below.refl _ _).alloc (Nat.le_refl _) _⟩
  · have hg := gr_new (c := c) hr hn (by omega)
    have Hg := Lib.hid hg
    clear hg
    have Hn := Lib.hid hn
    clear hn
    go_enter Try.func36, Try.ntmps36
    go_wp2
    go_ret
    exact ⟨rfl, Hg.out, (Below.refl _ _).alloc (Nat.le_refl _) _⟩

/-- One of a list of numbers that lies in a block of its own. -/
def OnePost (B R k : Nat) (lo hi : Int) (w : World) (e : Ending) (w' : World) : Prop :=
  ∃ v : Int, e = .returned (.int .i64 v) ∧ lo ≤ v ∧ v ≤ hi ∧ GR w' B R (k + 1) ∧ w.grownBy w' (some R)

set_option maxHeartbeats 400000 in
theorem one_any (R B k g : Nat) (zs : List Int) (n c : Nat) (lo hi : Int) (w : World) (hg : GR w B R k) (hk : k ≤ 100000) (hn : zs.length = n) (hn1 : 1 ≤ n) (hn2 : n ≤ 1000)
    (hgR : g ≠ R) (hcl : ∀ i, i < n → w.cell? ⟨g, i, none⟩ = some (.int .i64 (zs.getD i 0))) (hbd : ∀ x ∈ zs, lo ≤ x ∧ x ≤ hi) :
    Calls Try.prog 47 #[.pointer (some ⟨R, 0, none⟩), .slice (some ⟨g, 0, none⟩) n c] w (OnePost B R k lo hi w) := by
  have Hn := Lib.hid hn
  clear hn
  have Hcl := Lib.hid hcl
  clear hcl
  have Hbd := Lib.hid hbd
  clear hbd
  go_enter Try.func47, Try.ntmps47
  go_wp2_with fail
  refine (pick_any R B k n w hg hk (by omega) (by omega)).mono ?_
  rintro e w1 ⟨v, rfl, hv0, hv1, -, hg1, hgr⟩
  obtain ⟨i, rfl⟩ := Int.eq_ofNat_of_zero_le hv0
  have hin : i < n := by have := hv1 (by omega); omega
  have hgl : g < w.heap.size := by
    have h0 := Hcl.out 0 (by omega)
    exact World.block_lt_of_cell? w _ h0
  have hc1 : w1.cell? ⟨g, i, none⟩ = some (.int .i64 (zs.getD i 0)) := (World.cell?_of_block (hgr.block g hgl (by intro e; injection e with e; exact hgR e))).trans (Hcl.out i hin)
  obtain ⟨x, Hx⟩ : ∃ x, Hid (zs.getD i 0 = x) := ⟨_, rfl⟩
  rw [Hx.out] at hc1
  clear hv1
  go_wp2
  go_ret
  have hm : x ∈ zs := by rw [← Hx.out]; simp [List.getD, List.getElem?_eq_getElem (show i < zs.length by rw [Hn.out]; exact hin)]
  exact ⟨x, rfl, (Hbd.out x hm).1, (Hbd.out x hm).2, hg1, hgr⟩
end Go.Proofs.Ytoohfipicmdohac
namespace Go.Proofs.Ytoohfipicmdohac
open Go.ChangeShapes Go.WideShapes Go.ChangeAt Go.RowKit
set_option linter.unusedVariables false
set_option maxRecDepth 4000

theorem lit_cells (w : World) (zs : List Int) (g : Nat) (hg : g = w.heap.size) (t : TypeId) : ∀ i, i < zs.length → (w.alloc (.cells (zs.map (Value.int .i64)).toArray t)).cell? ⟨g, i, none⟩ = some (.int .i64 (zs.getD i 0)) := by
  intro i hi
  subst hg
  rw [cell_of_row _ _ _ _ t (0, 0) (heap_alloc_new w _)]
  simp [hi]
theorem own_slice {w : World} {B n : Nat} {v : Value} {zs : List Int} (h : w.ownsRow B 3 1 v n (zs.map (Value.int .i64))) (hn : zs.length = n) :
    ∃ A c, v = .slice A n c ∧ n ≤ c ∧ c ≤ 9223372036854775807 ∧ RdI w w.heap.size A zs := by
  have h0 := h
  rcases h.2 with ⟨rfl, rfl⟩ | ⟨g, cap, cur, rfl, _, _, hnc, hmx, _⟩
  · exact ⟨none, 0, rfl, Nat.le_refl _, by omega, fun hp => by omega⟩
  · exact ⟨_, cap, rfl, hnc, hmx, rdI_of_own h0 hn⟩

/-- One of the numbers of a list that is written out. -/
theorem oneLit (R B k : Nat) (zs : List Int) (n : Nat) (lo hi : Int) (w : World) (cs : Array Value) (hg : GR w B R k) (hk : k ≤ 100000) (hn : zs.length = n) (hn1 : 1 ≤ n) (hn2 : n ≤ 1000)
    (hcs : (zs.map (Value.int .i64)).toArray = cs) (hbd : ∀ x ∈ zs, lo ≤ x ∧ x ≤ hi) :
    Calls Try.prog 47 #[.pointer (some ⟨R, 0, none⟩), .slice (some ⟨w.heap.size, 0, none⟩) n n] (w.alloc (.cells cs 3)) (OnePost B R k lo hi w) := by
  have hga : GR (w.alloc (.cells cs 3)) B R k := hg.kept (row := none) (World.grownBy_alloc _ _ _) (fun g h => by cases h)
  refine (one_any R B k w.heap.size zs n n lo hi _ hga hk hn hn1 hn2 (by have := hg.lt; omega) (by rw [← hn, ← hcs]; exact lit_cells w zs _ rfl _) hbd).mono ?_
  rintro e w2 ⟨m, rfl, hm2, hm3, hg2, hgr2⟩
  exact ⟨m, rfl, hm2, hm3, hg2, gb_trans (World.grownBy_alloc w _ _) hgr2 (.inl rfl)⟩
/-- The same where the list's block is given by its number. -/
theorem oneLitAt (g : Nat) (R B k : Nat) (zs : List Int) (n : Nat) (lo hi : Int) (w : World) (cs : Array Value) (hg : GR w B R k) (hk : k ≤ 100000) (hn : zs.length = n) (hn1 : 1 ≤ n) (hn2 : n ≤ 1000)
    (hcs : (zs.map (Value.int .i64)).toArray = cs) (hbd : ∀ x ∈ zs, lo ≤ x ∧ x ≤ hi) (he : w.heap.size = g) :
    Calls Try.prog 47 #[.pointer (some ⟨R, 0, none⟩), .slice (some ⟨g, 0, none⟩) n n] (w.alloc (.cells cs 3)) (OnePost B R k lo hi w) := by
  subst he
  exact oneLit R B k zs n lo hi w cs hg hk hn hn1 hn2 hcs hbd
end Go.Proofs.Ytoohfipicmdohac
namespace Go.Proofs.Ytoohfipicmdohac
open Go.ChangeShapes Go.WideShapes Go.ChangeAt Go.RowKit
set_option linter.unusedVariables false
set_option maxRecDepth 4000

set_option maxHeartbeats 400000 in
theorem aFar_any (R B k : Nat) (w : World) (hg : GR w B R k) (hk : k ≤ 90000) :
    Calls Try.prog 39 #[.pointer (some ⟨R, 0, none⟩)] w (OnePost B R k (-1) 51 w) := by
  go_enter Try.func39, Try.ntmps39
  go_wp2_with fail
  refine (oneLit R B k [2, 3, 1, 5, 0, 4, 8, 12, 50, 51, -1] 11 (-1) 51 w _ hg (by omega) rfl (by omega) (by omega) rfl (by decide)).mono ?_
  rintro e w2 ⟨m, rfl, hm2, hm3, hg2, hgr2⟩
  go_wp2
  go_ret
  exact ⟨m, rfl, hm2, hm3, hg2, hgr2⟩
end Go.Proofs.Ytoohfipicmdohac
namespace Go.Proofs.Ytoohfipicmdohac
open Go.ChangeShapes Go.WideShapes Go.ChangeAt Go.RowKit
set_option linter.unusedVariables false
set_option maxRecDepth 4000

def HomesPost (B R k : Nat) (w : World) (e : Ending) (w' : World) : Prop :=
  ∃ v, ∃ xs : List Int, e = .returned v ∧ xs.length ≤ 10 ∧ (∀ x ∈ xs, -1 ≤ x ∧ x ≤ 51) ∧ w'.ownsRow w.heap.size 3 1 v xs.length (xs.map (Value.int .i64)) ∧ GR w' B R (k + 40) ∧ w.grownBy w' (some R)

def HomesRel (B R k : Nat) (w : World) (v a i : Value) (wr : World) : Prop :=
  ∃ xs : List Int, ∃ at' m : Int, ∃ q : Nat, i = .int .i64 m ∧ a = .int .i64 at' ∧ 0 ≤ at' ∧ at' ≤ 50 ∧ -10 ≤ m ∧ (xs.length : Int) + m ≤ 10 ∧ xs.length ≤ 10 ∧ (q : Int) + m ≤ k + 13 ∧ q ≤ k + 20 ∧ (∀ x ∈ xs, -1 ≤ x ∧ x ≤ 51) ∧
    wr.ownsRow w.heap.size 3 1 v xs.length (xs.map (Value.int .i64)) ∧ GR wr B R q ∧ w.grownBy wr (some R)

set_option maxHeartbeats 800000 in
theorem someHomes_any (R B k : Nat) (most : Int) (w : World) (hg : GR w B R k) (hk : k ≤ 90000) (hm0 : 0 ≤ most) (hm1 : most ≤ 10) :
    Calls Try.prog 35 #[.pointer (some ⟨R, 0, none⟩), .int .i64 most] w (HomesPost B R k w) := by
  obtain ⟨i0, hi0, hz0, hz1, hz2⟩ := info_parts intInfo
  have hRlt := hg.lt
  go_enter Try.func35, Try.ntmps35
  go_wp2_with fail
  have hga : GR (w.alloc (.cells #[] 3)) B R k := hg.kept (row := none) (World.grownBy_alloc _ _ _) (fun g h => by cases h)
  have hgba : w.grownBy (w.alloc (.cells #[] 3)) (some R) := World.grownBy_alloc _ _ _
  have hown0 : (w.alloc (.cells #[] 3)).ownsRow w.heap.size 3 1 (.slice (some ⟨w.heap.size, 0, none⟩) 0 0) 0 [] :=
    World.ownsRow_lit w #[] 0 (Nat.le_refl _) (by decide) rfl
  refine (pick_any R B k 6 _ hga (by omega) (by omega) (by omega)).mono ?_
  rintro e w1 ⟨a, rfl, ha0, ha1, -, hg1, hgr1⟩
  have ha2 := ha1 (by omega)
  clear ha1
  have hgb1 := gb_trans hgba hgr1 (.inl rfl)
  have hown1 := hown0.kept hgr1 (.inr (by simp [Value.ownBlock]; omega))
  have Hown1 := Lib.hid hown1
  clear hown1 hown0 hgba hga hgr1
  go_wp2_with fail
  refine (oneLit R B (k + 1) [5, 4, 6, 3, 7, 2, 10, 1, 0] 9 0 10 w1 _ hg1 (by omega) rfl (by omega) (by omega) rfl (by decide)).mono ?_
  rintro e w2 ⟨m, rfl, hm2, hm3, hg2, hgr2⟩
  have hgb2 := gb_trans hgb1 hgr2 (.inl rfl)
  have hown2 := Hown1.out.kept hgr2 (.inr (by simp [Value.ownBlock]; omega))
  have Hown2 := Lib.hid hown2
  clear hown2 hgr2 Hown1 hgb1 hg1
  go_upto_block 0 with fail
  have hM0 : 0 ≤ (if most < m then most else m) ∧ (if most < m then most else m) ≤ 10 := by split <;> omega
  generalize (if most < m then most else m) = M at hM0 ⊢
  go_wp2_with fail
  go_loopw [5, 6, 7] (fun v a i wr => HomesRel B R k w v a i wr) (fun _ _ i _ => (intOf i).toNat)
  case atStart => exact ⟨[], a, M, _, rfl, rfl, ha0, by omega, by omega, by simp; omega, by simp, by omega, by omega, by simp, Hown2.out, hg2, hgb2⟩
  case round =>
    clear hg2 Hown2 hgb2
    obtain ⟨xs, at', m', q, rfl, rfl, hat0, hat1, hm'0, hlm, hl10, hq1, hq2, Hxs, hown, hgr, hgb⟩ := hrel
    have Hxs' := Lib.hid Hxs
    clear Hxs
    have hws := hgb.size
    by_cases hpos : 0 < m'
    · go_wp2_with (at_builtin; refine wpList_append_own _ rfl _ _ 23 rfl w.heap.size 3 i0 (.int .i64 0) 1 8 Try.underlying23 hi0 hz0 hz1 hz2 rfl (by decide) _ _ _ rfl (hown.alloc _) ⟨wr.heap.size, 0, none⟩ 1 1 [.int .i64 at'] rfl rfl ?c1 ?c2 ?c3 ?c4 ?c5 ?_)
      case c1 => exact cell_one_new _ _ _
      case c2 => intro u hu; simp at hu; subst hu; rfl
      case c3 => unfold maxLen; omega
      case c4 => omega
      case c5 => simp; omega
      intro v' w3 hown' hgrow _
      have hgr3 : GR w3 B R q := (hgr.kept (row := none) (World.grownBy_alloc _ _ _) (fun g h => by cases h)).kept hgrow (fun g h => by have := (hown.lt g h).1; omega)
      have hgb3 : w.grownBy w3 (some R) := gb_trans (gb_trans hgb (World.grownBy_alloc wr _ none) (.inr (fun g h => by cases h))) hgrow (.inr (fun g h => (hown.lt g h).1))
      have hwo := hown'.lt
      have Hwo := Lib.hid hwo
      have Hown' := Lib.hid hown'
      clear hown' hgrow hown hgr hgb hws hwo
      go_wp2_with fail
      refine (oneLit R B q [1, 2, 3, 0, 5, 9, 12] 7 0 12 w3 _ hgr3 (by omega) rfl (by omega) (by omega) rfl (by decide)).mono ?_
      rintro e w4 ⟨d, rfl, hd0, hd1, hgr4, hgw4⟩
      have hgb4 := gb_trans hgb3 hgw4 (.inl rfl)
      have hown4 := Hown'.out.kept hgw4 (.inr (fun e => by have := (Hwo.out R e).1; omega))
      have Hown4 := Lib.hid hown4
      clear hown4 Hown' hgw4 hgb3 hgr3
      have Hxs2 : Hid (∀ x ∈ xs ++ [at'], -1 ≤ x ∧ x ≤ 51) := fun x hx => by
        rcases List.mem_append.1 hx with h | h
        · exact Hxs'.out x h
        · simp at h; omega
      go_wp2
      all_goals
        go_roundw
        case rel => exact ⟨xs ++ [at'], _, m' - 1, q + 1, rfl, rfl, by omega, by omega, by omega, by simp; omega, by simp; omega, by omega, by omega, Hxs2.out, by simpa using Hown4.out, hgr4, hgb4⟩
        case measure => simp [intOf]; omega
    · obtain ⟨A, c, rfl, hc1, hc2, hrd⟩ := own_slice hown rfl
      obtain ⟨n, Hn⟩ : ∃ n, Hid (xs.length = n) := ⟨_, rfl⟩
      have hgm : GR wr B R (k + 40) := hgr.more (by omega)
      have hwo := hown.lt
      have Hwo := Lib.hid hwo
      have Hown := Lib.hid hown
      clear hown hwo
      by_cases hx0 : xs.length = 0
      · have hx0' : ¬ (0 : Int) < ((xs.length : Nat) : Int) := by omega
        have Hx0 := Lib.hid hx0
        clear hx0
        go_wp2
        go_ret
        exact ⟨_, xs, rfl, hl10, Hxs'.out, Hown.out, hgm, hgb⟩
      · have hx1 : (0 : Int) < ((xs.length : Nat) : Int) := by omega
        have hx2 : 0 < xs.length := by omega
        clear hx0
        go_wp2_with fail
        refine (pick_any R B q 40 wr hgr (by omega) (by omega) (by omega)).mono ?_
        rintro e w5 ⟨v, rfl, hv0, hv1, -, hgr5, hgw5⟩
        have hgb5 := gb_trans hgb hgw5 (.inl rfl)
        have hown5 := Hown.out.kept hgw5 (.inr (fun e => by have := (Hwo.out R e).1; omega))
        have Hown5 := Lib.hid hown5
        clear hown5 hv1 hgw5 Hown
        by_cases hv : v = 0
        · subst hv
          go_wp2_with fail
          refine (pick_any R B (q + 1) xs.length w5 hgr5 (by omega) (by omega) (by omega)).mono ?_
          rintro e w6 ⟨i, rfl, hi0, hi1, -, hgr6, hgw6⟩
          have hgb6 := gb_trans hgb5 hgw6 (.inl rfl)
          have hown6 := Hown5.out.kept hgw6 (.inr (fun e => by have := (Hwo.out R e).1; omega))
          have Hown6 := Lib.hid hown6
          clear hown6 hgw6 Hown5 hgb5
          obtain ⟨i, rfl⟩ := Int.eq_ofNat_of_zero_le hi0
          have hil : i < xs.length := by have := hi1 (by omega); omega
          clear hi1
          go_wp2_with fail
          refine (oneLit R B (q + 1 + 1) [-1, 51, 0] 3 (-1) 51 w6 _ hgr6 (by omega) rfl (by omega) (by omega) rfl (by decide)).mono ?_
          rintro e w7 ⟨d, rfl, hd0, hd1, hgr7, hgw7⟩
          have hgb7 := gb_trans hgb6 hgw7 (.inl rfl)
          have hown7 := Hown6.out.kept hgw7 (.inr (fun e => by have := (Hwo.out R e).1; omega))
          obtain ⟨g, cap, he, hg1, hg2⟩ := hown7.form hx2
          injection he with he1 he2 he3
          subst he1 he3
          obtain ⟨v7, hv7⟩ : ∃ v7, w7.cell? ⟨g, i, none⟩ = some v7 := by
            rw [hown7.cellAt i (by omega)]
            exact ⟨_, List.getElem?_eq_getElem (by simpa using hil)⟩
          have hf7 := hown7.frozenAt i
          have hst := (hown7.stored i (.int .i64 d)).1
          have hgs := (hown7.stored i (.int .i64 d)).2
          have hgb8 := gb_trans hgb7 hgs (.inr (fun g' h' => by cases h'; exact hg1))
          have hgr8 := hgr7.kept hgs (fun g' h' => by cases h'; omega)
          have Hst := Lib.hid hst
          have Hgb8 := Lib.hid hgb8
          have Hgr8 := Lib.hid hgr8
          have Hxs2 : Hid (∀ x ∈ xs.set i d, -1 ≤ x ∧ x ≤ 51) := fun x hx => by
            rcases List.mem_or_eq_of_mem_set hx with h | h
            · exact Hxs'.out x h
            · omega
          clear hst hgb8 hgr8 hown7 hgb7 hgb6 hgw7 hgs Hown6
          go_wp2
          go_ret
          exact ⟨_, xs.set i d, rfl, by rw [List.length_set]; exact hl10, Hxs2.out, by rw [List.length_set, List.map_set]; exact Hst.out, Hgr8.out.more (by omega), Hgb8.out⟩
        · have hvb : (v == 0) = false := by rw [beq_eq_false_iff_ne]; exact hv
          clear hv
          go_wp2
          go_ret
          exact ⟨_, xs, rfl, hl10, Hxs'.out, Hown5.out, hgr5.more (by omega), hgb5⟩

end Go.Proofs.Ytoohfipicmdohac
namespace Go.Proofs.Ytoohfipicmdohac
open Go.ChangeShapes Go.WideShapes Go.ChangeAt Go.RowKit
set_option linter.unusedVariables false

def DrawnList (w : World) (e : Ending) (w' : World) : Prop :=
  ∃ A c, ∃ xs : List Int, e = .returned (.slice A xs.length c) ∧ xs.length ≤ 10 ∧ xs.length ≤ c ∧ c ≤ 9223372036854775807 ∧ RdI w' w'.heap.size A xs ∧ Below w.heap.size w w'
def DrawnTwo (w : World) (e : Ending) (w' : World) : Prop :=
  ∃ A c, ∃ xs : List Int, ∃ k : Int, e = .returned (.tuple #[.slice A xs.length c, .int .i64 k]) ∧ -1 ≤ k ∧ k ≤ 51 ∧ xs.length ≤ 10 ∧ xs.length ≤ c ∧ c ≤ 9223372036854775807 ∧ RdI w' w'.heap.size A xs ∧ Below w.heap.size w w'

theorem drawMostApart_any (A : Option Addr) (c n : Nat) (bs : List Int) (w : World) (hr : RdB w w.heap.size A bs) (hn : bs.length = n) (hc : n ≤ c) (hm : c ≤ 9223372036854775807) :
    Calls Try.prog 15 #[.slice A n c] w (DrawnTwo w) := by
  have H := Lib.hid (newReader_any A c n bs w hr hn hc hm)
  clear hn
  go_enter Try.func15, Try.ntmps15
  go_wp2_with fail
  refine H.out.mono ?_
  rintro e w1 ⟨rfl, hg1, hnx1⟩
  go_wp2_with fail
  refine (someHomes_any w.heap.size w.heap.size 0 10 w1 hg1 (by omega) (by omega) (by omega)).mono ?_
  rintro e w2 ⟨v, xs, rfl, hl, hx, hown, hg2, hgb2⟩
  have hwo := hown.lt
  have Hwo := Lib.hid hwo
  have Hown := Lib.hid hown
  clear hwo hown
  go_wp2_with fail
  refine (aFar_any w.heap.size w.heap.size (0 + 40) w2 hg2 (by omega)).mono ?_
  rintro e w3 ⟨k, rfl, hk1, hk2, hg3, hgb3⟩
  have hown3 := Hown.out.kept hgb3 (.inr (fun e => by have := (Hwo.out _ e).1; have := hg1.lt; omega))
  obtain ⟨A', c', rfl, hc1, hc2, hrd⟩ := own_slice hown3 rfl
  go_wp2
  go_ret2
  exact ⟨A', c', xs, k, rfl, by omega, by omega, hl, hc1, hc2, hrd, hnx1.trans (gb_below (gb_trans hgb2 hgb3 (.inl rfl)) (Nat.le_refl _) hnx1.size)⟩
end Go.Proofs.Ytoohfipicmdohac
