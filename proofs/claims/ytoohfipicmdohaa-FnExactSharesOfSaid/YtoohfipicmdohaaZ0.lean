/-
  Words and small contracts that all proofs of this seat use: a slice that reads as a list of ints; copies of slices and their comparison.
  Conditions: none beyond what each theorem states.
  Words for rows of ints that a call makes.
  Conditions: none beyond what each theorem states.
  The copy of a slice of ints and the comparison of two slices, walked.
  Conditions: the slice is shorter than 2^20 elements.
  How far two places are from each other: the program's distance, the model's gap.
  Conditions: places in -1000..1000.
  Whether a number is in a range, and calls inside a region that draws its order.
  Conditions: none beyond what each theorem states.
  inOrderUpTo: whether places are in 0..last, none less than the one ahead of it.
  Conditions: fewer than 2^60 numbers.
  Shops as mathematics: which are nearest, the shares, one more shop, the best place, rests, all lists of shops.
  Conditions: as each theorem states.
  Shops: the facts that hold of all lists of at most four shops in streets of at most nine houses, looked up one by one.
  Conditions: as each theorem states.
  Shops: what the facts looked up say.
  Conditions: as each theorem states.
  Rows in memory: words for slices that a call owns, and for tables of rows.
  Conditions: none beyond what each theorem states.
-/
import Derived.Test.YtoohfipicmdohaaRows
import Derived.WalkKit
import Derived.ProofKit
import Derived.OpenShut
import Derived.ChangeOld
import Derived.Below
import Derived.RegionTactic
import Derived.ChangeAlike
import Derived.Deep.QuietTactic
import Derived.BigQuiet
import Derived.Lib.Hide
import Derived.IntWalk
import Derived.Outline
import Derived.Laws.Rows
import Derived.Laws.OwnMore
import Derived.Deep.Draws
import Derived.BigRegion
import Derived.Deep.AppendLies
namespace Go.Proofs.Ytoohfipicmdohaa
open Go.ChangeShapes Go.WideShapes Go.ChangeAt Go.RowKit
set_option linter.unusedVariables false

/-- The slice with address A reads as the ints zs, below block B. -/
def RdI (w : World) (B : Nat) (A : Option Addr) (zs : List Int) : Prop :=
  0 < zs.length → ∃ b off, A = some ⟨b, off, none⟩ ∧ b < B ∧ ∀ i, i < zs.length → w.cell? ⟨b, off + i, none⟩ = some (.int .i64 (zs.getD i 0))

theorem RdI.at_ {w : World} {B : Nat} {A : Option Addr} {zs : List Int} (h : RdI w B A zs) {k : Nat} (hk : k < zs.length) :
    ∃ b off, A = some ⟨b, off, none⟩ ∧ b < B ∧ w.cell? ⟨b, off + k, none⟩ = some (.int .i64 (zs.getD k 0)) := by
  obtain ⟨b, off, e, hb, hc⟩ := h (by omega)
  exact ⟨b, off, e, hb, hc k hk⟩
/-- The same, the number under a name of its own, its value hidden from the walk. -/
theorem RdI.x {w : World} {B : Nat} {A : Option Addr} {zs : List Int} (h : RdI w B A zs) {k : Nat} (hk : k < zs.length) :
    ∃ b off x, A = some ⟨b, off, none⟩ ∧ b < B ∧ Hid (zs.getD k 0 = x) ∧ w.cell? ⟨b, off + k, none⟩ = some (.int .i64 x) := by
  obtain ⟨b, off, e, hb, hc⟩ := h (by omega)
  exact ⟨b, off, _, e, hb, rfl, hc k hk⟩
theorem RdI.keep {w w' : World} {B : Nat} {A : Option Addr} {zs : List Int} (h : RdI w B A zs) (hk : ∀ p : Addr, p.block < B → w'.cell? p = w.cell? p) : RdI w' B A zs := fun hp => by
  obtain ⟨b, off, e, hb, hc⟩ := h hp
  exact ⟨b, off, e, hb, fun i hi => (hk _ hb).trans (hc i hi)⟩
theorem RdI.below {w w' : World} {B : Nat} {A : Option Addr} {zs : List Int} (h : RdI w B A zs) (hb : Below B w w') : RdI w' B A zs := h.keep fun _ hp => hb.cell hp
theorem RdI.more {w : World} {B B' : Nat} {A : Option Addr} {zs : List Int} (h : RdI w B A zs) (hB : B ≤ B') : RdI w B' A zs := fun hp => by
  obtain ⟨b, off, e, hb, hc⟩ := h hp
  exact ⟨b, off, e, by omega, hc⟩
theorem RdI.drewN {w : World} {B : Nat} {A : Option Addr} {zs : List Int} (h : RdI w B A zs) (n : Nat) : RdI (w.drewN n) B A zs := h
theorem RdI.nil (w : World) (B : Nat) (A : Option Addr) : RdI w B A [] := fun h => absurd h (by simp)
theorem below_drewN {B : Nat} {a w : World} (h : Below B a w) (n : Nat) : Below B a (w.drewN n) := ⟨h.os, h.tape, h.output, h.size, h.block⟩

/-- A slice of ints that came in, as the frame of a law hands it over. -/
theorem rdI_row {w : World} {x : Addr} {len cap : Nat} {zs : List Int} (hl : len ≤ cap) (hz : zs.length = cap) (hcell : ∀ i, i < zs.length → w.cell? (x.add i) = some (.int .i64 (zs.getD i 0)))
    (hwz : ∀ n ∈ zs, (Lit.int .i64 n).wf = true) : RdI w w.heap.size (some x) (zs.take len) ∧ (zs.take len).length = len := by
  have hlen : (zs.take len).length = len := by rw [List.length_take]; omega
  refine ⟨fun hp => ?_, hlen⟩
  rw [hlen] at hp ⊢
  obtain ⟨b, off, spot⟩ := x
  have hc := hcell 0 (by omega)
  have hspot : spot = none := by simpa [Addr.add] using World.cell?_spot hc
  subst hspot
  refine ⟨b, off, rfl, World.block_lt_of_cell? w _ (by simpa [Addr.add] using hc), fun i hi => ?_⟩
  have h := hcell i (by omega)
  rw [show (⟨b, off, none⟩ : Addr).add i = ⟨b, off + i, none⟩ by unfold Addr.add; split <;> simp_all] at h
  rw [h]
  simp [hi]

/-- The slice with address A reads as the bytes bs, below block B. -/
def RdB (w : World) (B : Nat) (A : Option Addr) (bs : List Int) : Prop :=
  (∀ n ∈ bs, 0 ≤ n ∧ n ≤ 255) ∧ (0 < bs.length → ∃ b off, A = some ⟨b, off, none⟩ ∧ b < B ∧ ∀ i, i < bs.length → w.cell? ⟨b, off + i, none⟩ = some (.int .u8 (bs.getD i 0)))
theorem RdB.nil (w : World) (B : Nat) (A : Option Addr) : RdB w B A [] := ⟨by simp, fun h => absurd h (by simp)⟩
theorem RdB.keep {w w' : World} {B : Nat} {A : Option Addr} {zs : List Int} (h : RdB w B A zs) (hk : ∀ p : Addr, p.block < B → w'.cell? p = w.cell? p) : RdB w' B A zs := ⟨h.1, fun hp => by
  obtain ⟨b, off, e, hb, hc⟩ := h.2 hp
  exact ⟨b, off, e, hb, fun i hi => (hk _ hb).trans (hc i hi)⟩⟩
theorem RdB.below {w w' : World} {B : Nat} {A : Option Addr} {zs : List Int} (h : RdB w B A zs) (hb : Below B w w') : RdB w' B A zs := h.keep fun _ hp => hb.cell hp
theorem RdB.more {w : World} {B B' : Nat} {A : Option Addr} {zs : List Int} (h : RdB w B A zs) (hB : B ≤ B') : RdB w B' A zs := ⟨h.1, fun hp => by
  obtain ⟨b, off, e, hb, hc⟩ := h.2 hp
  exact ⟨b, off, e, by omega, hc⟩⟩
theorem RdB.x {w : World} {B : Nat} {A : Option Addr} {zs : List Int} (h : RdB w B A zs) {k : Nat} (hk : k < zs.length) :
    ∃ b off x, A = some ⟨b, off, none⟩ ∧ b < B ∧ Hid (zs.getD k 0 = x) ∧ 0 ≤ x ∧ x ≤ 255 ∧ w.cell? ⟨b, off + k, none⟩ = some (.int .u8 x) := by
  obtain ⟨b, off, e, hb, hc⟩ := h.2 (by omega)
  have hm : zs.getD k 0 ∈ zs := by simp [List.getD, List.getElem?_eq_getElem hk]
  exact ⟨b, off, _, e, hb, rfl, (h.1 _ hm).1, (h.1 _ hm).2, hc k hk⟩
/-- A slice of bytes that came in, as the frame of a law hands it over. -/
theorem rdB_row {w : World} {x : Addr} {len cap : Nat} {zs : List Int} (hl : len ≤ cap) (hz : zs.length = cap) (hcell : ∀ i, i < zs.length → w.cell? (x.add i) = some (.int .u8 (zs.getD i 0)))
    (hwz : ∀ n ∈ zs, (Lit.int .u8 n).wf = true) : RdB w w.heap.size (some x) (zs.take len) ∧ (zs.take len).length = len := by
  have hlen : (zs.take len).length = len := by rw [List.length_take]; omega
  refine ⟨⟨fun n hn => ?_, fun hp => ?_⟩, hlen⟩
  · have h := hwz n (List.mem_of_mem_take hn)
    simp [Lit.wf, IntKind.min, IntKind.max, IntKind.signed, IntKind.bits] at h
    omega
  rw [hlen] at hp ⊢
  obtain ⟨b, off, spot⟩ := x
  have hc := hcell 0 (by omega)
  have hspot : spot = none := by simpa [Addr.add] using World.cell?_spot hc
  subst hspot
  refine ⟨b, off, rfl, World.block_lt_of_cell? w _ (by simpa [Addr.add] using hc), fun i hi => ?_⟩
  have h := hcell i (by omega)
  rw [show (⟨b, off, none⟩ : Addr).add i = ⟨b, off + i, none⟩ by unfold Addr.add; split <;> simp_all] at h
  rw [h]
  simp [hi]

/-- What is kept from a drawn world on is kept from the world before the draws. -/
theorem below_from {a w : World} {n : Nat} (h : Below (a.drewN n).heap.size (a.drewN n) w) : Below a.heap.size a w := ⟨h.os, h.tape, h.output, h.size, h.block⟩

theorem ret_int {k : IntKind} {a b : Int} (h : a = b) : Ending.returned (.int k a) = .returned (.int k b) := by rw [h]
theorem ret_bool {a b : Bool} (h : a = b) : Ending.returned (.bool a) = .returned (.bool b) := by rw [h]

theorem intInfo : (Try.prog.info? 3).map (fun i => (i.zero, i.size, i.bytes)) = some (some (.int .i64 0), 1, 8) := by kernel_rfl

/-- inRange: a test of three numbers. -/
theorem inRange_any (n a b : Int) (w : World) :
    Calls Try.prog 63 #[.int .i64 n, .int .i64 a, .int .i64 b] w fun e w' => e = .returned (.bool (decide (a ≤ n) && decide (n ≤ b))) ∧ w = w' := by
  by_cases h1 : a ≤ n <;> by_cases h2 : n ≤ b
  all_goals
    go_enter Try.func63, Try.ntmps63
    go_wp2
    go_ret
    exact ⟨ret_bool (by simp [h1, h2]), rfl⟩

/-- toIntS: a copy in a new block. -/
def Copied (w : World) (zs : List Int) (e : Ending) (w' : World) : Prop :=
  ∃ b, e = .returned (.slice (some ⟨b, 0, none⟩) zs.length zs.length) ∧ w.heap.size ≤ b ∧ RdI w' w'.heap.size (some ⟨b, 0, none⟩) zs ∧ Below w.heap.size w w' ∧ w'.ownsRow w.heap.size 3 1 (.slice (some ⟨b, 0, none⟩) zs.length zs.length) zs.length (zs.map (Value.int .i64))
end Go.Proofs.Ytoohfipicmdohaa
namespace Go.Proofs.Ytoohfipicmdohaa
open Go.ChangeShapes Go.WideShapes Go.ChangeAt Go.RowKit
set_option linter.unusedVariables false

theorem made_ints (n : Nat) : (madeCells (Value.int .i64 0).cells (n * 1)).toList = List.replicate n (Value.int .i64 0) := by
  rw [Nat.mul_one]; exact toList_madeCells_one _ _

theorem rdI_of_own {w : World} {B b n cap : Nat} {zs : List Int} (h : w.ownsRow B 3 1 (.slice (some ⟨b, 0, none⟩) n cap) n (zs.map (Value.int .i64))) (hn : zs.length = n) : RdI w w.heap.size (some ⟨b, 0, none⟩) zs := fun _ =>
  ⟨b, 0, rfl, (h.lt b rfl).2, fun i hi => by
    rw [Nat.zero_add, h.cellAt i (by omega)]
    simp [List.getElem?_eq_getElem hi]⟩
end Go.Proofs.Ytoohfipicmdohaa
namespace Go.Proofs.Ytoohfipicmdohaa
open Go.ChangeShapes Go.WideShapes Go.ChangeAt Go.RowKit
set_option linter.unusedVariables false

def EqRel (n k : Nat) (zs zs' : List Int) : Prop := k ≤ n ∧ zs.take k = zs'.take k
theorem eqRel_step {n k : Nat} {zs zs' : List Int} (h : EqRel n k zs zs') (hn : zs.length = n) (hn' : zs'.length = n) (hk : k < n) (e : zs.getD k 0 = zs'.getD k 0) : EqRel n (k + 1) zs zs' := by
  refine ⟨hk, ?_⟩
  rw [List.take_succ_eq_append_getElem (by omega), List.take_succ_eq_append_getElem (by omega), h.2]
  have e1 : zs.getD k 0 = zs[k]'(by omega) := by simp [List.getD, List.getElem?_eq_getElem (show k < zs.length by omega)]
  have e2 : zs'.getD k 0 = zs'[k]'(by omega) := by simp [List.getD, List.getElem?_eq_getElem (show k < zs'.length by omega)]
  rw [e1, e2] at e
  rw [e]
theorem eqRel_no {k : Nat} {zs zs' : List Int} (e : ¬ zs.getD k 0 = zs'.getD k 0) : (zs == zs') = false := by
  rw [beq_eq_false_iff_ne]
  rintro rfl
  exact e rfl
theorem eqRel_end {n k : Nat} {zs zs' : List Int} (h : EqRel n k zs zs') (hn : zs.length = n) (hn' : zs'.length = n) (hk : n ≤ k) : (zs == zs') = true := by
  have := h.2
  rw [List.take_of_length_le (by omega), List.take_of_length_le (by omega)] at this
  rw [this]; simp

set_option maxHeartbeats 400000 in
theorem eqInt_any (A A' : Option Addr) (c c' n n' : Nat) (zs zs' : List Int) (w : World) (B B' : Nat) (hr : RdI w B A zs) (hn : zs.length = n) (hr' : RdI w B' A' zs') (hn' : zs'.length = n') (hb : n ≤ 1048576) :
    Calls Try.prog 38 #[.slice A n c, .slice A' n' c'] w fun e w' => e = .returned (.bool (zs == zs')) ∧ ∃ q, w' = w.drewN q := by
  by_cases hnn : n = n'
  · subst hnn
    have Hn := Lib.hid hn
    have Hn' := Lib.hid hn'
    clear hn hn'
    go_enter Try.func38, Try.ntmps38
    go_wp2
    go_loopw [5] (fun i wr => ∃ k : Nat, ∃ q, EqRel n k zs zs' ∧ i = .int .i64 k ∧ wr = w.drewN q) (fun i wr => n - (intOf i).toNat)
    case atStart => exact ⟨0, 0, ⟨Nat.zero_le _, rfl⟩, rfl, rfl⟩
    case round =>
      obtain ⟨k, q, hk, rfl, rfl⟩ := hrel
      by_cases hlt : k < n
      · obtain ⟨b, off, x, rfl, hbw, Hx, hc⟩ := hr.x (k := k) (by rw [Hn.out]; exact hlt)
        obtain ⟨b', off', y, rfl, hbw', Hy, hc'⟩ := hr'.x (k := k) (by rw [Hn'.out]; exact hlt)
        by_cases he : x = y
        · have hs := eqRel_step hk Hn.out Hn'.out hlt (Hx.out.trans (he.trans Hy.out.symm))
          subst he
          have hb1 : (x != x) = false := by simp
          have Hs := Lib.hid hs
          clear hs
          go_wp2
          go_quiet (fail)
          go_wp2
          go_roundw
          case rel => exact ⟨k + 1, _, Hs.out, by go_num, rfl⟩
          case measure => simp [intOf]; omega
        · have hs : (zs == zs') = false := eqRel_no (k := k) (by rw [Hx.out, Hy.out]; exact he)
          have hb1 : (x != y) = true := by rw [bne_iff_ne]; exact he
          have Hs := Lib.hid hs
          clear hs he
          go_wp2
          go_quiet (fail)
          go_wp2
          go_ret
          exact ⟨ret_bool Hs.out.symm, _, World.drewN_drewN _ _ _⟩
      · have hs := eqRel_end hk Hn.out Hn'.out (by omega)
        have Hs := Lib.hid hs
        clear hs
        go_wp2
        go_ret
        exact ⟨ret_bool Hs.out.symm, _, rfl⟩
  · have hs : (zs == zs') = false := by
      rw [beq_eq_false_iff_ne]
      rintro rfl
      omega
    have hb1 : ((n : Int) != (n' : Int)) = true := by rw [bne_iff_ne]; omega
    have Hs := Lib.hid hs
    clear hs hn hn' hnn
    go_enter Try.func38, Try.ntmps38
    go_wp2
    go_ret
    exact ⟨ret_bool Hs.out.symm, 0, rfl⟩
end Go.Proofs.Ytoohfipicmdohaa
namespace Go.Proofs.Ytoohfipicmdohaa
open Go.ChangeShapes Go.WideShapes Go.ChangeAt Go.RowKit
set_option linter.unusedVariables false

def gapI (a b : Int) : Int := if a - b < b - a then b - a else a - b
theorem gapI_nonneg (a b : Int) : 0 ≤ gapI a b := by unfold gapI; split <;> omega
theorem gapI_le {a b : Int} {M : Int} (h1 : -M ≤ a) (h2 : a ≤ M) (h3 : -M ≤ b) (h4 : b ≤ M) : gapI a b ≤ 2 * M := by unfold gapI; split <;> omega
theorem distance_any (a b : Int) (w : World) (h1 : -1000 ≤ a) (h2 : a ≤ 1000) (h3 : -1000 ≤ b) (h4 : b ≤ 1000) :
    Calls Try.prog 66 #[.int .i64 a, .int .i64 b] w fun e w' => e = .returned (.int .i64 (gapI a b)) ∧ w = w' := by
  go_enter Try.func66, Try.ntmps66
  go_wp2
  all_goals
    go_ret
    exact ⟨ret_int (by unfold gapI; split <;> omega), rfl⟩
theorem gap_any (a b : Int) (w : World) (h1 : -1000 ≤ a) (h2 : a ≤ 1000) (h3 : -1000 ≤ b) (h4 : b ≤ 1000) :
    Calls Try.prog 68 #[.int .i64 a, .int .i64 b] w fun e w' => e = .returned (.int .i64 (gapI a b)) ∧ w = w' := by
  go_enter Try.func68, Try.ntmps68
  go_wp2
  all_goals
    go_ret
    exact ⟨ret_int (by unfold gapI; split <;> omega), rfl⟩
end Go.Proofs.Ytoohfipicmdohaa
namespace Go.Proofs.Ytoohfipicmdohaa
open Go.ChangeShapes Go.WideShapes Go.ChangeAt Go.RowKit
set_option linter.unusedVariables false

/-- A quiet call inside a region that draws its order, whatever has been drawn before it. -/
theorem quiet_gen {P : Program} {f : FuncId} {args : Array Value} {W : World} {v : Value} {R : Nat → World}
    (h : Calls P f args W fun e w' => e = .returned v ∧ W = w') (hW : ∃ m, W = R m) : Calls P f args W fun e w'' => e = .returned v ∧ ∃ m, w'' = R m :=
  h.mono fun _ _ ⟨he, hm⟩ => ⟨he, by obtain ⟨m, e⟩ := hW; exact ⟨m, hm.symm.trans e⟩⟩
theorem inRange_yes (n a b : Int) (w : World) (h1 : a ≤ n) (h2 : n ≤ b) :
    Calls Try.prog 63 #[.int .i64 n, .int .i64 a, .int .i64 b] w fun e w' => e = .returned (.bool true) ∧ w = w' :=
  (inRange_any n a b w).mono fun _ _ ⟨he, hw⟩ => ⟨by rw [he]; simp [h1, h2], hw⟩
theorem inRange_no (n a b : Int) (w : World) (h : n < a ∨ b < n) :
    Calls Try.prog 63 #[.int .i64 n, .int .i64 a, .int .i64 b] w fun e w' => e = .returned (.bool false) ∧ w = w' :=
  (inRange_any n a b w).mono fun _ _ ⟨he, hw⟩ => ⟨by rw [he]; rcases h with h | h <;> simp <;> omega, hw⟩

end Go.Proofs.Ytoohfipicmdohaa
namespace Go.Proofs.Ytoohfipicmdohaa
open Go.ChangeShapes Go.WideShapes Go.ChangeAt Go.RowKit
set_option linter.unusedVariables false

/-- From a number on: none less than the one ahead, none over another number. -/
def okUp (u : Int) : Int → List Int → Bool
  | _, [] => true
  | a, x :: r => decide (a ≤ x) && (decide (x ≤ u) && okUp u x r)
theorem drop_cons {zs : List Int} {k : Nat} {x : Int} (hk : k < zs.length) (hx : zs.getD k 0 = x) : zs.drop k = x :: zs.drop (k + 1) := by
  rw [List.drop_eq_getElem_cons hk]
  have e1 : zs.getD k 0 = zs[k] := by simp [List.getD, List.getElem?_eq_getElem hk]
  rw [← hx, e1]
theorem okUp_step {u : Int} {zs : List Int} {k : Nat} {x a : Int} (hk : k < zs.length) (hx : zs.getD k 0 = x) (h : okUp u 0 zs = okUp u a (zs.drop k)) (h1 : a ≤ x) (h2 : x ≤ u) :
    okUp u 0 zs = okUp u x (zs.drop (k + 1)) := by
  rw [h, drop_cons hk hx]; simp [okUp, h1, h2]
theorem okUp_no {u : Int} {zs : List Int} {k : Nat} {x a : Int} (hk : k < zs.length) (hx : zs.getD k 0 = x) (h : okUp u 0 zs = okUp u a (zs.drop k)) (h1 : x < a ∨ u < x) :
    okUp u 0 zs = false := by
  rw [h, drop_cons hk hx]
  rcases h1 with h1 | h1
  · have : ¬ a ≤ x := by omega
    simp [okUp, this]
  · have : ¬ x ≤ u := by omega
    simp [okUp, this]
theorem okUp_end {u : Int} {zs : List Int} {k : Nat} {a : Int} (hk : zs.length ≤ k) (h : okUp u 0 zs = okUp u a (zs.drop k)) : okUp u 0 zs = true := by
  rw [h, List.drop_of_length_le hk]; rfl

set_option maxHeartbeats 400000 in
theorem inOrder_any (A : Option Addr) (c n : Nat) (zs : List Int) (u : Int) (w : World) (B : Nat) (hr : RdI w B A zs) (hn : zs.length = n) (hb : n ≤ 1152921504606846976) :
    Calls Try.prog 48 #[.slice A n c, .int .i64 u] w fun e w' => e = .returned (.bool (okUp u 0 zs)) ∧ w = w' := by
  have Hn := Lib.hid hn
  clear hn
  go_enter Try.func48, Try.ntmps48
  go_wp2
  go_loop [5, 10] (fun a i => ∃ k : Nat, ∃ y : Int, k ≤ n ∧ Hid (okUp u 0 zs = okUp u y (zs.drop k)) ∧ i = .int .i64 k ∧ a = .int .i64 y) (fun _ i => n - (intOf i).toNat)
  case atStart => exact ⟨0, 0, Nat.zero_le _, rfl, rfl, rfl⟩
  case round =>
    obtain ⟨k, y, hk, Ho, rfl, rfl⟩ := hrel
    by_cases hlt : k < n
    · obtain ⟨b, off, x, rfl, hbw, Hx, hc⟩ := hr.x (k := k) (by rw [Hn.out]; exact hlt)
      by_cases h1 : x < y ∨ u < x
      · have Hs := Lib.hid (okUp_no (by rw [Hn.out]; exact hlt) Hx.out Ho.out h1)
        rcases h1 with h1 | h1
        · go_wp2
          go_ret
          exact ⟨ret_bool Hs.out.symm, rfl⟩
        · by_cases h2 : x < y
          all_goals
            go_wp2
            go_ret
            exact ⟨ret_bool Hs.out.symm, rfl⟩
      · have h2 : y ≤ x := by omega
        have h3 : x ≤ u := by omega
        have Hs := Lib.hid (okUp_step (by rw [Hn.out]; exact hlt) Hx.out Ho.out h2 h3)
        go_wp2
        go_round
        case rel => exact ⟨k + 1, x, by omega, Hs, by go_num, rfl⟩
        case measure => simp [intOf]; omega
    · have Hs := Lib.hid (okUp_end (by rw [Hn.out]; omega) Ho.out)
      go_wp2
      go_ret
      exact ⟨ret_bool Hs.out.symm, rfl⟩
end Go.Proofs.Ytoohfipicmdohaa
namespace Go.Proofs.Ytoohfipicmdohaa
open Go.ChangeShapes Go.WideShapes Go.ChangeAt Go.RowKit
set_option linter.unusedVariables false
set_option maxRecDepth 4000

def gpS (a b : Nat) : Nat := (a - b) + (b - a)
theorem gpS_int (a b : Nat) : gapI (a : Int) (b : Int) = ((gpS a b : Nat) : Int) := by unfold gapI gpS; split <;> omega
theorem gpS_lt {a b n : Nat} (ha : a < n) (hb : b < n) : gpS a b < n := by unfold gpS; omega
/-- Places as ints. -/
def cI (ss : List Nat) : List Int := ss.map fun s : Nat => (s : Int)
theorem cI_length (ss : List Nat) : (cI ss).length = ss.length := by simp [cI]
theorem cI_getD {ss : List Nat} {k : Nat} : (cI ss).getD k 0 = ((ss.getD k 0 : Nat) : Int) := by
  unfold cI
  by_cases h : k < ss.length
  · simp [List.getD, h]
  · simp [List.getD, List.getElem?_eq_none (show ss.length ≤ k by omega)]
theorem cI_append (a b : List Nat) : cI (a ++ b) = cI a ++ cI b := by simp [cI]
theorem cI_inj : ∀ {a b : List Nat}, cI a = cI b → a = b
  | [], [], _ => rfl
  | [], _ :: _, h => by simp [cI] at h
  | _ :: _, [], h => by simp [cI] at h
  | x :: a, y :: b, h => by
    simp only [cI, List.map_cons, List.cons.injEq] at h
    have := cI_inj (a := a) (b := b) h.2
    rw [this, show x = y by omega]
theorem getDN_mem {ss : List Nat} {k : Nat} (h : k < ss.length) : ss.getD k 0 ∈ ss := by simp [List.getD, List.getElem?_eq_getElem h]

/-- How far the nearest shop is. -/
def nrS (ss : List Nat) (h : Nat) : Nat := ss.foldr (fun s m => min (gpS s h) m) 100
theorem nrS_cons (s : Nat) (ss : List Nat) (h : Nat) : nrS (s :: ss) h = min (gpS s h) (nrS ss h) := rfl
theorem nrS_le {h : Nat} : ∀ {ss : List Nat} {s : Nat}, s ∈ ss → nrS ss h ≤ gpS s h
  | [], _, hs => by cases hs
  | t :: r, s, hs => by
    rw [nrS_cons]
    rcases List.mem_cons.1 hs with rfl | hs
    · omega
    · have := nrS_le (h := h) hs; omega
theorem nrS_at {h n : Nat} (hn : n ≤ 9) (hh : h < n) : ∀ {ss : List Nat}, ss ≠ [] → (∀ s ∈ ss, s < n) → ∃ s ∈ ss, gpS s h = nrS ss h
  | [], h0, _ => absurd rfl h0
  | [t], _, hl => ⟨t, by simp, by rw [nrS_cons]; have := gpS_lt (hl t (by simp)) hh; show _ = min _ 100; omega⟩
  | t :: u :: r, _, hl => by
    obtain ⟨s, hs, e⟩ := nrS_at (ss := u :: r) hn hh (by simp) (fun s hs => hl s (by simp at hs ⊢; exact .inr hs))
    rw [nrS_cons]
    by_cases hc : gpS t h ≤ nrS (u :: r) h
    · exact ⟨t, by simp, by omega⟩
    · exact ⟨s, List.mem_cons_of_mem _ hs, by omega⟩
theorem nrS_perm {ss tt : List Nat} (p : ss.Perm tt) (h : Nat) : nrS ss h = nrS tt h := by
  induction p with
  | nil => rfl
  | cons x _ ih => rw [nrS_cons, nrS_cons, ih]
  | swap x y l => rw [nrS_cons, nrS_cons, nrS_cons, nrS_cons]; omega
  | trans _ _ a b => exact a.trans b
/-- How many are just so far. -/
def ctS (ss : List Nat) (h d : Nat) : Nat := ss.countP fun s => gpS s h == d
/-- The part of a house that a shop at a place has. -/
def ptS (ss : List Nat) (h s : Nat) : Nat := if gpS s h = nrS ss h then 12 / ctS ss h (nrS ss h) else 0
/-- The share of a shop at a place, of the first houses. -/
def shK (ss : List Nat) (s : Nat) : Nat → Nat
  | 0 => 0
  | h + 1 => shK ss s h + ptS ss h s
def shL (n : Nat) (ss : List Nat) : List Nat := ss.map fun s => shK ss s n
theorem ptS_perm {ss tt : List Nat} (p : ss.Perm tt) (h s : Nat) : ptS ss h s = ptS tt h s := by
  unfold ptS ctS
  rw [nrS_perm p, p.countP_eq]
theorem shK_perm {ss tt : List Nat} (p : ss.Perm tt) (s : Nat) : ∀ n, shK ss s n = shK tt s n
  | 0 => rfl
  | h + 1 => by simp only [shK]; rw [shK_perm p s h, ptS_perm p]
theorem ptS_le (ss : List Nat) (h s : Nat) : ptS ss h s ≤ 12 := by
  unfold ptS
  split
  · exact Nat.div_le_self _ _
  · omega
theorem shK_le (ss : List Nat) (s : Nat) : ∀ n, shK ss s n ≤ 12 * n
  | 0 => Nat.le_refl _
  | h + 1 => by have := shK_le ss s h; have := ptS_le ss h s; simp only [shK]; omega

/-- None less than the one ahead. -/
def ascS : Nat → List Nat → Bool
  | _, [] => true
  | a, s :: r => decide (a ≤ s) && ascS s r
structure Sh (n : Nat) (ss : List Nat) : Prop where
  n1 : 1 ≤ n
  n9 : n ≤ 9
  l1 : 1 ≤ ss.length
  l4 : ss.length ≤ 4
  lt : ∀ s ∈ ss, s < n
  asc : ascS 0 ss = true
theorem Sh.ne {n : Nat} {ss : List Nat} (h : Sh n ss) : ss ≠ [] := List.length_pos_iff.1 h.l1
theorem Sh.at_ {n : Nat} {ss : List Nat} (h : Sh n ss) {k : Nat} (hk : k < ss.length) : ss.getD k 0 < n := h.lt _ (getDN_mem hk)
theorem Sh.nr_lt {n : Nat} {ss : List Nat} (h : Sh n ss) {x : Nat} (hx : x < n) : nrS ss x < n := by
  obtain ⟨s, hs, e⟩ := nrS_at h.n9 hx h.ne h.lt
  rw [← e]; exact gpS_lt (h.lt _ hs) hx

/-- The test of a street with shops. -/
def vsh (n : Int) (zs : List Int) : Bool := decide (1 ≤ n) && decide (n ≤ 9) && (decide (1 ≤ zs.length) && decide (zs.length ≤ 4) && okUp (n - 1) 0 zs)
theorem okUp_nat {u : Int} : ∀ {zs : List Int} {a : Nat}, okUp u a zs = true → ∃ ss, zs = cI ss ∧ ascS a ss = true ∧ ∀ s ∈ ss, ((s : Nat) : Int) ≤ u
  | [], _, _ => ⟨[], rfl, rfl, by simp⟩
  | z :: r, a, h => by
    simp only [okUp, Bool.and_eq_true, decide_eq_true_eq] at h
    obtain ⟨s, rfl⟩ : ∃ s : Nat, z = s := ⟨z.toNat, by omega⟩
    obtain ⟨ss, rfl, h2, h3⟩ := okUp_nat (a := s) h.2.2
    refine ⟨s :: ss, rfl, ?_, ?_⟩
    · simp only [ascS, Bool.and_eq_true, decide_eq_true_eq]; exact ⟨by omega, h2⟩
    · intro t ht
      rcases List.mem_cons.1 ht with rfl | ht
      · exact h.2.1
      · exact h3 t ht
theorem okUp_of {u : Int} : ∀ {ss : List Nat} {a : Nat}, ascS a ss = true → (∀ s ∈ ss, ((s : Nat) : Int) ≤ u) → okUp u a (cI ss) = true
  | [], _, _, _ => rfl
  | s :: r, a, h, hl => by
    simp only [ascS, Bool.and_eq_true, decide_eq_true_eq] at h
    have ih := okUp_of (u := u) (a := s) h.2 (fun t ht => hl t (List.mem_cons_of_mem _ ht))
    have h1 := hl s (by simp)
    show (decide ((a : Int) ≤ (s : Int)) && (decide ((s : Int) ≤ u) && okUp u (s : Int) (cI r))) = true
    simp only [Bool.and_eq_true, decide_eq_true_eq]
    exact ⟨by omega, h1, ih⟩
theorem vsh_get {n : Int} {zs : List Int} (h : vsh n zs = true) : ∃ N ss, n = ((N : Nat) : Int) ∧ zs = cI ss ∧ Sh N ss := by
  simp only [vsh, Bool.and_eq_true, decide_eq_true_eq] at h
  obtain ⟨N, rfl⟩ : ∃ N : Nat, n = N := ⟨n.toNat, by omega⟩
  obtain ⟨ss, rfl, h2, h3⟩ := okUp_nat (a := 0) h.2.2
  rw [cI_length] at h
  exact ⟨N, ss, rfl, rfl, by omega, by omega, h.2.1.1, h.2.1.2, fun s hs => by have := h3 s hs; omega, h2⟩
theorem Sh.vsh {n : Nat} {ss : List Nat} (h : Sh n ss) : vsh (n : Int) (cI ss) = true := by
  have h1 := h.n1
  have h2 := h.n9
  have h3 := h.l1
  have h4 := h.l4
  have h5 := okUp_of (u := (n : Int) - 1) h.asc (fun s hs => by have := h.lt s hs; omega)
  simp only [Go.Proofs.Ytoohfipicmdohaa.vsh, Bool.and_eq_true, decide_eq_true_eq, cI_length]
  exact ⟨⟨by omega, by omega⟩, ⟨h3, h4⟩, h5⟩

/-- All lists of shops from a place on. -/
def lstS (n : Nat) : Nat → Nat → List (List Nat)
  | 0, _ => [[]]
  | k + 1, a => (List.range' a (n - a)).flatMap fun p => (lstS n k p).map (p :: ·)
theorem lstS_mem {n : Nat} : ∀ {k a : Nat} {ss : List Nat}, ss ∈ lstS n k a ↔ ss.length = k ∧ ascS a ss = true ∧ ∀ s ∈ ss, s < n
  | 0, a, ss => by
    simp only [lstS, List.mem_singleton]
    constructor
    · rintro rfl; exact ⟨rfl, rfl, by simp⟩
    · intro h; exact List.length_eq_zero_iff.1 h.1
  | k + 1, a, ss => by
    simp only [lstS, List.mem_flatMap, List.mem_map, List.mem_range'_1]
    constructor
    · rintro ⟨p, hp, r, hr, rfl⟩
      have ih := lstS_mem.1 hr
      refine ⟨by simp [ih.1], ?_, ?_⟩
      · simp only [ascS, Bool.and_eq_true, decide_eq_true_eq]; exact ⟨hp.1, ih.2.1⟩
      · intro s hs
        rcases List.mem_cons.1 hs with rfl | hs
        · omega
        · exact ih.2.2 s hs
    · rintro ⟨h1, h2, h3⟩
      match ss, h1, h2, h3 with
      | p :: r, h1, h2, h3 =>
        simp only [ascS, Bool.and_eq_true, decide_eq_true_eq] at h2
        have hp := h3 p (by simp)
        exact ⟨p, ⟨h2.1, by omega⟩, r, lstS_mem.2 ⟨by simpa using h1, h2.2, fun s hs => h3 s (List.mem_cons_of_mem _ hs)⟩, rfl⟩
/-- A test of all lists of shops. -/
def allS (chk : Nat → List Nat → Bool) : Bool := (List.range 10).all fun n => (List.range 4).all fun k => (lstS n (k + 1) 0).all fun ss => chk n ss
theorem Sh.all {chk : Nat → List Nat → Bool} {n : Nat} {ss : List Nat} (hs : Sh n ss) (h : allS chk = true) : chk n ss = true := by
  simp only [allS, List.all_eq_true, List.mem_range] at h
  have h1 := hs.l1
  have h4 := hs.l4
  exact h n (by have := hs.n9; omega) (ss.length - 1) (by omega) ss (lstS_mem.2 ⟨by omega, hs.asc, hs.lt⟩)

/-- Where one more shop goes in. -/
def kS : List Nat → Nat → Nat
  | [], _ => 0
  | s :: r, p => if s < p then kS r p + 1 else 0
theorem kS_le : ∀ (ss : List Nat) (p : Nat), kS ss p ≤ ss.length
  | [], _ => Nat.le_refl _
  | s :: r, p => by have := kS_le r p; simp only [kS]; split <;> simp <;> omega
def insS (ss : List Nat) (p : Nat) : List Nat := ss.take (kS ss p) ++ p :: ss.drop (kS ss p)
theorem insS_perm (ss : List Nat) (p : Nat) : (insS ss p).Perm (ss ++ [p]) := by
  unfold insS
  have h1 : (ss.take (kS ss p) ++ p :: ss.drop (kS ss p)).Perm (p :: (ss.take (kS ss p) ++ ss.drop (kS ss p))) := List.perm_middle
  rw [List.take_append_drop] at h1
  exact h1.trans (by simpa using (List.perm_append_comm (l₁ := [p]) (l₂ := ss)))
theorem insS_length (ss : List Nat) (p : Nat) : (insS ss p).length = ss.length + 1 := by rw [(insS_perm ss p).length_eq]; simp
theorem insS_at (ss : List Nat) (p : Nat) : (insS ss p).getD (kS ss p) 0 = p := by
  have := kS_le ss p
  unfold insS
  simp [List.getD, show min (kS ss p) ss.length = kS ss p by omega]
/-- The share of one more shop. -/
def adS (n : Nat) (ss : List Nat) (p : Nat) : Nat := shK (insS ss p) p n
theorem adS_end (n : Nat) (ss : List Nat) (p : Nat) : shK (ss ++ [p]) p n = adS n ss p := (shK_perm (insS_perm ss p) p n).symm
theorem adS_le (n : Nat) (ss : List Nat) (p : Nat) : adS n ss p ≤ 12 * n := shK_le _ _ _
/-- The first place with the greatest value. -/
def bpK (f : Nat → Nat) : Nat → Nat
  | 0 => 0
  | k + 1 => if f (bpK f k) < f k then k else bpK f k
theorem bpK_lt (f : Nat → Nat) : ∀ {k : Nat}, 0 < k → bpK f k < k
  | 1, _ => by simp [bpK]
  | k + 2, _ => by have := bpK_lt f (k := k + 1) (by omega); rw [bpK]; split <;> omega
theorem bpK_max (f : Nat → Nat) : ∀ {k p : Nat}, p < k → f p ≤ f (bpK f k)
  | k + 1, p, h => by
    rw [bpK]
    by_cases e : p = k
    · subst e; split <;> omega
    · have := bpK_max f (k := k) (p := p) (by omega); split <;> omega
theorem bpK_one (f : Nat → Nat) : bpK f 1 = 0 := by simp [bpK]
def bpS (n : Nat) (ss : List Nat) : Nat := bpK (adS n ss) n
theorem bpS_lt {n : Nat} (ss : List Nat) (h : 1 ≤ n) : bpS n ss < n := bpK_lt _ h

/-- The others. -/
def otS (ss : List Nat) (i : Nat) : List Nat := ss.take i ++ ss.drop (i + 1)
theorem otS_length {ss : List Nat} {i : Nat} (h : i < ss.length) : (otS ss i).length = ss.length - 1 := by unfold otS; simp; omega
def rstI (n : Nat) (ss : List Nat) (i : Nat) : Bool := (List.range n).all fun p => decide (adS n (otS ss i) p ≤ shK ss (ss.getD i 0) n)
theorem rstI_best {n : Nat} (ss : List Nat) (i : Nat) (h : 1 ≤ n) : rstI n ss i = decide (adS n (otS ss i) (bpS n (otS ss i)) ≤ shK ss (ss.getD i 0) n) := by
  rw [Bool.eq_iff_iff]
  simp only [rstI, List.all_eq_true, List.mem_range, decide_eq_true_eq]
  constructor
  · intro hp; exact hp _ (bpS_lt _ h)
  · intro hm p hp; exact Nat.le_trans (bpK_max _ hp) hm
def rstS (n : Nat) (ss : List Nat) : Bool := (List.range ss.length).all (rstI n ss)
theorem rstS_no {n : Nat} {ss : List Nat} {i : Nat} (hi : i < ss.length) (h : rstI n ss i = false) : rstS n ss = false := by
  rw [Bool.eq_false_iff]
  intro hc
  simp only [rstS, List.all_eq_true, List.mem_range] at hc
  rw [hc i hi] at h
  cases h
theorem rstS_yes {n : Nat} {ss : List Nat} (h : ∀ i, i < ss.length → rstI n ss i = true) : rstS n ss = true := by
  simp only [rstS, List.all_eq_true, List.mem_range]; exact h
def rsS (n k : Nat) : List (List Nat) := (lstS n k 0).filter (rstS n)
end Go.Proofs.Ytoohfipicmdohaa
namespace Go.Proofs.Ytoohfipicmdohaa
open Go.ChangeShapes Go.WideShapes Go.ChangeAt Go.RowKit
set_option linter.unusedVariables false
set_option maxRecDepth 4000

def revS (n : Nat) (ss : List Nat) : List Nat := ss.reverse.map fun s => n - 1 - s
theorem revS_length (n : Nat) (ss : List Nat) : (revS n ss).length = ss.length := by simp [revS]
def chkA (n : Nat) (ss : List Nat) : Bool := ascS 0 (revS n ss) && ((shL n ss).sum == 12 * n) && (shL n (revS n ss) == (shL n ss).reverse)
def chkB (n : Nat) (ss : List Nat) : Bool := ss.length == 4 || (List.range n).all fun p => ascS 0 (insS ss p) && decide (0 < adS n ss p)
def chkC (n : Nat) (ss : List Nat) : Bool := ss.length == 1 || (List.range ss.length).all fun i => ascS 0 (otS ss i)
def chkD (n : Nat) (ss : List Nat) : Bool := decide (ss.length < 2) || ((decide (ss.length ≠ 2) || (rstS n ss == (decide ((n - 1) / 2 ≤ ss.getD 0 0) && decide (ss.getD 1 0 ≤ n / 2)))) && (rstS n (revS n ss) == rstS n ss))
theorem allA : allS chkA = true := by decide +kernel
theorem allB : allS chkB = true := by decide +kernel
theorem allC : allS chkC = true := by decide +kernel
theorem allD : allS chkD = true := by decide +kernel

/-- A row ahead of another one as long. -/
def lsS : List Nat → List Nat → Bool
  | a :: r, b :: t => if a = b then lsS r t else decide (a < b)
  | _, _ => false
def chnS : List (List Nat) → Bool
  | a :: b :: r => lsS a b && chnS (b :: r)
  | _ => true
def chkR (n k : Nat) : Bool := chnS (rsS n k) && (decide (k ≠ 2) || ((rsS n k).length == 3 - 2 * (n % 2))) && (decide (k ≠ 3) || decide (n < 4) || (rsS n k).all fun l => l.getD 0 0 != l.getD 2 0)
theorem allR : ((List.range 9).all fun n => (List.range 3).all fun k => chkR (n + 1) (k + 2)) = true := by decide +kernel
/-- One shop, and two at one place. -/
theorem alone_all : ((List.range 10).all fun n => (List.range n).all fun p => (shL n [p] == [12 * n]) && (shL n [p, p] == [6 * n, 6 * n])) = true := by decide +kernel
end Go.Proofs.Ytoohfipicmdohaa
namespace Go.Proofs.Ytoohfipicmdohaa
open Go.ChangeShapes Go.WideShapes Go.ChangeAt Go.RowKit
set_option linter.unusedVariables false
set_option maxRecDepth 4000

theorem Sh.rev {n : Nat} {ss : List Nat} (h : Sh n ss) : Sh n (revS n ss) := by
  have ha := h.all allA
  simp only [chkA, Bool.and_eq_true] at ha
  have h1 := h.n1
  refine ⟨h.n1, h.n9, by rw [revS_length]; exact h.l1, by rw [revS_length]; exact h.l4, ?_, ha.1.1⟩
  intro s hs
  simp only [revS, List.mem_map] at hs
  obtain ⟨t, -, rfl⟩ := hs
  omega
theorem Sh.total {n : Nat} {ss : List Nat} (h : Sh n ss) : (shL n ss).sum = 12 * n := by
  have ha := h.all allA
  simp only [chkA, Bool.and_eq_true, beq_iff_eq] at ha
  exact ha.1.2
theorem Sh.turned {n : Nat} {ss : List Nat} (h : Sh n ss) : shL n (revS n ss) = (shL n ss).reverse := by
  have ha := h.all allA
  simp only [chkA, Bool.and_eq_true, beq_iff_eq] at ha
  exact ha.2
theorem Sh.ins {n : Nat} {ss : List Nat} (h : Sh n ss) (h4 : ss.length ≠ 4) {p : Nat} (hp : p < n) : Sh n (insS ss p) ∧ 0 < adS n ss p := by
  have hb := h.all allB
  simp only [chkB, Bool.or_eq_true, beq_iff_eq, h4, false_or, List.all_eq_true, List.mem_range, Bool.and_eq_true, decide_eq_true_eq] at hb
  have hl := h.l4
  have hl1 := h.l1
  refine ⟨⟨h.n1, h.n9, by rw [insS_length]; omega, by rw [insS_length]; omega, ?_, (hb p hp).1⟩, (hb p hp).2⟩
  intro s hs
  have := (insS_perm ss p).mem_iff.1 hs
  rcases List.mem_append.1 this with h1 | h1
  · exact h.lt s h1
  · rw [List.mem_singleton.1 h1]; exact hp
theorem Sh.others {n : Nat} {ss : List Nat} (h : Sh n ss) (h2 : 2 ≤ ss.length) {i : Nat} (hi : i < ss.length) : Sh n (otS ss i) := by
  have hc := h.all allC
  simp only [chkC, Bool.or_eq_true, beq_iff_eq, List.all_eq_true, List.mem_range] at hc
  rcases hc with hc | hc
  · omega
  have hl := h.l4
  refine ⟨h.n1, h.n9, by rw [otS_length hi]; omega, by rw [otS_length hi]; omega, ?_, hc i hi⟩
  intro s hs
  rcases List.mem_append.1 hs with h1 | h1
  · exact h.lt s (List.mem_of_mem_take h1)
  · exact h.lt s (List.mem_of_mem_drop h1)
theorem Sh.rest_two {n : Nat} {ss : List Nat} (h : Sh n ss) (h2 : ss.length = 2) : rstS n ss = (decide ((n - 1) / 2 ≤ ss.getD 0 0) && decide (ss.getD 1 0 ≤ n / 2)) := by
  have hd := h.all allD
  simp only [chkD, Bool.or_eq_true, decide_eq_true_eq, Bool.and_eq_true, beq_iff_eq] at hd
  rcases hd with hd | ⟨hd | hd, -⟩
  · omega
  · exact absurd h2 hd
  · exact hd
theorem Sh.rest_rev {n : Nat} {ss : List Nat} (h : Sh n ss) (h2 : 2 ≤ ss.length) : rstS n (revS n ss) = rstS n ss := by
  have hd := h.all allD
  simp only [chkD, Bool.or_eq_true, decide_eq_true_eq, Bool.and_eq_true, beq_iff_eq] at hd
  rcases hd with hd | hd
  · omega
  · exact hd.2

theorem chnS_get : ∀ {L : List (List Nat)} {i : Nat}, chnS L = true → i + 1 < L.length → lsS (L.getD i []) (L.getD (i + 1) []) = true
  | [], i, _, h => by simp at h
  | [a], i, _, h => by simp at h
  | a :: b :: r, 0, hc, _ => by simp only [chnS, Bool.and_eq_true] at hc; exact hc.1
  | a :: b :: r, i + 1, hc, h => by
    simp only [chnS, Bool.and_eq_true] at hc
    have := chnS_get (L := b :: r) (i := i) hc.2 (by simpa using h)
    simpa [List.getD] using this
theorem chkR_at {n k : Nat} (h1 : 1 ≤ n) (h9 : n ≤ 9) (h2 : 2 ≤ k) (h4 : k ≤ 4) : chkR n k = true := by
  have h := allR
  simp only [List.all_eq_true, List.mem_range] at h
  have := h (n - 1) (by omega) (k - 2) (by omega)
  rwa [show n - 1 + 1 = n by omega, show k - 2 + 2 = k by omega] at this
theorem rsS_chain {n k : Nat} (h1 : 1 ≤ n) (h9 : n ≤ 9) (h2 : 2 ≤ k) (h4 : k ≤ 4) {i : Nat} (hi : i + 1 < (rsS n k).length) : lsS ((rsS n k).getD i []) ((rsS n k).getD (i + 1) []) = true := by
  have h := chkR_at h1 h9 h2 h4
  simp only [chkR, Bool.and_eq_true] at h
  exact chnS_get h.1.1 hi
theorem rsS_two {n : Nat} (h1 : 1 ≤ n) (h9 : n ≤ 9) : (rsS n 2).length = 3 - 2 * (n % 2) := by
  have h := chkR_at h1 h9 (k := 2) (by omega) (by omega)
  simp only [chkR, Bool.and_eq_true, Bool.or_eq_true, beq_iff_eq, decide_eq_true_eq] at h
  simpa using h.1.2
theorem rsS_three {n : Nat} (h1 : 4 ≤ n) (h9 : n ≤ 9) {l : List Nat} (hl : l ∈ rsS n 3) : l.getD 0 0 ≠ l.getD 2 0 := by
  have h := chkR_at (by omega) h9 (k := 3) (by omega) (by omega)
  simp only [chkR, Bool.and_eq_true, Bool.or_eq_true, decide_eq_true_eq, List.all_eq_true, bne_iff_ne] at h
  rcases h.2 with h3 | h3
  · omega
  · exact h3 l hl
theorem rsS_mem {n k : Nat} (h1 : 1 ≤ n) (h9 : n ≤ 9) (h2 : 2 ≤ k) (h4 : k ≤ 4) {l : List Nat} (hl : l ∈ rsS n k) : Sh n l ∧ l.length = k ∧ rstS n l = true := by
  simp only [rsS, List.mem_filter] at hl
  have hm := lstS_mem.1 hl.1
  exact ⟨⟨h1, h9, by omega, by omega, hm.2.2, hm.2.1⟩, hm.1, hl.2⟩
theorem alone_at {n p : Nat} (h9 : n ≤ 9) (hp : p < n) : shL n [p] = [12 * n] ∧ shL n [p, p] = [6 * n, 6 * n] := by
  have h := alone_all
  simp only [List.all_eq_true, List.mem_range, Bool.and_eq_true, beq_iff_eq] at h
  exact h n (by omega) p hp
theorem sh_one {n p : Nat} (h9 : n ≤ 9) (hp : p < n) : Sh n [p] := ⟨by omega, h9, by simp, by simp, by simpa using hp, by simp [ascS]⟩
theorem sh_same {n p : Nat} (h9 : n ≤ 9) (hp : p < n) : Sh n [p, p] := ⟨by omega, h9, by simp, by simp, by simpa using hp, by simp [ascS]⟩
end Go.Proofs.Ytoohfipicmdohaa
namespace Go.Proofs.Ytoohfipicmdohaa
open Go.ChangeShapes Go.WideShapes Go.ChangeAt Go.RowKit
set_option linter.unusedVariables false
set_option maxRecDepth 4000

theorem belowd {a w : World} (h : Below a.drew.heap.size a.drew w) : Below a.heap.size a w := ⟨h.os, h.tape, h.output, h.size, h.block⟩

/-- The first k numbers are there, then zeros. -/
def fillL (zs : List Int) (k : Nat) : List Value := (zs.take k).map (Value.int .i64) ++ List.replicate (zs.length - k) (Value.int .i64 0)
theorem fill_step {w : World} {B b n cap sz k : Nat} {t : TypeId} {zs : List Int} (hk : k < zs.length)
    (hown : w.ownsRow B t sz (.slice (some ⟨b, 0, none⟩) n cap) n (fillL zs k)) :
    (w.setCell ⟨b, k, none⟩ (Value.int .i64 (zs.getD k 0))).ownsRow B t sz (.slice (some ⟨b, 0, none⟩) n cap) n (fillL zs (k + 1)) := by
  have h := hown.stored k (Value.int .i64 (zs.getD k 0))
  have e : (fillL zs k).set k (Value.int .i64 (zs.getD k 0)) = fillL zs (k + 1) := by
    unfold fillL
    have hl : ((zs.take k).map (Value.int .i64)).length = k := by simp; omega
    rw [List.set_append_right _ _ (by omega), hl, Nat.sub_self]
    have hr : List.replicate (zs.length - k) (Value.int .i64 0) = Value.int .i64 0 :: List.replicate (zs.length - (k + 1)) (Value.int .i64 0) := by
      rw [show zs.length - k = (zs.length - (k + 1)) + 1 by omega]; rfl
    rw [hr, List.set_cons_zero, List.take_succ_eq_append_getElem (by omega), List.map_append]
    have hg : zs.getD k 0 = zs[k]'(by omega) := by simp [List.getD, List.getElem?_eq_getElem (show k < zs.length by omega)]
    rw [hg]; simp
  rw [e] at h
  exact h.1
theorem fillL_len (zs : List Int) {k : Nat} (hk : k ≤ zs.length) : (fillL zs k).length = zs.length := by unfold fillL; simp; omega
theorem fillL_all (zs : List Int) {k : Nat} (hk : zs.length ≤ k) : fillL zs k = zs.map (Value.int .i64) := by
  unfold fillL
  rw [List.take_of_length_le hk, show zs.length - k = 0 by omega]; simp
theorem rdI_of_ownN {w : World} {B b n cap sz : Nat} {t : TypeId} {zs : List Int} (h : w.ownsRow B t sz (.slice (some ⟨b, 0, none⟩) n cap) n (zs.map (Value.int .i64))) (hn : zs.length = n * sz) : RdI w w.heap.size (some ⟨b, 0, none⟩) zs := fun _ =>
  ⟨b, 0, rfl, (h.lt b rfl).2, fun i hi => by
    rw [Nat.zero_add, h.cellAt i (by omega)]
    simp [List.getElem?_eq_getElem hi]⟩
theorem ownN_below {w w' : World} {B s n : Nat} {e : TypeId} {v : Value} {xs : List Value} (h : w.ownsRow B e s v n xs) (hb : Below w.heap.size w w') : w'.ownsRow B e s v n xs := by
  refine ⟨h.1, ?_⟩
  rcases h.2 with h0 | ⟨g, cap, cur, h1, h2, hg, h3⟩
  · exact .inl h0
  · exact .inr ⟨g, cap, cur, h1, h2, (hb.block g (Array.getElem?_eq_some_iff.1 hg).1).trans hg, h3⟩
theorem own_sliceN {w : World} {B n sz : Nat} {t : TypeId} {v : Value} {xs : List Value} (h : w.ownsRow B t sz v n xs) : ∃ A c, v = .slice A n c ∧ n ≤ c ∧ c ≤ 9223372036854775807 ∧ (0 < n → ∃ g, A = some ⟨g, 0, none⟩ ∧ B ≤ g ∧ g < w.heap.size) := by
  have h0 := h
  rcases h.2 with ⟨rfl, rfl⟩ | ⟨g, cap, cur, rfl, _, _, hnc, hmx, _⟩
  · exact ⟨none, 0, rfl, Nat.le_refl _, by omega, fun hp => by omega⟩
  · exact ⟨_, cap, rfl, hnc, hmx, fun _ => ⟨g, rfl, h0.lt g rfl⟩⟩
theorem addr_add0 {b k : Nat} : (⟨b, 0, none⟩ : Addr).add k = ⟨b, k, none⟩ := by unfold Addr.add; split <;> simp_all
theorem own_cell {w : World} {B b n cap sz : Nat} {t : TypeId} {xs : List Value} (h : w.ownsRow B t sz (.slice (some ⟨b, 0, none⟩) n cap) n xs) {j : Nat} (hj : j < n * sz) (hl : xs.length = n * sz) : ∃ v, w.cell? ⟨b, j, none⟩ = some v := by
  rw [h.cellAt j hj]
  exact ⟨_, List.getElem?_eq_getElem (by omega)⟩
theorem gb_trans {R : Nat} {a b c : World} {row : Option Nat} (h : a.grownBy b (some R)) (k : b.grownBy c row) (hr : row = some R ∨ ∀ g, row = some g → a.heap.size ≤ g) : a.grownBy c (some R) :=
  ⟨k.os.trans h.os, k.tape.trans h.tape, k.output.trans h.output, Nat.le_trans h.size k.size, fun i hi hne => (k.block i (Nat.lt_of_lt_of_le hi h.size) (by
    rcases hr with hr | hr
    · rw [hr]; exact hne
    · intro e; have := hr i e.symm; omega)).trans (h.block i hi hne)⟩
theorem gb_below {R B : Nat} {a b : World} (h : a.grownBy b (some R)) (hB : B ≤ R) (hR : R ≤ a.heap.size) : Below B a b :=
  ⟨h.os, h.tape, h.output, h.size, fun i hi => h.block i (by omega) (by intro e; injection e with e; omega)⟩
theorem size_alloc1 (w : World) (o : Obj) : (w.alloc o).heap.size = w.heap.size + 1 := by show (w.heap.push o).size = _; simp
theorem grown_node {W w1 : World} {row : Option Nat} {Q : Nat} {o : Obj} (hg : W.grownBy w1 row) (hh : W.heap[Q]? = some o) (hne : row ≠ some Q) : w1.heap[Q]? = some o :=
  (hg.block Q (Array.getElem?_eq_some_iff.1 hh).1 (fun e => hne e.symm)).trans hh
theorem frozen_of_row (w : World) (g j : Nat) (cs : Array Value) (t : TypeId) (hh : w.heap[g]? = some (.cells cs t (0, 0))) : w.frozen? ⟨g, j, none⟩ = false := by simp [World.frozen?, hh]
theorem own_heap {w : World} {B s n : Nat} {e : TypeId} {v : Value} {xs : List Value} (h : w.ownsRow B e s v n xs) {g : Nat} (hg : v.ownBlock = some g) : (∃ cs, w.heap[g]? = some (.cells cs e (0, 0))) ∧ B ≤ g ∧ g < w.heap.size := by
  have hl := h.lt g hg
  rcases h.2 with ⟨rfl, _⟩ | ⟨g', cap, cur, rfl, h2, hb, h3⟩
  · simp [Value.ownBlock] at hg
  · have e : g' = g := by simpa [Value.ownBlock] using hg
    subst e
    exact ⟨⟨cur, hb⟩, hl⟩
theorem types_apart {w : World} {g g' : Nat} {cs cs' : Array Value} {ty ty' : TypeId} {fz fz' : Nat × Nat} (h : w.heap[g]? = some (.cells cs ty fz)) (h' : w.heap[g']? = some (.cells cs' ty' fz')) (hne : ty ≠ ty') : g ≠ g' := by
  rintro rfl
  rw [h] at h'
  injection h' with h'
  injection h' with _ e _
  exact hne e
theorem grown_refl (w : World) (row : Option Nat) : w.grownBy w row := ⟨rfl, rfl, rfl, Nat.le_refl _, fun _ _ _ => rfl⟩
theorem grown_trans {R : Nat} {a b c : World} (h : a.grownBy b (some R)) (k : b.grownBy c (some R)) : a.grownBy c (some R) := gb_trans h k (.inl rfl)
theorem own_blockN {w : World} {B b n : Nat} {t : TypeId} {xs : List Value} (h : w.ownsRow B t 1 (.slice (some ⟨b, 0, none⟩) n n) n xs) : w.heap[b]? = some (.cells xs.toArray t (0, 0)) := by
  rcases h.2 with ⟨h', _⟩ | ⟨g, cap, cur, h', _, hb, _, _, hs, ht⟩
  · simp at h'
  · injection h' with h1 h2 h3
    injection h1 with h1
    injection h1 with h1
    subst h1 h3
    rw [hb]
    congr 2
    rw [← ht]
    rw [List.take_of_length_le (by rw [Array.length_toList, hs]; omega)]
def upd {α : Type} (f : Nat → α) (r : Nat) (v : α) : Nat → α := fun i => if i = r then v else f i
theorem upd_at {α : Type} (f : Nat → α) (r : Nat) (v : α) : upd f r v r = v := if_pos rfl
theorem upd_other {α : Type} (f : Nat → α) {r i : Nat} (v : α) (h : i ≠ r) : upd f r v i = f i := if_neg h
/-- Rows of ints, each in a block of its own, from block B on. -/
structure TT (w : World) (B m : Nat) (VR : Nat → Value) (ls : Nat → List Int) : Prop where
  own : ∀ j, j < m → w.ownsRow B 3 1 (VR j) (ls j).length ((ls j).map (Value.int .i64))
  dis : ∀ i j g, i < m → j < m → (VR i).ownBlock = some g → (VR j).ownBlock = some g → i = j
theorem TT.below {w w' : World} {B m : Nat} {VR : Nat → Value} {ls : Nat → List Int} (h : TT w B m VR ls) (hb : Below w.heap.size w w') : TT w' B m VR ls :=
  ⟨fun j hj => ownN_below (h.own j hj) hb, h.dis⟩
theorem TT.congr {w : World} {B m : Nat} {VR : Nat → Value} {ls ls' : Nat → List Int} (h : TT w B m VR ls) (he : ∀ j, j < m → ls j = ls' j) : TT w B m VR ls' :=
  ⟨fun j hj => by rw [← he j hj]; exact h.own j hj, h.dis⟩
theorem TT.append {w W w2 : World} {B m r g2 l2 c2 : Nat} {d : Int} {VR : Nat → Value} {ls : Nat → List Int} (h : TT w B m VR ls) (hr : r < m) (hW : Below w.heap.size w W) (hg : W.grownBy w2 (VR r).ownBlock)
    (hown : w2.ownsRow B 3 1 (.slice (some ⟨g2, 0, none⟩) l2 c2) l2 ((ls r).map (Value.int .i64) ++ [Value.int .i64 d])) (hl2 : l2 = (ls r).length + 1) (hat : (VR r).ownBlock = some g2 ∨ g2 = W.heap.size) :
    TT w2 B m (upd VR r (.slice (some ⟨g2, 0, none⟩) l2 c2)) (upd ls r (ls r ++ [d])) := by
  have hTW := h.below hW
  have hlt : ∀ {i g}, i < m → (VR i).ownBlock = some g → g < w.heap.size := fun hi e => (own_heap (h.own _ hi) e).2.2
  constructor
  · intro j hj
    by_cases e : j = r
    · subst e
      rw [upd_at, upd_at]
      simp only [List.length_append, List.length_cons, List.length_nil, Nat.zero_add, ← hl2, List.map_append, List.map_cons, List.map_nil]
      exact hown
    · rw [upd_other _ _ e, upd_other _ _ e]
      exact (hTW.own j hj).kept hg (by
        rcases e' : (VR j).ownBlock with _ | g
        · exact .inl rfl
        · right; intro e2; exact e (h.dis j r g hj hr e' e2.symm))
  · intro i j g hi hj h1 h2
    have hs := hW.size
    by_cases e1 : i = r <;> by_cases e2 : j = r
    · omega
    · subst e1
      rw [upd_at] at h1; rw [upd_other _ _ e2] at h2
      have : g2 = g := by simpa [Value.ownBlock] using h1
      subst this
      rcases hat with ha | ha
      · exact h.dis i j _ hr hj ha h2
      · have := hlt hj h2; omega
    · subst e2
      rw [upd_at] at h2; rw [upd_other _ _ e1] at h1
      have : g2 = g := by simpa [Value.ownBlock] using h2
      subst this
      rcases hat with ha | ha
      · exact h.dis i j _ hi hr h1 ha
      · have := hlt hi h1; omega
    · rw [upd_other _ _ e1] at h1; rw [upd_other _ _ e2] at h2
      exact h.dis i j g hi hj h1 h2
theorem TT.store {w : World} {B m g k : Nat} {VR : Nat → Value} {ls : Nat → List Int} {v : Value} {cs : Array Value} {ty : TypeId} (h : TT w B m VR ls) (hc : w.heap[g]? = some (.cells cs ty (0, 0))) (hne : ty ≠ 3) : TT (w.setCell ⟨g, k, none⟩ v) B m VR ls :=
  ⟨fun j hj => ownsRow_setCell_other (h.own j hj) (fun e => by
    obtain ⟨⟨cs', hc'⟩, _⟩ := own_heap (h.own j hj) e
    exact types_apart hc hc' hne rfl) _, h.dis⟩
theorem TT.add {w : World} {B m : Nat} {VR : Nat → Value} {ls : Nat → List Int} (h : TT w B m VR ls) (hB : B ≤ w.heap.size) : TT (w.alloc (.cells #[] 3)) B (m + 1) (upd VR m (.slice (some ⟨w.heap.size, 0, none⟩) 0 0)) (upd ls m []) := by
  have hb := (Below.refl w.heap.size w).alloc (Nat.le_refl _) (.cells #[] 3)
  constructor
  · intro j hj
    by_cases e : j = m
    · subst e
      rw [upd_at, upd_at]
      exact World.ownsRow_lit w #[] 0 hB (by decide) rfl
    · rw [upd_other _ _ e, upd_other _ _ e]
      exact ownN_below (h.own j (by omega)) hb
  · intro i j g hi hj h1 h2
    by_cases e1 : i = m <;> by_cases e2 : j = m
    · omega
    · rw [e1, upd_at] at h1; rw [upd_other _ _ e2] at h2
      have : w.heap.size = g := by simpa [Value.ownBlock] using h1
      have := (own_heap (h.own j (by omega)) h2).2.2; omega
    · rw [e2, upd_at] at h2; rw [upd_other _ _ e1] at h1
      have : w.heap.size = g := by simpa [Value.ownBlock] using h2
      have := (own_heap (h.own i (by omega)) h1).2.2; omega
    · rw [upd_other _ _ e1] at h1; rw [upd_other _ _ e2] at h2
      exact h.dis i j g (by omega) (by omega) h1 h2
/-- The rows' outer slice. -/
def Outer (w : World) (B n : Nat) (v : Value) (VR : Nat → Value) : Prop := w.ownsRow B 23 1 v n ((List.range n).map VR)
theorem Outer.kept {w W w2 : World} {B n m r : Nat} {v : Value} {VR VR' : Nat → Value} {ls : Nat → List Int} (h : Outer w B n v VR) (ht : TT w B m VR' ls) (hr : r < m) (hW : Below w.heap.size w W) (hg : W.grownBy w2 (VR' r).ownBlock) : Outer w2 B n v VR :=
  (ownN_below h hW).kept hg (by
    rcases e : v.ownBlock with _ | g
    · exact .inl rfl
    · right
      intro e2
      obtain ⟨⟨cs, hc⟩, _⟩ := own_heap h e
      obtain ⟨⟨cs', hc'⟩, _⟩ := own_heap (ht.own r hr) e2.symm
      exact types_apart hc hc' (by decide) rfl)
theorem Outer.congr {w : World} {B n : Nat} {v : Value} {VR VR' : Nat → Value} (h : Outer w B n v VR) (he : ∀ j, j < n → VR j = VR' j) : Outer w B n v VR' := by
  unfold Outer at h ⊢
  rw [← List.map_congr_left (f := VR) fun i hi => he i (List.mem_range.1 hi)]; exact h
theorem Outer.cell {w : World} {B n g c : Nat} {VR : Nat → Value} (h : Outer w B n (.slice (some ⟨g, 0, none⟩) n c) VR) {j : Nat} (hj : j < n) : w.cell? ⟨g, j, none⟩ = some (VR j) := by
  rw [World.ownsRow.cellAt h j (by omega)]
  simp [hj]
theorem Outer.stored {w : World} {B n g c k : Nat} {VR : Nat → Value} {v : Value} (h : Outer w B n (.slice (some ⟨g, 0, none⟩) n c) VR) (hk : k < n) : Outer (w.setCell ⟨g, k, none⟩ v) B n (.slice (some ⟨g, 0, none⟩) n c) (upd VR k v) := by
  have h1 := (World.ownsRow.stored h k v).1
  unfold Outer
  have e : ((List.range n).map VR).set k v = (List.range n).map (upd VR k v) := by
    apply List.ext_getElem?
    intro i
    rw [List.getElem?_set]
    by_cases hi : i < n
    · by_cases e : k = i
      · subst e; simp [hi, upd_at]
      · simp [hi, e, upd_other VR v (fun h => e h.symm)]
    · simp [hi]; omega
  rw [← e]; exact h1
theorem TT.drewN {w : World} {B m : Nat} {VR : Nat → Value} {ls : Nat → List Int} (h : TT w B m VR ls) (q : Nat) : TT (w.drewN q) B m VR ls := ⟨fun j hj => h.own j hj, h.dis⟩
theorem Outer.drewN {w : World} {B n : Nat} {v : Value} {VR : Nat → Value} (h : Outer w B n v VR) (q : Nat) : Outer (w.drewN q) B n v VR := h
/-- A row's cells. -/
theorem TT.cells {w : World} {B m : Nat} {VR : Nat → Value} {ls : Nat → List Int} (h : TT w B m VR ls) {j k : Nat} (hj : j < m) (hk : k < (ls j).length) :
    ∃ g c, VR j = .slice (some ⟨g, 0, none⟩) (ls j).length c ∧ w.cell? ⟨g, k, none⟩ = some (.int .i64 ((ls j).getD k 0)) := by
  obtain ⟨A, c, e, _, _, h3⟩ := own_sliceN (h.own j hj)
  obtain ⟨g, rfl, _⟩ := h3 (by omega)
  have h1 := h.own j hj
  rw [e] at h1
  refine ⟨g, c, e, ?_⟩
  rw [h1.cellAt k (by omega)]
  simp [List.getElem?_eq_getElem hk]
theorem TT.keptBy {w w' : World} {B m : Nat} {VR : Nat → Value} {ls : Nat → List Int} {row : Option Nat} (h : TT w B m VR ls) (hg : w.grownBy w' row) (hr : ∀ g, row = some g → ∃ cs ty, w.heap[g]? = some (.cells cs ty (0, 0)) ∧ ty ≠ 3) : TT w' B m VR ls :=
  ⟨fun j hj => (h.own j hj).kept hg (by
    rcases e : (VR j).ownBlock with _ | g
    · exact .inl rfl
    · right
      intro e'
      obtain ⟨cs, ty, hc, hne⟩ := hr g e'.symm
      obtain ⟨⟨cs', hc'⟩, _⟩ := own_heap (h.own j hj) e
      exact types_apart hc hc' hne rfl), h.dis⟩
theorem slInfo2 : (Try.prog.info? 23).map (fun i => (i.zero, i.size, i.bytes)) = some (some (.slice none 0 0), 1, 24) := by kernel_rfl
theorem Outer.below {w w' : World} {B n : Nat} {v : Value} {VR : Nat → Value} (h : Outer w B n v VR) (hb : Below w.heap.size w w') : Outer w' B n v VR := ownN_below h hb
theorem Outer.keptRow {w w' : World} {B n b : Nat} {v : Value} {VR : Nat → Value} {cs : Array Value} {ty : TypeId} (h : Outer w B n v VR) (hg : w.grownBy w' (some b)) (hc : w.heap[b]? = some (.cells cs ty (0, 0))) (hne : ty ≠ 23) : Outer w' B n v VR :=
  World.ownsRow.kept h hg (by
    rcases e : v.ownBlock with _ | g
    · exact .inl rfl
    · right
      intro e2
      injection e2 with e2
      subst e2
      obtain ⟨⟨cs', hc'⟩, _⟩ := own_heap h e
      exact types_apart hc hc' hne rfl)
/-- A row of a table, as it is read. -/
theorem TT.row {w : World} {B m : Nat} {VR : Nat → Value} {ls : Nat → List Int} (h : TT w B m VR ls) {j : Nat} (hj : j < m) : ∃ A c, VR j = .slice A (ls j).length c ∧ RdI w w.heap.size A (ls j) := by
  have h1 := h.own j hj
  obtain ⟨A, c, e, _, _, h3⟩ := own_sliceN h1
  refine ⟨A, c, e, fun hp => ?_⟩
  obtain ⟨g, rfl, _, _⟩ := h3 hp
  rw [e] at h1
  exact rdI_of_own h1 rfl hp
end Go.Proofs.Ytoohfipicmdohaa
