/-
  Words and small contracts that all proofs of this seat use: a slice that reads as a list of ints; copies of slices and their comparison.
  Conditions: none beyond what each theorem states.
  Words for rows of ints that a call makes.
  Conditions: none beyond what each theorem states.
  Whether a number is in a range, and calls inside a region that draws its order.
  Conditions: none beyond what each theorem states.
  inOrderUpTo: whether places are in 0..last, none less than the one ahead of it.
  Conditions: fewer than 2^60 numbers.
  The copy of a slice of ints and the comparison of two slices, walked.
  Conditions: the slice is shorter than 2^20 elements.
  ValidHomes: the program and the model answer the same: at most ten numbers in 0..50, none less than the one ahead of it.
  Conditions: fewer than 2^60 numbers.
  The model's validHomes answers the same test.
  Conditions: fewer than 2^60 numbers.
  Small steps that the exact laws share.
  Conditions: none beyond what each theorem states.
-/
import Derived.Test.YtoohfipicmdohacRows
import Derived.WalkKit
import Derived.ProofKit
import Derived.OpenShut
import Derived.ChangeOld
import Derived.Below
import Derived.RegionTactic
import Derived.ChangeAlike
import Derived.Deep.QuietTactic
import Derived.BigQuiet
import Derived.Lib.Hide
import Derived.IntWalk
import Derived.Outline
import Derived.Laws.Rows
import Derived.Laws.OwnMore
import Derived.Deep.Draws
import Derived.BigRegion
namespace Go.Proofs.Ytoohfipicmdohac
open Go.ChangeShapes Go.WideShapes Go.ChangeAt Go.RowKit
set_option linter.unusedVariables false

/-- The slice with address A reads as the ints zs, below block B. -/
def RdI (w : World) (B : Nat) (A : Option Addr) (zs : List Int) : Prop :=
  0 < zs.length → ∃ b off, A = some ⟨b, off, none⟩ ∧ b < B ∧ ∀ i, i < zs.length → w.cell? ⟨b, off + i, none⟩ = some (.int .i64 (zs.getD i 0))

theorem RdI.at_ {w : World} {B : Nat} {A : Option Addr} {zs : List Int} (h : RdI w B A zs) {k : Nat} (hk : k < zs.length) :
    ∃ b off, A = some ⟨b, off, none⟩ ∧ b < B ∧ w.cell? ⟨b, off + k, none⟩ = some (.int .i64 (zs.getD k 0)) := by
  obtain ⟨b, off, e, hb, hc⟩ := h (by omega)
  exact ⟨b, off, e, hb, hc k hk⟩
/-- The same, the number under a name of its own, its value hidden from the walk. -/
theorem RdI.x {w : World} {B : Nat} {A : Option Addr} {zs : List Int} (h : RdI w B A zs) {k : Nat} (hk : k < zs.length) :
    ∃ b off x, A = some ⟨b, off, none⟩ ∧ b < B ∧ Hid (zs.getD k 0 = x) ∧ w.cell? ⟨b, off + k, none⟩ = some (.int .i64 x) := by
  obtain ⟨b, off, e, hb, hc⟩ := h (by omega)
  exact ⟨b, off, _, e, hb, rfl, hc k hk⟩
theorem RdI.keep {w w' : World} {B : Nat} {A : Option Addr} {zs : List Int} (h : RdI w B A zs) (hk : ∀ p : Addr, p.block < B → w'.cell? p = w.cell? p) : RdI w' B A zs := fun hp => by
  obtain ⟨b, off, e, hb, hc⟩ := h hp
  exact ⟨b, off, e, hb, fun i hi => (hk _ hb).trans (hc i hi)⟩
theorem RdI.below {w w' : World} {B : Nat} {A : Option Addr} {zs : List Int} (h : RdI w B A zs) (hb : Below B w w') : RdI w' B A zs := h.keep fun _ hp => hb.cell hp
theorem RdI.more {w : World} {B B' : Nat} {A : Option Addr} {zs : List Int} (h : RdI w B A zs) (hB : B ≤ B') : RdI w B' A zs := fun hp => by
  obtain ⟨b, off, e, hb, hc⟩ := h hp
  exact ⟨b, off, e, by omega, hc⟩
theorem RdI.drewN {w : World} {B : Nat} {A : Option Addr} {zs : List Int} (h : RdI w B A zs) (n : Nat) : RdI (w.drewN n) B A zs := h
theorem RdI.nil (w : World) (B : Nat) (A : Option Addr) : RdI w B A [] := fun h => absurd h (by simp)
theorem below_drewN {B : Nat} {a w : World} (h : Below B a w) (n : Nat) : Below B a (w.drewN n) := ⟨h.os, h.tape, h.output, h.size, h.block⟩

/-- A slice of ints that came in, as the frame of a law hands it over. -/
theorem rdI_row {w : World} {x : Addr} {len cap : Nat} {zs : List Int} (hl : len ≤ cap) (hz : zs.length = cap) (hcell : ∀ i, i < zs.length → w.cell? (x.add i) = some (.int .i64 (zs.getD i 0)))
    (hwz : ∀ n ∈ zs, (Lit.int .i64 n).wf = true) : RdI w w.heap.size (some x) (zs.take len) ∧ (zs.take len).length = len := by
  have hlen : (zs.take len).length = len := by rw [List.length_take]; omega
  refine ⟨fun hp => ?_, hlen⟩
  rw [hlen] at hp ⊢
  obtain ⟨b, off, spot⟩ := x
  have hc := hcell 0 (by omega)
  have hspot : spot = none := by simpa [Addr.add] using World.cell?_spot hc
  subst hspot
  refine ⟨b, off, rfl, World.block_lt_of_cell? w _ (by simpa [Addr.add] using hc), fun i hi => ?_⟩
  have h := hcell i (by omega)
  rw [show (⟨b, off, none⟩ : Addr).add i = ⟨b, off + i, none⟩ by unfold Addr.add; split <;> simp_all] at h
  rw [h]
  simp [hi]

/-- The slice with address A reads as the bytes bs, below block B. -/
def RdB (w : World) (B : Nat) (A : Option Addr) (bs : List Int) : Prop :=
  (∀ n ∈ bs, 0 ≤ n ∧ n ≤ 255) ∧ (0 < bs.length → ∃ b off, A = some ⟨b, off, none⟩ ∧ b < B ∧ ∀ i, i < bs.length → w.cell? ⟨b, off + i, none⟩ = some (.int .u8 (bs.getD i 0)))
theorem RdB.nil (w : World) (B : Nat) (A : Option Addr) : RdB w B A [] := ⟨by simp, fun h => absurd h (by simp)⟩
theorem RdB.keep {w w' : World} {B : Nat} {A : Option Addr} {zs : List Int} (h : RdB w B A zs) (hk : ∀ p : Addr, p.block < B → w'.cell? p = w.cell? p) : RdB w' B A zs := ⟨h.1, fun hp => by
  obtain ⟨b, off, e, hb, hc⟩ := h.2 hp
  exact ⟨b, off, e, hb, fun i hi => (hk _ hb).trans (hc i hi)⟩⟩
theorem RdB.below {w w' : World} {B : Nat} {A : Option Addr} {zs : List Int} (h : RdB w B A zs) (hb : Below B w w') : RdB w' B A zs := h.keep fun _ hp => hb.cell hp
theorem RdB.more {w : World} {B B' : Nat} {A : Option Addr} {zs : List Int} (h : RdB w B A zs) (hB : B ≤ B') : RdB w B' A zs := ⟨h.1, fun hp => by
  obtain ⟨b, off, e, hb, hc⟩ := h.2 hp
  exact ⟨b, off, e, by omega, hc⟩⟩
theorem RdB.x {w : World} {B : Nat} {A : Option Addr} {zs : List Int} (h : RdB w B A zs) {k : Nat} (hk : k < zs.length) :
    ∃ b off x, A = some ⟨b, off, none⟩ ∧ b < B ∧ Hid (zs.getD k 0 = x) ∧ 0 ≤ x ∧ x ≤ 255 ∧ w.cell? ⟨b, off + k, none⟩ = some (.int .u8 x) := by
  obtain ⟨b, off, e, hb, hc⟩ := h.2 (by omega)
  have hm : zs.getD k 0 ∈ zs := by simp [List.getD, List.getElem?_eq_getElem hk]
  exact ⟨b, off, _, e, hb, rfl, (h.1 _ hm).1, (h.1 _ hm).2, hc k hk⟩
/-- A slice of bytes that came in, as the frame of a law hands it over. -/
theorem rdB_row {w : World} {x : Addr} {len cap : Nat} {zs : List Int} (hl : len ≤ cap) (hz : zs.length = cap) (hcell : ∀ i, i < zs.length → w.cell? (x.add i) = some (.int .u8 (zs.getD i 0)))
    (hwz : ∀ n ∈ zs, (Lit.int .u8 n).wf = true) : RdB w w.heap.size (some x) (zs.take len) ∧ (zs.take len).length = len := by
  have hlen : (zs.take len).length = len := by rw [List.length_take]; omega
  refine ⟨⟨fun n hn => ?_, fun hp => ?_⟩, hlen⟩
  · have h := hwz n (List.mem_of_mem_take hn)
    simp [Lit.wf, IntKind.min, IntKind.max, IntKind.signed, IntKind.bits] at h
    omega
  rw [hlen] at hp ⊢
  obtain ⟨b, off, spot⟩ := x
  have hc := hcell 0 (by omega)
  have hspot : spot = none := by simpa [Addr.add] using World.cell?_spot hc
  subst hspot
  refine ⟨b, off, rfl, World.block_lt_of_cell? w _ (by simpa [Addr.add] using hc), fun i hi => ?_⟩
  have h := hcell i (by omega)
  rw [show (⟨b, off, none⟩ : Addr).add i = ⟨b, off + i, none⟩ by unfold Addr.add; split <;> simp_all] at h
  rw [h]
  simp [hi]

/-- What is kept from a drawn world on is kept from the world before the draws. -/
theorem below_from {a w : World} {n : Nat} (h : Below (a.drewN n).heap.size (a.drewN n) w) : Below a.heap.size a w := ⟨h.os, h.tape, h.output, h.size, h.block⟩

theorem ret_int {k : IntKind} {a b : Int} (h : a = b) : Ending.returned (.int k a) = .returned (.int k b) := by rw [h]
theorem ret_bool {a b : Bool} (h : a = b) : Ending.returned (.bool a) = .returned (.bool b) := by rw [h]

theorem intInfo : (Try.prog.info? 3).map (fun i => (i.zero, i.size, i.bytes)) = some (some (.int .i64 0), 1, 8) := by kernel_rfl

/-- inRange: a test of three numbers. -/
theorem inRange_any (n a b : Int) (w : World) :
    Calls Try.prog 41 #[.int .i64 n, .int .i64 a, .int .i64 b] w fun e w' => e = .returned (.bool (decide (a ≤ n) && decide (n ≤ b))) ∧ w = w' := by
  by_cases h1 : a ≤ n <;> by_cases h2 : n ≤ b
  all_goals
    go_enter Try.func41, Try.ntmps41
    go_wp2
    go_ret
    exact ⟨ret_bool (by simp [h1, h2]), rfl⟩

/-- toIntS: a copy in a new block. -/
def Copied (w : World) (zs : List Int) (e : Ending) (w' : World) : Prop :=
  ∃ b, e = .returned (.slice (some ⟨b, 0, none⟩) zs.length zs.length) ∧ w.heap.size ≤ b ∧ RdI w' w'.heap.size (some ⟨b, 0, none⟩) zs ∧ Below w.heap.size w w' ∧ w'.ownsRow w.heap.size 3 1 (.slice (some ⟨b, 0, none⟩) zs.length zs.length) zs.length (zs.map (Value.int .i64))
end Go.Proofs.Ytoohfipicmdohac
namespace Go.Proofs.Ytoohfipicmdohac
open Go.ChangeShapes Go.WideShapes Go.ChangeAt Go.RowKit
set_option linter.unusedVariables false

theorem made_ints (n : Nat) : (madeCells (Value.int .i64 0).cells (n * 1)).toList = List.replicate n (Value.int .i64 0) := by
  rw [Nat.mul_one]; exact toList_madeCells_one _ _

theorem rdI_of_own {w : World} {B b n cap : Nat} {zs : List Int} (h : w.ownsRow B 3 1 (.slice (some ⟨b, 0, none⟩) n cap) n (zs.map (Value.int .i64))) (hn : zs.length = n) : RdI w w.heap.size (some ⟨b, 0, none⟩) zs := fun _ =>
  ⟨b, 0, rfl, (h.lt b rfl).2, fun i hi => by
    rw [Nat.zero_add, h.cellAt i (by omega)]
    simp [List.getElem?_eq_getElem hi]⟩
end Go.Proofs.Ytoohfipicmdohac
namespace Go.Proofs.Ytoohfipicmdohac
open Go.ChangeShapes Go.WideShapes Go.ChangeAt Go.RowKit
set_option linter.unusedVariables false

/-- A quiet call inside a region that draws its order, whatever has been drawn before it. -/
theorem quiet_gen {P : Program} {f : FuncId} {args : Array Value} {W : World} {v : Value} {R : Nat → World}
    (h : Calls P f args W fun e w' => e = .returned v ∧ W = w') (hW : ∃ m, W = R m) : Calls P f args W fun e w'' => e = .returned v ∧ ∃ m, w'' = R m :=
  h.mono fun _ _ ⟨he, hm⟩ => ⟨he, by obtain ⟨m, e⟩ := hW; exact ⟨m, hm.symm.trans e⟩⟩
theorem inRange_yes (n a b : Int) (w : World) (h1 : a ≤ n) (h2 : n ≤ b) :
    Calls Try.prog 41 #[.int .i64 n, .int .i64 a, .int .i64 b] w fun e w' => e = .returned (.bool true) ∧ w = w' :=
  (inRange_any n a b w).mono fun _ _ ⟨he, hw⟩ => ⟨by rw [he]; simp [h1, h2], hw⟩
theorem inRange_no (n a b : Int) (w : World) (h : n < a ∨ b < n) :
    Calls Try.prog 41 #[.int .i64 n, .int .i64 a, .int .i64 b] w fun e w' => e = .returned (.bool false) ∧ w = w' :=
  (inRange_any n a b w).mono fun _ _ ⟨he, hw⟩ => ⟨by rw [he]; rcases h with h | h <;> simp <;> omega, hw⟩

end Go.Proofs.Ytoohfipicmdohac
namespace Go.Proofs.Ytoohfipicmdohac
open Go.ChangeShapes Go.WideShapes Go.ChangeAt Go.RowKit
set_option linter.unusedVariables false

/-- From a number on: none less than the one ahead, none over another number. -/
def okUp (u : Int) : Int → List Int → Bool
  | _, [] => true
  | a, x :: r => decide (a ≤ x) && (decide (x ≤ u) && okUp u x r)
theorem drop_cons {zs : List Int} {k : Nat} {x : Int} (hk : k < zs.length) (hx : zs.getD k 0 = x) : zs.drop k = x :: zs.drop (k + 1) := by
  rw [List.drop_eq_getElem_cons hk]
  have e1 : zs.getD k 0 = zs[k] := by simp [List.getD, List.getElem?_eq_getElem hk]
  rw [← hx, e1]
theorem okUp_step {u : Int} {zs : List Int} {k : Nat} {x a : Int} (hk : k < zs.length) (hx : zs.getD k 0 = x) (h : okUp u 0 zs = okUp u a (zs.drop k)) (h1 : a ≤ x) (h2 : x ≤ u) :
    okUp u 0 zs = okUp u x (zs.drop (k + 1)) := by
  rw [h, drop_cons hk hx]; simp [okUp, h1, h2]
theorem okUp_no {u : Int} {zs : List Int} {k : Nat} {x a : Int} (hk : k < zs.length) (hx : zs.getD k 0 = x) (h : okUp u 0 zs = okUp u a (zs.drop k)) (h1 : x < a ∨ u < x) :
    okUp u 0 zs = false := by
  rw [h, drop_cons hk hx]
  rcases h1 with h1 | h1
  · have : ¬ a ≤ x := by omega
    simp [okUp, this]
  · have : ¬ x ≤ u := by omega
    simp [okUp, this]
theorem okUp_end {u : Int} {zs : List Int} {k : Nat} {a : Int} (hk : zs.length ≤ k) (h : okUp u 0 zs = okUp u a (zs.drop k)) : okUp u 0 zs = true := by
  rw [h, List.drop_of_length_le hk]; rfl

set_option maxHeartbeats 400000 in
theorem inOrder_any (A : Option Addr) (c n : Nat) (zs : List Int) (u : Int) (w : World) (B : Nat) (hr : RdI w B A zs) (hn : zs.length = n) (hb : n ≤ 1152921504606846976) :
    Calls Try.prog 37 #[.slice A n c, .int .i64 u] w fun e w' => e = .returned (.bool (okUp u 0 zs)) ∧ w = w' := by
  have Hn := Lib.hid hn
  clear hn
  go_enter Try.func37, Try.ntmps37
  go_wp2
  go_loop [5, 10] (fun a i => ∃ k : Nat, ∃ y : Int, k ≤ n ∧ Hid (okUp u 0 zs = okUp u y (zs.drop k)) ∧ i = .int .i64 k ∧ a = .int .i64 y) (fun _ i => n - (intOf i).toNat)
  case atStart => exact ⟨0, 0, Nat.zero_le _, rfl, rfl, rfl⟩
  case round =>
    obtain ⟨k, y, hk, Ho, rfl, rfl⟩ := hrel
    by_cases hlt : k < n
    · obtain ⟨b, off, x, rfl, hbw, Hx, hc⟩ := hr.x (k := k) (by rw [Hn.out]; exact hlt)
      by_cases h1 : x < y ∨ u < x
      · have Hs := Lib.hid (okUp_no (by rw [Hn.out]; exact hlt) Hx.out Ho.out h1)
        rcases h1 with h1 | h1
        · go_wp2
          go_ret
          exact ⟨ret_bool Hs.out.symm, rfl⟩
        · by_cases h2 : x < y
          all_goals
            go_wp2
            go_ret
            exact ⟨ret_bool Hs.out.symm, rfl⟩
      · have h2 : y ≤ x := by omega
        have h3 : x ≤ u := by omega
        have Hs := Lib.hid (okUp_step (by rw [Hn.out]; exact hlt) Hx.out Ho.out h2 h3)
        go_wp2
        go_round
        case rel => exact ⟨k + 1, x, by omega, Hs, by go_num, rfl⟩
        case measure => simp [intOf]; omega
    · have Hs := Lib.hid (okUp_end (by rw [Hn.out]; omega) Ho.out)
      go_wp2
      go_ret
      exact ⟨ret_bool Hs.out.symm, rfl⟩
end Go.Proofs.Ytoohfipicmdohac
namespace Go.Proofs.Ytoohfipicmdohac
open Go.ChangeShapes Go.WideShapes Go.ChangeAt Go.RowKit
set_option linter.unusedVariables false

def EqRel (n k : Nat) (zs zs' : List Int) : Prop := k ≤ n ∧ zs.take k = zs'.take k
theorem eqRel_step {n k : Nat} {zs zs' : List Int} (h : EqRel n k zs zs') (hn : zs.length = n) (hn' : zs'.length = n) (hk : k < n) (e : zs.getD k 0 = zs'.getD k 0) : EqRel n (k + 1) zs zs' := by
  refine ⟨hk, ?_⟩
  rw [List.take_succ_eq_append_getElem (by omega), List.take_succ_eq_append_getElem (by omega), h.2]
  have e1 : zs.getD k 0 = zs[k]'(by omega) := by simp [List.getD, List.getElem?_eq_getElem (show k < zs.length by omega)]
  have e2 : zs'.getD k 0 = zs'[k]'(by omega) := by simp [List.getD, List.getElem?_eq_getElem (show k < zs'.length by omega)]
  rw [e1, e2] at e
  rw [e]
theorem eqRel_no {k : Nat} {zs zs' : List Int} (e : ¬ zs.getD k 0 = zs'.getD k 0) : (zs == zs') = false := by
  rw [beq_eq_false_iff_ne]
  rintro rfl
  exact e rfl
theorem eqRel_end {n k : Nat} {zs zs' : List Int} (h : EqRel n k zs zs') (hn : zs.length = n) (hn' : zs'.length = n) (hk : n ≤ k) : (zs == zs') = true := by
  have := h.2
  rw [List.take_of_length_le (by omega), List.take_of_length_le (by omega)] at this
  rw [this]; simp

set_option maxHeartbeats 400000 in
theorem eqInt_any (A A' : Option Addr) (c c' n n' : Nat) (zs zs' : List Int) (w : World) (B B' : Nat) (hr : RdI w B A zs) (hn : zs.length = n) (hr' : RdI w B' A' zs') (hn' : zs'.length = n') (hb : n ≤ 1048576) :
    Calls Try.prog 14 #[.slice A n c, .slice A' n' c'] w fun e w' => e = .returned (.bool (zs == zs')) ∧ ∃ q, w' = w.drewN q := by
  by_cases hnn : n = n'
  · subst hnn
    have Hn := Lib.hid hn
    have Hn' := Lib.hid hn'
    clear hn hn'
    go_enter Try.func14, Try.ntmps14
    go_wp2
    go_loopw [5] (fun i wr => ∃ k : Nat, ∃ q, EqRel n k zs zs' ∧ i = .int .i64 k ∧ wr = w.drewN q) (fun i wr => n - (intOf i).toNat)
    case atStart => exact ⟨0, 0, ⟨Nat.zero_le _, rfl⟩, rfl, rfl⟩
    case round =>
      obtain ⟨k, q, hk, rfl, rfl⟩ := hrel
      by_cases hlt : k < n
      · obtain ⟨b, off, x, rfl, hbw, Hx, hc⟩ := hr.x (k := k) (by rw [Hn.out]; exact hlt)
        obtain ⟨b', off', y, rfl, hbw', Hy, hc'⟩ := hr'.x (k := k) (by rw [Hn'.out]; exact hlt)
        by_cases he : x = y
        · have hs := eqRel_step hk Hn.out Hn'.out hlt (Hx.out.trans (he.trans Hy.out.symm))
          subst he
          have hb1 : (x != x) = false := by simp
          have Hs := Lib.hid hs
          clear hs
          go_wp2
          go_quiet (fail)
          go_wp2
          go_roundw
          case rel => exact ⟨k + 1, _, Hs.out, by go_num, rfl⟩
          case measure => simp [intOf]; omega
        · have hs : (zs == zs') = false := eqRel_no (k := k) (by rw [Hx.out, Hy.out]; exact he)
          have hb1 : (x != y) = true := by rw [bne_iff_ne]; exact he
          have Hs := Lib.hid hs
          clear hs he
          go_wp2
          go_quiet (fail)
          go_wp2
          go_ret
          exact ⟨ret_bool Hs.out.symm, _, World.drewN_drewN _ _ _⟩
      · have hs := eqRel_end hk Hn.out Hn'.out (by omega)
        have Hs := Lib.hid hs
        clear hs
        go_wp2
        go_ret
        exact ⟨ret_bool Hs.out.symm, _, rfl⟩
  · have hs : (zs == zs') = false := by
      rw [beq_eq_false_iff_ne]
      rintro rfl
      omega
    have hb1 : ((n : Int) != (n' : Int)) = true := by rw [bne_iff_ne]; omega
    have Hs := Lib.hid hs
    clear hs hn hn' hnn
    go_enter Try.func14, Try.ntmps14
    go_wp2
    go_ret
    exact ⟨ret_bool Hs.out.symm, 0, rfl⟩
end Go.Proofs.Ytoohfipicmdohac
namespace Go.Proofs.Ytoohfipicmdohac
open Go.ChangeShapes Go.WideShapes Go.ChangeAt Go.RowKit
set_option linter.unusedVariables false

/-- From a number on: none less than the one ahead, none over 50. -/
def okFrom (a : Int) : List Int → Bool
  | [] => true
  | x :: r => decide (a ≤ x) && (decide (x ≤ 50) && okFrom x r)
def vh (zs : List Int) : Bool := decide (zs.length ≤ 10) && okFrom 0 zs
theorem okFrom_step {zs : List Int} {k : Nat} {x a : Int} (hk : k < zs.length) (hx : zs.getD k 0 = x) (h : okFrom 0 zs = okFrom a (zs.drop k)) (h1 : a ≤ x) (h2 : x ≤ 50) :
    okFrom 0 zs = okFrom x (zs.drop (k + 1)) := by
  rw [h, drop_cons hk hx]; simp [okFrom, h1, h2]
theorem okFrom_no {zs : List Int} {k : Nat} {x a : Int} (hk : k < zs.length) (hx : zs.getD k 0 = x) (h : okFrom 0 zs = okFrom a (zs.drop k)) (h1 : x < a ∨ 50 < x) :
    vh zs = false := by
  unfold vh
  rw [h, drop_cons hk hx]
  rcases h1 with h1 | h1
  · have : ¬ a ≤ x := by omega
    simp [okFrom, this]
  · have : ¬ x ≤ 50 := by omega
    simp [okFrom, this]
theorem okFrom_end {zs : List Int} {k : Nat} {a : Int} (hk : zs.length ≤ k) (h : okFrom 0 zs = okFrom a (zs.drop k)) : okFrom 0 zs = true := by
  rw [h, List.drop_of_length_le hk]; rfl
theorem vh_long {zs : List Int} (h : 10 < zs.length) : vh zs = false := by unfold vh; simp; omega
theorem vh_short {zs : List Int} (h : zs.length ≤ 10) (h1 : okFrom 0 zs = true) : vh zs = true := by unfold vh; simp [h, h1]

theorem okUp_fifty : ∀ (zs : List Int) (a : Int), okUp 50 a zs = okFrom a zs
  | [], _ => rfl
  | x :: r, a => by simp only [okUp, okFrom]; rw [okUp_fifty r x]
theorem iValid_any (A : Option Addr) (c n : Nat) (zs : List Int) (w : World) (B : Nat) (hr : RdI w B A zs) (hn : zs.length = n) (hb : n ≤ 1152921504606846976) :
    Calls Try.prog 11 #[.slice A n c] w fun e w' => e = .returned (.bool (vh zs)) ∧ w = w' := by
  by_cases h10 : 10 < n
  · have Hs := Lib.hid (vh_long (zs := zs) (by omega))
    clear hn
    go_enter Try.func11, Try.ntmps11
    go_wp2
    go_ret
    exact ⟨ret_bool Hs.out.symm, rfl⟩
  · have H := Lib.hid (inOrder_any A c n zs 50 w B hr hn hb)
    have hs : vh zs = okUp 50 0 zs := by unfold vh; rw [okUp_fifty, hn]; simp; omega
    rw [hs]
    clear hn hs hr
    go_enter Try.func11, Try.ntmps11
    go_wp2_with fail
    refine H.out.mono ?_
    rintro e w' ⟨rfl, rfl⟩
    go_wp2
    go_ret
    exact ⟨ret_bool (by simp), rfl⟩
end Go.Proofs.Ytoohfipicmdohac
namespace Go.Proofs.Ytoohfipicmdohac
open Go.ChangeShapes Go.WideShapes Go.ChangeAt Go.RowKit
set_option linter.unusedVariables false

/-- The number ahead of place k, 0 for none. -/
def ahead (zs : List Int) (k : Nat) : Int := if k = 0 then 0 else zs.getD (k - 1) 0
theorem ahead_zero (zs : List Int) : ahead zs 0 = 0 := rfl
theorem ahead_succ (zs : List Int) (j : Nat) : ahead zs (j + 1) = zs.getD j 0 := by simp [ahead]

set_option maxHeartbeats 400000 in
theorem sValid_any (A : Option Addr) (c n : Nat) (zs : List Int) (w : World) (B : Nat) (hr : RdI w B A zs) (hn : zs.length = n) (hb : n ≤ 1152921504606846976) :
    Calls Try.prog 38 #[.slice A n c] w fun e w' => e = .returned (.bool (vh zs)) ∧ ∃ q, w' = w.drewN q := by
  have Hn := Lib.hid hn
  clear hn
  go_enter Try.func38, Try.ntmps38
  go_wp2
  go_loopw [3] (fun i wr => ∃ k : Nat, ∃ q, k ≤ n ∧ Hid (okFrom 0 zs = okFrom (ahead zs k) (zs.drop k)) ∧ Hid (0 ≤ ahead zs k) ∧ i = .int .i64 k ∧ wr = w.drewN q) (fun i _ => n - (intOf i).toNat)
  case atStart => exact ⟨0, 0, Nat.zero_le _, rfl, (by show (0 : Int) ≤ ahead zs 0; rw [ahead_zero]; omega), rfl, rfl⟩
  case round =>
    obtain ⟨k, q, hk, Ho, Hp, rfl, rfl⟩ := hrel
    by_cases hlt : k < n
    · obtain ⟨b, off, x, rfl, hbw, Hx, hc⟩ := hr.x (k := k) (by rw [Hn.out]; exact hlt)
      by_cases h1 : x < 0 ∨ 50 < x
      · have Hs := Lib.hid (okFrom_no (a := ahead zs k) (by rw [Hn.out]; exact hlt) Hx.out Ho.out (by have := Hp.out; omega))
        go_wp2
        go_quiet ((go_at_call 41; exact quiet_gen (inRange_no _ _ _ _ h1) ⟨_, rfl⟩))
        go_wp2
        go_ret
        exact ⟨ret_bool Hs.out.symm, _, World.drewN_drewN _ _ _⟩
      · have h2 : 0 ≤ x := by omega
        have h3 : x ≤ 50 := by omega
        clear h1
        rcases Nat.eq_zero_or_pos k with hk0 | hk0
        · subst hk0
          rw [Nat.add_zero] at hc
          have Hs := Lib.hid (okFrom_step (by rw [Hn.out]; exact hlt) Hx.out Ho.out (by rw [ahead_zero]; exact h2) h3)
          go_wp2
          go_quiet ((go_at_call 41; exact quiet_gen (inRange_yes _ _ _ _ h2 h3) ⟨_, rfl⟩))
          go_wp2
          go_roundw
          case rel => exact ⟨1, _, by omega, (by show okFrom 0 zs = okFrom (ahead zs (0 + 1)) (zs.drop 1); rw [ahead_succ, Hx.out]; exact Hs.out), (by show 0 ≤ ahead zs (0 + 1); rw [ahead_succ, Hx.out]; exact h2), rfl, rfl⟩
          case measure => simp [intOf]; omega
        · obtain ⟨j, rfl⟩ : ∃ j, k = j + 1 := ⟨k - 1, by omega⟩
          obtain ⟨b', off', y, he, _, Hy, hcy⟩ := hr.x (k := j) (by rw [Hn.out]; omega)
          injection he with he
          injection he with he1 he2
          subst he1 he2
          have Ha := ahead_succ zs j
          rw [Hy.out] at Ha
          by_cases hxy : x < y
          · have Hs := Lib.hid (okFrom_no (a := ahead zs (j + 1)) (by rw [Hn.out]; exact hlt) Hx.out Ho.out (by rw [Ha]; exact .inl hxy))
            clear Ha
            go_wp2
            go_quiet ((go_at_call 41; exact quiet_gen (inRange_yes _ _ _ _ h2 h3) ⟨_, rfl⟩))
            go_wp2
            go_ret
            exact ⟨ret_bool Hs.out.symm, _, World.drewN_drewN _ _ _⟩
          · have Hs := Lib.hid (okFrom_step (by rw [Hn.out]; exact hlt) Hx.out Ho.out (by rw [Ha]; omega) h3)
            clear Ha
            go_wp2
            go_quiet ((go_at_call 41; exact quiet_gen (inRange_yes _ _ _ _ h2 h3) ⟨_, rfl⟩))
            go_wp2
            go_roundw
            case rel => exact ⟨j + 2, _, by omega, (by show okFrom 0 zs = okFrom (ahead zs (j + 1 + 1)) (zs.drop (j + 1 + 1)); rw [ahead_succ, Hx.out]; exact Hs.out), (by show 0 ≤ ahead zs (j + 1 + 1); rw [ahead_succ, Hx.out]; exact h2), by go_num, rfl⟩
            case measure => simp [intOf]; omega
    · have Ho' := okFrom_end (by rw [Hn.out]; omega) Ho.out
      by_cases h10 : n ≤ 10
      · have Hs := Lib.hid (vh_short (by rw [Hn.out]; omega) Ho')
        clear Ho'
        go_wp2
        go_ret
        exact ⟨ret_bool (by rw [Hs.out]; simp; omega), _, rfl⟩
      · have Hs := Lib.hid (vh_long (zs := zs) (by rw [Hn.out]; omega))
        clear Ho'
        go_wp2
        go_ret
        exact ⟨ret_bool (by rw [Hs.out]; simp; omega), _, rfl⟩
end Go.Proofs.Ytoohfipicmdohac
namespace Go.Proofs.Ytoohfipicmdohac
open Go.ChangeShapes Go.WideShapes Go.ChangeAt Go.RowKit
set_option linter.unusedVariables false

theorem eqInt_same (A A' : Option Addr) (c c' n n' : Nat) (zs : List Int) (w : World) (B B' : Nat) (hr : RdI w B A zs) (hn : zs.length = n) (hr' : RdI w B' A' zs) (hn' : zs.length = n') (hb : n ≤ 1048576) :
    Calls Try.prog 14 #[.slice A n c, .slice A' n' c'] w fun e w' => e = .returned (.bool true) ∧ ∃ q, w' = w.drewN q :=
  (eqInt_any A A' c c' n n' zs zs w B B' hr hn hr' hn' hb).mono fun _ _ ⟨he, hw⟩ => ⟨by rw [he]; simp, hw⟩

/-- A contract whose call only draws, as one that keeps what is below. -/
theorem calls_drawn {P : Program} {f : FuncId} {args : Array Value} {w : World} {v : Value}
    (h : Calls P f args w fun e w' => e = .returned v ∧ ∃ q, w' = w.drewN q) : Calls P f args w fun e w' => e = .returned v ∧ Below w.heap.size w w' :=
  h.mono fun _ _ ⟨he, q, hq⟩ => ⟨he, by rw [hq]; exact below_drewN (Below.refl _ _) _⟩
theorem calls_same {P : Program} {f : FuncId} {args : Array Value} {w : World} {v : Value}
    (h : Calls P f args w fun e w' => e = .returned v ∧ w = w') : Calls P f args w fun e w' => e = .returned v ∧ Below w.heap.size w w' :=
  h.mono fun _ _ ⟨he, hq⟩ => ⟨he, by rw [← hq]; exact Below.refl _ _⟩
end Go.Proofs.Ytoohfipicmdohac
