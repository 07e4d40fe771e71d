/-
  Words and small contracts that all proofs of this seat use: a slice that reads as a list of ints; copies of slices and their comparison.
  Conditions: none beyond what each theorem states.
  Words for rows of ints that a call makes.
  Conditions: none beyond what each theorem states.
  The copy of a slice of ints and the comparison of two slices, walked.
  Conditions: the slice is shorter than 2^20 elements.
  Trees by parents: how far nodes are, who is behind a node, and that sums go over roads.
  Conditions: each node's road goes to a node ahead of it.
  Words for slices of roads: two cells an element, To and Long.
  Conditions: none beyond what each theorem states.
-/
import Derived.Test.YtkgomgfhhhdnjabRows
import Derived.WalkKit
import Derived.ProofKit
import Derived.OpenShut
import Derived.ChangeOld
import Derived.Below
import Derived.RegionTactic
import Derived.ChangeAlike
import Derived.Deep.QuietTactic
import Derived.BigQuiet
import Derived.Lib.Hide
import Derived.IntWalk
import Derived.Outline
import Derived.Laws.Rows
import Derived.Laws.OwnMore
import Derived.Deep.Draws
import Derived.BigRegion
namespace Go.Proofs.Ytkgomgfhhhdnjab
open Go.ChangeShapes Go.WideShapes Go.ChangeAt Go.RowKit
set_option linter.unusedVariables false

/-- The slice with address A reads as the ints zs, below block B. -/
def RdI (w : World) (B : Nat) (A : Option Addr) (zs : List Int) : Prop :=
  0 < zs.length → ∃ b off, A = some ⟨b, off, none⟩ ∧ b < B ∧ ∀ i, i < zs.length → w.cell? ⟨b, off + i, none⟩ = some (.int .i64 (zs.getD i 0))

theorem RdI.at_ {w : World} {B : Nat} {A : Option Addr} {zs : List Int} (h : RdI w B A zs) {k : Nat} (hk : k < zs.length) :
    ∃ b off, A = some ⟨b, off, none⟩ ∧ b < B ∧ w.cell? ⟨b, off + k, none⟩ = some (.int .i64 (zs.getD k 0)) := by
  obtain ⟨b, off, e, hb, hc⟩ := h (by omega)
  exact ⟨b, off, e, hb, hc k hk⟩
/-- The same, the number under a name of its own, its value hidden from the walk. -/
theorem RdI.x {w : World} {B : Nat} {A : Option Addr} {zs : List Int} (h : RdI w B A zs) {k : Nat} (hk : k < zs.length) :
    ∃ b off x, A = some ⟨b, off, none⟩ ∧ b < B ∧ Hid (zs.getD k 0 = x) ∧ w.cell? ⟨b, off + k, none⟩ = some (.int .i64 x) := by
  obtain ⟨b, off, e, hb, hc⟩ := h (by omega)
  exact ⟨b, off, _, e, hb, rfl, hc k hk⟩
theorem RdI.keep {w w' : World} {B : Nat} {A : Option Addr} {zs : List Int} (h : RdI w B A zs) (hk : ∀ p : Addr, p.block < B → w'.cell? p = w.cell? p) : RdI w' B A zs := fun hp => by
  obtain ⟨b, off, e, hb, hc⟩ := h hp
  exact ⟨b, off, e, hb, fun i hi => (hk _ hb).trans (hc i hi)⟩
theorem RdI.below {w w' : World} {B : Nat} {A : Option Addr} {zs : List Int} (h : RdI w B A zs) (hb : Below B w w') : RdI w' B A zs := h.keep fun _ hp => hb.cell hp
theorem RdI.more {w : World} {B B' : Nat} {A : Option Addr} {zs : List Int} (h : RdI w B A zs) (hB : B ≤ B') : RdI w B' A zs := fun hp => by
  obtain ⟨b, off, e, hb, hc⟩ := h hp
  exact ⟨b, off, e, by omega, hc⟩
theorem RdI.drewN {w : World} {B : Nat} {A : Option Addr} {zs : List Int} (h : RdI w B A zs) (n : Nat) : RdI (w.drewN n) B A zs := h
theorem RdI.nil (w : World) (B : Nat) (A : Option Addr) : RdI w B A [] := fun h => absurd h (by simp)
theorem below_drewN {B : Nat} {a w : World} (h : Below B a w) (n : Nat) : Below B a (w.drewN n) := ⟨h.os, h.tape, h.output, h.size, h.block⟩

/-- A slice of ints that came in, as the frame of a law hands it over. -/
theorem rdI_row {w : World} {x : Addr} {len cap : Nat} {zs : List Int} (hl : len ≤ cap) (hz : zs.length = cap) (hcell : ∀ i, i < zs.length → w.cell? (x.add i) = some (.int .i64 (zs.getD i 0)))
    (hwz : ∀ n ∈ zs, (Lit.int .i64 n).wf = true) : RdI w w.heap.size (some x) (zs.take len) ∧ (zs.take len).length = len := by
  have hlen : (zs.take len).length = len := by rw [List.length_take]; omega
  refine ⟨fun hp => ?_, hlen⟩
  rw [hlen] at hp ⊢
  obtain ⟨b, off, spot⟩ := x
  have hc := hcell 0 (by omega)
  have hspot : spot = none := by simpa [Addr.add] using World.cell?_spot hc
  subst hspot
  refine ⟨b, off, rfl, World.block_lt_of_cell? w _ (by simpa [Addr.add] using hc), fun i hi => ?_⟩
  have h := hcell i (by omega)
  rw [show (⟨b, off, none⟩ : Addr).add i = ⟨b, off + i, none⟩ by unfold Addr.add; split <;> simp_all] at h
  rw [h]
  simp [hi]

/-- The slice with address A reads as the bytes bs, below block B. -/
def RdB (w : World) (B : Nat) (A : Option Addr) (bs : List Int) : Prop :=
  (∀ n ∈ bs, 0 ≤ n ∧ n ≤ 255) ∧ (0 < bs.length → ∃ b off, A = some ⟨b, off, none⟩ ∧ b < B ∧ ∀ i, i < bs.length → w.cell? ⟨b, off + i, none⟩ = some (.int .u8 (bs.getD i 0)))
theorem RdB.nil (w : World) (B : Nat) (A : Option Addr) : RdB w B A [] := ⟨by simp, fun h => absurd h (by simp)⟩
theorem RdB.keep {w w' : World} {B : Nat} {A : Option Addr} {zs : List Int} (h : RdB w B A zs) (hk : ∀ p : Addr, p.block < B → w'.cell? p = w.cell? p) : RdB w' B A zs := ⟨h.1, fun hp => by
  obtain ⟨b, off, e, hb, hc⟩ := h.2 hp
  exact ⟨b, off, e, hb, fun i hi => (hk _ hb).trans (hc i hi)⟩⟩
theorem RdB.below {w w' : World} {B : Nat} {A : Option Addr} {zs : List Int} (h : RdB w B A zs) (hb : Below B w w') : RdB w' B A zs := h.keep fun _ hp => hb.cell hp
theorem RdB.more {w : World} {B B' : Nat} {A : Option Addr} {zs : List Int} (h : RdB w B A zs) (hB : B ≤ B') : RdB w B' A zs := ⟨h.1, fun hp => by
  obtain ⟨b, off, e, hb, hc⟩ := h.2 hp
  exact ⟨b, off, e, by omega, hc⟩⟩
theorem RdB.x {w : World} {B : Nat} {A : Option Addr} {zs : List Int} (h : RdB w B A zs) {k : Nat} (hk : k < zs.length) :
    ∃ b off x, A = some ⟨b, off, none⟩ ∧ b < B ∧ Hid (zs.getD k 0 = x) ∧ 0 ≤ x ∧ x ≤ 255 ∧ w.cell? ⟨b, off + k, none⟩ = some (.int .u8 x) := by
  obtain ⟨b, off, e, hb, hc⟩ := h.2 (by omega)
  have hm : zs.getD k 0 ∈ zs := by simp [List.getD, List.getElem?_eq_getElem hk]
  exact ⟨b, off, _, e, hb, rfl, (h.1 _ hm).1, (h.1 _ hm).2, hc k hk⟩
/-- A slice of bytes that came in, as the frame of a law hands it over. -/
theorem rdB_row {w : World} {x : Addr} {len cap : Nat} {zs : List Int} (hl : len ≤ cap) (hz : zs.length = cap) (hcell : ∀ i, i < zs.length → w.cell? (x.add i) = some (.int .u8 (zs.getD i 0)))
    (hwz : ∀ n ∈ zs, (Lit.int .u8 n).wf = true) : RdB w w.heap.size (some x) (zs.take len) ∧ (zs.take len).length = len := by
  have hlen : (zs.take len).length = len := by rw [List.length_take]; omega
  refine ⟨⟨fun n hn => ?_, fun hp => ?_⟩, hlen⟩
  · have h := hwz n (List.mem_of_mem_take hn)
    simp [Lit.wf, IntKind.min, IntKind.max, IntKind.signed, IntKind.bits] at h
    omega
  rw [hlen] at hp ⊢
  obtain ⟨b, off, spot⟩ := x
  have hc := hcell 0 (by omega)
  have hspot : spot = none := by simpa [Addr.add] using World.cell?_spot hc
  subst hspot
  refine ⟨b, off, rfl, World.block_lt_of_cell? w _ (by simpa [Addr.add] using hc), fun i hi => ?_⟩
  have h := hcell i (by omega)
  rw [show (⟨b, off, none⟩ : Addr).add i = ⟨b, off + i, none⟩ by unfold Addr.add; split <;> simp_all] at h
  rw [h]
  simp [hi]

/-- What is kept from a drawn world on is kept from the world before the draws. -/
theorem below_from {a w : World} {n : Nat} (h : Below (a.drewN n).heap.size (a.drewN n) w) : Below a.heap.size a w := ⟨h.os, h.tape, h.output, h.size, h.block⟩

theorem ret_int {k : IntKind} {a b : Int} (h : a = b) : Ending.returned (.int k a) = .returned (.int k b) := by rw [h]
theorem ret_bool {a b : Bool} (h : a = b) : Ending.returned (.bool a) = .returned (.bool b) := by rw [h]

theorem intInfo : (Try.prog.info? 3).map (fun i => (i.zero, i.size, i.bytes)) = some (some (.int .i64 0), 1, 8) := by kernel_rfl

/-- inRange: a test of three numbers. -/
theorem inRange_any (n a b : Int) (w : World) :
    Calls Try.prog 71 #[.int .i64 n, .int .i64 a, .int .i64 b] w fun e w' => e = .returned (.bool (decide (a ≤ n) && decide (n ≤ b))) ∧ w = w' := by
  by_cases h1 : a ≤ n <;> by_cases h2 : n ≤ b
  all_goals
    go_enter Try.func71, Try.ntmps71
    go_wp2
    go_ret
    exact ⟨ret_bool (by simp [h1, h2]), rfl⟩

/-- toIntS: a copy in a new block. -/
def Copied (w : World) (zs : List Int) (e : Ending) (w' : World) : Prop :=
  ∃ b, e = .returned (.slice (some ⟨b, 0, none⟩) zs.length zs.length) ∧ w.heap.size ≤ b ∧ RdI w' w'.heap.size (some ⟨b, 0, none⟩) zs ∧ Below w.heap.size w w' ∧ w'.ownsRow w.heap.size 3 1 (.slice (some ⟨b, 0, none⟩) zs.length zs.length) zs.length (zs.map (Value.int .i64))
end Go.Proofs.Ytkgomgfhhhdnjab
namespace Go.Proofs.Ytkgomgfhhhdnjab
open Go.ChangeShapes Go.WideShapes Go.ChangeAt Go.RowKit
set_option linter.unusedVariables false

theorem made_ints (n : Nat) : (madeCells (Value.int .i64 0).cells (n * 1)).toList = List.replicate n (Value.int .i64 0) := by
  rw [Nat.mul_one]; exact toList_madeCells_one _ _

theorem rdI_of_own {w : World} {B b n cap : Nat} {zs : List Int} (h : w.ownsRow B 3 1 (.slice (some ⟨b, 0, none⟩) n cap) n (zs.map (Value.int .i64))) (hn : zs.length = n) : RdI w w.heap.size (some ⟨b, 0, none⟩) zs := fun _ =>
  ⟨b, 0, rfl, (h.lt b rfl).2, fun i hi => by
    rw [Nat.zero_add, h.cellAt i (by omega)]
    simp [List.getElem?_eq_getElem hi]⟩
end Go.Proofs.Ytkgomgfhhhdnjab
namespace Go.Proofs.Ytkgomgfhhhdnjab
open Go.ChangeShapes Go.WideShapes Go.ChangeAt Go.RowKit
set_option linter.unusedVariables false

def EqRel (n k : Nat) (zs zs' : List Int) : Prop := k ≤ n ∧ zs.take k = zs'.take k
theorem eqRel_step {n k : Nat} {zs zs' : List Int} (h : EqRel n k zs zs') (hn : zs.length = n) (hn' : zs'.length = n) (hk : k < n) (e : zs.getD k 0 = zs'.getD k 0) : EqRel n (k + 1) zs zs' := by
  refine ⟨hk, ?_⟩
  rw [List.take_succ_eq_append_getElem (by omega), List.take_succ_eq_append_getElem (by omega), h.2]
  have e1 : zs.getD k 0 = zs[k]'(by omega) := by simp [List.getD, List.getElem?_eq_getElem (show k < zs.length by omega)]
  have e2 : zs'.getD k 0 = zs'[k]'(by omega) := by simp [List.getD, List.getElem?_eq_getElem (show k < zs'.length by omega)]
  rw [e1, e2] at e
  rw [e]
theorem eqRel_no {k : Nat} {zs zs' : List Int} (e : ¬ zs.getD k 0 = zs'.getD k 0) : (zs == zs') = false := by
  rw [beq_eq_false_iff_ne]
  rintro rfl
  exact e rfl
theorem eqRel_end {n k : Nat} {zs zs' : List Int} (h : EqRel n k zs zs') (hn : zs.length = n) (hn' : zs'.length = n) (hk : n ≤ k) : (zs == zs') = true := by
  have := h.2
  rw [List.take_of_length_le (by omega), List.take_of_length_le (by omega)] at this
  rw [this]; simp

set_option maxHeartbeats 400000 in
theorem eqInt_any (A A' : Option Addr) (c c' n n' : Nat) (zs zs' : List Int) (w : World) (B B' : Nat) (hr : RdI w B A zs) (hn : zs.length = n) (hr' : RdI w B' A' zs') (hn' : zs'.length = n') (hb : n ≤ 1048576) :
    Calls Try.prog 99 #[.slice A n c, .slice A' n' c'] w fun e w' => e = .returned (.bool (zs == zs')) ∧ ∃ q, w' = w.drewN q := by
  by_cases hnn : n = n'
  · subst hnn
    have Hn := Lib.hid hn
    have Hn' := Lib.hid hn'
    clear hn hn'
    go_enter Try.func99, Try.ntmps99
    go_wp2
    go_loopw [5] (fun i wr => ∃ k : Nat, ∃ q, EqRel n k zs zs' ∧ i = .int .i64 k ∧ wr = w.drewN q) (fun i wr => n - (intOf i).toNat)
    case atStart => exact ⟨0, 0, ⟨Nat.zero_le _, rfl⟩, rfl, rfl⟩
    case round =>
      obtain ⟨k, q, hk, rfl, rfl⟩ := hrel
      by_cases hlt : k < n
      · obtain ⟨b, off, x, rfl, hbw, Hx, hc⟩ := hr.x (k := k) (by rw [Hn.out]; exact hlt)
        obtain ⟨b', off', y, rfl, hbw', Hy, hc'⟩ := hr'.x (k := k) (by rw [Hn'.out]; exact hlt)
        by_cases he : x = y
        · have hs := eqRel_step hk Hn.out Hn'.out hlt (Hx.out.trans (he.trans Hy.out.symm))
          subst he
          have hb1 : (x != x) = false := by simp
          have Hs := Lib.hid hs
          clear hs
          go_wp2
          go_quiet (fail)
          go_wp2
          go_roundw
          case rel => exact ⟨k + 1, _, Hs.out, by go_num, rfl⟩
          case measure => simp [intOf]; omega
        · have hs : (zs == zs') = false := eqRel_no (k := k) (by rw [Hx.out, Hy.out]; exact he)
          have hb1 : (x != y) = true := by rw [bne_iff_ne]; exact he
          have Hs := Lib.hid hs
          clear hs he
          go_wp2
          go_quiet (fail)
          go_wp2
          go_ret
          exact ⟨ret_bool Hs.out.symm, _, World.drewN_drewN _ _ _⟩
      · have hs := eqRel_end hk Hn.out Hn'.out (by omega)
        have Hs := Lib.hid hs
        clear hs
        go_wp2
        go_ret
        exact ⟨ret_bool Hs.out.symm, _, rfl⟩
  · have hs : (zs == zs') = false := by
      rw [beq_eq_false_iff_ne]
      rintro rfl
      omega
    have hb1 : ((n : Int) != (n' : Int)) = true := by rw [bne_iff_ne]; omega
    have Hs := Lib.hid hs
    clear hs hn hn' hnn
    go_enter Try.func99, Try.ntmps99
    go_wp2
    go_ret
    exact ⟨ret_bool Hs.out.symm, 0, rfl⟩
end Go.Proofs.Ytkgomgfhhhdnjab
namespace Go.Proofs.Ytkgomgfhhhdnjab
open Go.ChangeShapes Go.WideShapes Go.ChangeAt Go.RowKit
set_option linter.unusedVariables false

def tto (t : List (Int × Int)) (i : Nat) : Nat := (t.getD i (-1, 0)).1.toNat
def tlg (t : List (Int × Int)) (i : Nat) : Int := (t.getD i (-1, 0)).2
/-- Each road goes ahead. -/
def Ahead (t : List (Int × Int)) : Prop := ∀ i, 1 ≤ i → i < t.length → tto t i < i ∧ 1 ≤ tlg t i ∧ tlg t i ≤ 9
/-- How far nodes below n are from each other. -/
def dn (t : List (Int × Int)) : Nat → Nat → Nat → Int
  | 0, _, _ => 0
  | n + 1, i, k => if i = n then (if k = n then 0 else dn t n (tto t n) k + tlg t n) else if k = n then dn t n (tto t n) i + tlg t n else dn t n i k
theorem dn_symm (t : List (Int × Int)) : ∀ n i k, dn t n i k = dn t n k i
  | 0, _, _ => rfl
  | n + 1, i, k => by
    simp only [dn]
    by_cases h1 : i = n <;> by_cases h2 : k = n <;> simp only [h1, h2, if_true, if_false]
    exact dn_symm t n i k
theorem dn_old {t : List (Int × Int)} {n i k : Nat} (hi : i < n) (hk : k < n) : dn t (n + 1) i k = dn t n i k := by
  simp only [dn]; rw [if_neg (by omega), if_neg (by omega)]
theorem dn_new {t : List (Int × Int)} {n k : Nat} (hk : k < n) : dn t (n + 1) n k = dn t n (tto t n) k + tlg t n := by
  simp only [dn, if_true]; rw [if_neg (by omega)]
theorem dn_diag (t : List (Int × Int)) : ∀ n i, i < n → dn t n i i = 0
  | 0, _, h => by omega
  | n + 1, i, h => by
    by_cases hi : i = n
    · subst hi; simp [dn]
    · rw [dn_old (by omega) (by omega)]; exact dn_diag t n i (by omega)
theorem dn_same {t : List (Int × Int)} {n i k : Nat} (hi : i < n) (hk : k < n) : ∀ {m}, n ≤ m → dn t m i k = dn t n i k := by
  intro m h
  induction h with
  | refl => rfl
  | @step m hm ih => have : n ≤ m := hm; rw [dn_old (by omega) (by omega), ih]
/-- The row of a node, as it is made: over its road. -/
theorem dn_road {t : List (Int × Int)} {n i k : Nat} (ht : Ahead t) (hn : n ≤ t.length) (hi : i < n) (hk : k < i) : dn t n i k = dn t n (tto t i) k + tlg t i := by
  have h := ht i (by omega) (by omega)
  rw [dn_same (n := i + 1) (i := i) (by omega) (by omega) (show i + 1 ≤ n by omega), dn_new hk, dn_same (n := i) (m := n) (i := tto t i) h.1 hk (by omega)]
theorem dn_bd {t : List (Int × Int)} (ht : Ahead t) : ∀ n i k, n ≤ t.length → i < n → k < n → 0 ≤ dn t n i k ∧ dn t n i k + 9 ≤ 9 * n
  | 0, _, _, _, h, _ => by omega
  | n + 1, i, k, hn, hi, hk => by
    by_cases h0 : n = 0
    · subst h0
      obtain rfl : i = 0 := by omega
      obtain rfl : k = 0 := by omega
      simp [dn]
    · have hr := ht n (by omega) (by omega)
      simp only [dn]
      split
      · split
        · omega
        · have := dn_bd ht n (tto t n) k (by omega) hr.1 (by omega); omega
      · split
        · have := dn_bd ht n (tto t n) i (by omega) hr.1 (by omega); omega
        · have := dn_bd ht n i k (by omega) (by omega) (by omega); omega

/-- From a node up, over roads, while it is greater than j. -/
def tpf (t : List (Int × Int)) (j : Nat) : Nat → Nat → Nat
  | 0, i => i
  | f + 1, i => if j < i then tpf t j f (tto t i) else i
def tp (t : List (Int × Int)) (j i : Nat) : Nat := tpf t j i i
theorem tpf_stop {t : List (Int × Int)} {j : Nat} : ∀ {f i : Nat}, ¬ j < i → tpf t j f i = i
  | 0, _, _ => rfl
  | f + 1, i, h => by simp only [tpf]; rw [if_neg h]
theorem tpf_fuel {t : List (Int × Int)} (ht : Ahead t) (j : Nat) : ∀ f f' i, i ≤ f → i ≤ f' → i < t.length → tpf t j f i = tpf t j f' i := by
  intro f
  induction f with
  | zero => intro f' i h _ _; obtain rfl : i = 0 := by omega
            rw [tpf_stop (by omega), tpf_stop (by omega)]
  | succ f ih =>
    intro f' i h h' hl
    by_cases hj : j < i
    · have hr := ht i (by omega) hl
      obtain ⟨g, rfl⟩ : ∃ g, f' = g + 1 := ⟨f' - 1, by omega⟩
      simp only [tpf]
      rw [if_pos hj, if_pos hj]
      exact ih g _ (by omega) (by omega) (by omega)
    · rw [tpf_stop hj, tpf_stop hj]
theorem tp_stop {t : List (Int × Int)} {j i : Nat} (h : ¬ j < i) : tp t j i = i := tpf_stop h
theorem tp_step {t : List (Int × Int)} (ht : Ahead t) {j i : Nat} (h : j < i) (hl : i < t.length) : tp t j i = tp t j (tto t i) := by
  have hr := ht i (by omega) hl
  obtain ⟨g, rfl⟩ : ∃ g, i = g + 1 := ⟨i - 1, by omega⟩
  show (if j < g + 1 then tpf t j g (tto t (g + 1)) else g + 1) = _
  rw [if_pos h]
  exact tpf_fuel ht j _ _ _ (by omega) (by omega) (by omega)
theorem tp_le {t : List (Int × Int)} (ht : Ahead t) {j : Nat} : ∀ i, i < t.length → tp t j i ≤ j ∧ tp t j i ≤ i := by
  intro i
  induction i using Nat.strongRecOn with
  | ind i ih =>
    intro hl
    by_cases h : j < i
    · have hr := ht i (by omega) hl
      rw [tp_step ht h hl]
      have := ih _ hr.1 (by omega)
      omega
    · rw [tp_stop h]; omega
theorem tp_tp {t : List (Int × Int)} (ht : Ahead t) {j j' : Nat} (hj : j' ≤ j) : ∀ i, i < t.length → tp t j' (tp t j i) = tp t j' i := by
  intro i
  induction i using Nat.strongRecOn with
  | ind i ih =>
    intro hl
    by_cases h : j < i
    · have hr := ht i (by omega) hl
      rw [tp_step ht h hl, ih _ hr.1 (by omega), tp_step ht (show j' < i by omega) hl]
    · rw [tp_stop h]
/-- i is behind v, or v itself. -/
def Bh (t : List (Int × Int)) (v i : Nat) : Prop := tp t v i = v
instance (t : List (Int × Int)) (v i : Nat) : Decidable (Bh t v i) := inferInstanceAs (Decidable (_ = _))
theorem bh_self (t : List (Int × Int)) (v : Nat) : Bh t v v := tp_stop (Nat.lt_irrefl v)
theorem bh_le {t : List (Int × Int)} (ht : Ahead t) {v i : Nat} (hl : i < t.length) (h : Bh t v i) : v ≤ i := by
  have := (tp_le ht (j := v) i hl).2
  unfold Bh at h
  omega
theorem bh_trans {t : List (Int × Int)} (ht : Ahead t) {u v i : Nat} (hv : v < t.length) (hl : i < t.length) (h1 : Bh t u v) (h2 : Bh t v i) : Bh t u i := by
  unfold Bh at *
  rw [← tp_tp ht (bh_le ht hv h1) i hl, h2, h1]
theorem bh_chain {t : List (Int × Int)} (ht : Ahead t) {u v i : Nat} (huv : u ≤ v) (hl : i < t.length) (h1 : Bh t u i) (h2 : Bh t v i) : Bh t u v := by
  unfold Bh at *
  have e := tp_tp ht huv i hl
  rw [h2, h1] at e
  exact e
theorem bh_up {t : List (Int × Int)} (ht : Ahead t) {v i : Nat} (hl : i < t.length) (hv : v < i) : Bh t v i ↔ Bh t v (tto t i) := by
  unfold Bh; rw [tp_step ht hv hl]
theorem bh_child {t : List (Int × Int)} (ht : Ahead t) {m : Nat} : ∀ v, v < t.length → Bh t m v → v ≠ m → ∃ c, m < c ∧ c ≤ v ∧ tto t c = m ∧ Bh t c v := by
  intro v
  induction v using Nat.strongRecOn with
  | ind v ih =>
    intro hl h hne
    have hmv := bh_le ht hl h
    have hr := ht v (by omega) hl
    by_cases e : tto t v = m
    · exact ⟨v, by omega, Nat.le_refl _, e, bh_self t v⟩
    · have h' := (bh_up ht hl (by omega)).1 h
      obtain ⟨c, h1, h2, h3, h4⟩ := ih _ hr.1 (by omega) h' e
      exact ⟨c, h1, by omega, h3, (bh_up ht hl (by omega)).2 h4⟩

/-- Who is behind a node is nearer to it than to the next one, by the road's length; all others are farther. -/
theorem dn_over {t : List (Int × Int)} (ht : Ahead t) {n v : Nat} (hn : n ≤ t.length) (hv1 : 1 ≤ v) (hv : v < n) : ∀ i, i < n → dn t n v i = dn t n (tto t v) i + (if Bh t v i then - tlg t v else tlg t v) := by
  have hrv := ht v hv1 (by omega)
  intro i
  induction i using Nat.strongRecOn with
  | ind i ih =>
    intro hi
    rcases Nat.lt_trichotomy i v with h | h | h
    · rw [if_neg (fun hb => by have := bh_le ht (by omega) hb; omega), dn_road ht hn hv h]
    · subst h
      rw [if_pos (bh_self t i), dn_diag t n i hi, dn_symm t n (tto t i) i, dn_road ht hn hi hrv.1, dn_diag t n _ (by omega)]
      omega
    · have hri := ht i (by omega) (by omega)
      rw [dn_symm t n v i, dn_road ht hn hi h, dn_symm t n (tto t v) i, dn_road ht hn hi (by omega), dn_symm t n (tto t i) v, dn_symm t n (tto t i) (tto t v), ih _ hri.1 (by omega)]
      by_cases hb : Bh t v i
      · rw [if_pos hb, if_pos ((bh_up ht (by omega) h).1 hb)]; omega
      · rw [if_neg hb, if_neg (fun hb' => hb ((bh_up ht (by omega) h).2 hb'))]; omega

/-- The sum over the nodes below m of how many are there, times how far they are. -/
def tsm (t : List (Int × Int)) (fs : List Int) (n v : Nat) : Nat → Int
  | 0 => 0
  | m + 1 => tsm t fs n v m + fs.getD m 0 * dn t n v m
/-- How many are behind a node. -/
def beh (t : List (Int × Int)) (fs : List Int) (v : Nat) : Nat → Int
  | 0 => 0
  | m + 1 => beh t fs v m + (if Bh t v m then fs.getD m 0 else 0)
def tot (fs : List Int) : Nat → Int
  | 0 => 0
  | m + 1 => tot fs m + fs.getD m 0
theorem tsm_over {t : List (Int × Int)} {fs : List Int} (ht : Ahead t) {n v : Nat} (hn : n ≤ t.length) (hv1 : 1 ≤ v) (hv : v < n) : ∀ m, m ≤ n → tsm t fs n v m = tsm t fs n (tto t v) m + tlg t v * (tot fs m - 2 * beh t fs v m)
  | 0, _ => by simp [tsm, tot, beh]
  | m + 1, hm => by
    have ih := tsm_over (fs := fs) ht hn hv1 hv m (by omega)
    simp only [tsm, tot, beh]
    rw [ih, dn_over ht hn hv1 hv m (by omega)]
    generalize tlg t v = L
    generalize fs.getD m 0 = f
    generalize dn t n (tto t v) m = d
    generalize tot fs m = T
    generalize beh t fs v m = b
    generalize tsm t fs n (tto t v) m = s
    split
    · have e1 : f * (d + -L) = f * d - L * f := by rw [Int.mul_add, Int.mul_neg, Int.mul_comm f L]; omega
      have e2 : L * (T + f - 2 * (b + f)) = L * (T - 2 * b) - L * f := by rw [← Int.mul_sub]; congr 1; omega
      rw [e1, e2]; omega
    · have e1 : f * (d + L) = f * d + L * f := by rw [Int.mul_add, Int.mul_comm f L]
      have e2 : L * (T + f - 2 * (b + 0)) = L * (T - 2 * b) + L * f := by rw [← Int.mul_add]; congr 1; omega
      rw [e1, e2]; omega
theorem beh_le_tot {t : List (Int × Int)} {fs : List Int} (hf : ∀ i, 0 ≤ fs.getD i 0) (v : Nat) : ∀ m, beh t fs v m ≤ tot fs m
  | 0 => by simp [beh, tot]
  | m + 1 => by have := beh_le_tot (t := t) hf v m; have := hf m; simp only [beh, tot]; split <;> omega
theorem beh_nonneg {t : List (Int × Int)} {fs : List Int} (hf : ∀ i, 0 ≤ fs.getD i 0) (v : Nat) : ∀ m, 0 ≤ beh t fs v m
  | 0 => by simp [beh]
  | m + 1 => by have := beh_nonneg (t := t) hf v m; have := hf m; simp only [beh]; split <;> omega
theorem beh_mono {t : List (Int × Int)} {fs : List Int} (hf : ∀ i, 0 ≤ fs.getD i 0) {u v : Nat} : ∀ m, (∀ i, i < m → Bh t v i → Bh t u i) → beh t fs v m ≤ beh t fs u m
  | 0, _ => by simp [beh]
  | m + 1, h => by
    have ih := beh_mono (t := t) hf (u := u) (v := v) m (fun i hi => h i (by omega))
    have hm := h m (by omega)
    have := hf m
    simp only [beh]
    by_cases hb : Bh t v m
    · rw [if_pos hb, if_pos (hm hb)]; omega
    · rw [if_neg hb]; split <;> omega
theorem beh_apart {t : List (Int × Int)} {fs : List Int} (hf : ∀ i, 0 ≤ fs.getD i 0) {u v : Nat} : ∀ m, (∀ i, i < m → ¬ (Bh t v i ∧ Bh t u i)) → beh t fs v m + beh t fs u m ≤ tot fs m
  | 0, _ => by simp [beh, tot]
  | m + 1, h => by
    have ih := beh_apart (t := t) hf (u := u) (v := v) m (fun i hi => h i (by omega))
    have hm := h m (by omega)
    have := hf m
    simp only [beh, tot]
    by_cases hb : Bh t v m
    · rw [if_pos hb, if_neg (fun hu => hm ⟨hb, hu⟩)]; omega
    · rw [if_neg hb]; split <;> omega

/-- The middle is nearest. -/
theorem middle_nearest {t : List (Int × Int)} {fs : List Int} (ht : Ahead t) (hf : ∀ i, 0 ≤ fs.getD i 0) {n m : Nat} (hn : n = t.length) (hm : m < n) (h1 : 1 ≤ m → 2 * (tot fs n - beh t fs m n) ≤ tot fs n)
    (h2 : ∀ c, m < c → c < n → tto t c = m → 2 * beh t fs c n ≤ tot fs n) : ∀ v, v < n → tsm t fs n m n ≤ tsm t fs n v n := by
  -- nodes on the way from the node 0 to m
  have up : ∀ d v, v + d = m → Bh t v m → tsm t fs n m n ≤ tsm t fs n v n := by
    intro d
    induction d using Nat.strongRecOn with
    | ind d ih =>
      intro v hvd hb
      by_cases hvm : m = v
      · rw [hvm]; exact Int.le_refl _
      · obtain ⟨c, a1, a2, a3, a4⟩ := bh_child ht m (by omega) hb hvm
        have h3 := ih (m - c) (by omega) c (by omega) a4
        have h4 := tsm_over (fs := fs) ht (n := n) (by omega) (show 1 ≤ c by omega) (show c < n by omega) n (Nat.le_refl _)
        rw [a3] at h4
        have h5 := beh_mono (t := t) hf (u := c) (v := m) n (fun i hi hmi => bh_trans ht (by omega) (by omega) a4 hmi)
        have h6 := h1 (by omega)
        have h7 := (ht c (by omega) (by omega)).2.1
        have h8 : 0 ≤ tlg t c * (2 * beh t fs c n - tot fs n) := Int.mul_nonneg (by omega) (by omega)
        have h9 : tlg t c * (tot fs n - 2 * beh t fs c n) = - (tlg t c * (2 * beh t fs c n - tot fs n)) := by rw [← Int.mul_neg]; congr 1; omega
        omega
  intro v
  induction v using Nat.strongRecOn with
  | ind v ih =>
    intro hv
    by_cases hb : Bh t v m
    · have hle := bh_le ht (by omega) hb
      exact up (m - v) v (by omega) hb
    · have hv1 : 1 ≤ v := by
        rcases Nat.eq_zero_or_pos v with h | h
        · subst h
          exact absurd (Nat.le_zero.1 (tp_le ht (j := 0) m (by omega)).1) hb
        · exact h
      have hr := ht v hv1 (by omega)
      have h3 := ih _ hr.1 (by omega)
      have h4 := tsm_over (fs := fs) ht (n := n) (by omega) hv1 hv n (Nat.le_refl _)
      have h5 : 2 * beh t fs v n ≤ tot fs n := by
        by_cases hmv : Bh t m v
        · obtain ⟨c, a1, a2, a3, a4⟩ := bh_child ht v (by omega) hmv (fun e => hb (by rw [e]; exact bh_self t m))
          have := h2 c a1 (by omega) a3
          have := beh_mono (t := t) hf (u := c) (v := v) n (fun i hi hvi => bh_trans ht (by omega) (by omega) a4 hvi)
          omega
        · have hm1 : 1 ≤ m := by
            rcases Nat.eq_zero_or_pos m with h | h
            · subst h
              exact absurd (Nat.le_zero.1 (tp_le ht (j := 0) v (by omega)).1) hmv
            · exact h
          have := beh_apart (t := t) hf (u := m) (v := v) n (fun i hi ⟨hvi, hmi⟩ => by
            rcases Nat.le_total v m with h | h
            · exact hb (bh_chain ht h (by omega) hvi hmi)
            · exact hmv (bh_chain ht h (by omega) hmi hvi))
          have := h1 hm1
          omega
      have h6 : 0 ≤ tlg t v * (tot fs n - 2 * beh t fs v n) := Int.mul_nonneg (by omega) (by omega)
      omega
end Go.Proofs.Ytkgomgfhhhdnjab
namespace Go.Proofs.Ytkgomgfhhhdnjab
open Go.ChangeShapes Go.WideShapes Go.ChangeAt Go.RowKit
set_option linter.unusedVariables false

/-- The roads as the cells hold them. -/
def flat : List (Int × Int) → List Int
  | [] => []
  | p :: r => p.1 :: p.2 :: flat r
theorem flat_len : ∀ ts, (flat ts).length = ts.length * 2
  | [] => rfl
  | p :: r => by simp only [flat, List.length_cons, flat_len r]; omega
theorem flat_to : ∀ (ts : List (Int × Int)) k, k < ts.length → (flat ts).getD (k * 2) 0 = (ts.getD k (-1, 0)).1
  | [], k, h => by simp at h
  | p :: r, 0, h => rfl
  | p :: r, k + 1, h => by
    rw [show (k + 1) * 2 = k * 2 + 1 + 1 by omega]
    simp only [flat, List.getD_cons_succ]
    exact flat_to r k (by simpa using h)
theorem flat_long : ∀ (ts : List (Int × Int)) k, k < ts.length → (flat ts).getD (k * 2 + 1) 0 = (ts.getD k (-1, 0)).2
  | [], k, h => by simp at h
  | p :: r, 0, h => rfl
  | p :: r, k + 1, h => by
    rw [show (k + 1) * 2 + 1 = k * 2 + 1 + 1 + 1 by omega]
    simp only [flat, List.getD_cons_succ]
    exact flat_long r k (by simpa using h)
theorem flat_append : ∀ a b, flat (a ++ b) = flat a ++ flat b
  | [], b => rfl
  | p :: r, b => by simp [flat, flat_append r b]
theorem flat_set0 : ∀ (ts : List (Int × Int)) (k : Nat) {d : Int}, k < ts.length → flat (ts.set k (d, (ts.getD k (-1, 0)).2)) = (flat ts).set (k * 2) d
  | [], k, _, h => by simp at h
  | p :: r, 0, _, h => rfl
  | p :: r, k + 1, d, h => by
    rw [show (k + 1) * 2 = k * 2 + 1 + 1 by omega]
    simp only [List.set_cons_succ, flat, List.getD_cons_succ]
    rw [flat_set0 r k (by simpa using h)]
theorem flat_set1 : ∀ (ts : List (Int × Int)) (k : Nat) {d : Int}, k < ts.length → flat (ts.set k ((ts.getD k (-1, 0)).1, d)) = (flat ts).set (k * 2 + 1) d
  | [], k, _, h => by simp at h
  | p :: r, 0, _, h => rfl
  | p :: r, k + 1, d, h => by
    rw [show (k + 1) * 2 + 1 = k * 2 + 1 + 1 + 1 by omega]
    simp only [List.set_cons_succ, flat, List.getD_cons_succ]
    rw [flat_set1 r k (by simpa using h)]
/-- The slice with address A reads as the roads ts, below block B. -/
def RdR (w : World) (B : Nat) (A : Option Addr) (ts : List (Int × Int)) : Prop := RdI w B A (flat ts)
theorem RdR.x {w : World} {B : Nat} {A : Option Addr} {ts : List (Int × Int)} (h : RdR w B A ts) {k : Nat} (hk : k < ts.length) :
    ∃ b off x y, A = some ⟨b, off, none⟩ ∧ b < B ∧ Hid (ts.getD k (-1, 0) = (x, y)) ∧ w.cell? ⟨b, off + k * 2, none⟩ = some (.int .i64 x) ∧ w.cell? ⟨b, off + k * 2 + 1, none⟩ = some (.int .i64 y) := by
  have hl := flat_len ts
  obtain ⟨b, off, e, hb, hc⟩ := h (by omega)
  refine ⟨b, off, (ts.getD k (-1, 0)).1, (ts.getD k (-1, 0)).2, e, hb, rfl, ?_, ?_⟩
  · rw [hc _ (by omega), flat_to _ _ hk]
  · rw [Nat.add_assoc, hc _ (by omega), flat_long _ _ hk]
theorem RdR.keep {w w' : World} {B : Nat} {A : Option Addr} {ts : List (Int × Int)} (h : RdR w B A ts) (hk : ∀ p : Addr, p.block < B → w'.cell? p = w.cell? p) : RdR w' B A ts := RdI.keep h hk
theorem RdR.below {w w' : World} {B : Nat} {A : Option Addr} {ts : List (Int × Int)} (h : RdR w B A ts) (hb : Below B w w') : RdR w' B A ts := RdI.below h hb
theorem RdR.more {w : World} {B B' : Nat} {A : Option Addr} {ts : List (Int × Int)} (h : RdR w B A ts) (hB : B ≤ B') : RdR w B' A ts := RdI.more h hB
theorem RdR.drewN {w : World} {B : Nat} {A : Option Addr} {ts : List (Int × Int)} (h : RdR w B A ts) (n : Nat) : RdR (w.drewN n) B A ts := h
theorem RdR.nil (w : World) (B : Nat) (A : Option Addr) : RdR w B A [] := RdI.nil w B A
/-- A slice cut at its front. -/
theorem flat_drop : ∀ (ts : List (Int × Int)) k, flat (ts.drop k) = (flat ts).drop (k * 2)
  | [], k => by simp [flat]
  | p :: r, 0 => by simp
  | p :: r, k + 1 => by
    rw [List.drop_succ_cons, flat_drop r k, show (k + 1) * 2 = k * 2 + 1 + 1 by omega]
    simp [flat]
theorem flat_take : ∀ (ts : List (Int × Int)) k, flat (ts.take k) = (flat ts).take (k * 2)
  | [], k => by simp [flat]
  | p :: r, 0 => by simp [flat]
  | p :: r, k + 1 => by
    rw [show (k + 1) * 2 = k * 2 + 1 + 1 by omega]
    simp [flat, flat_take r k]
theorem RdR.take {w : World} {B : Nat} {A : Option Addr} {ts : List (Int × Int)} (h : RdR w B A ts) (k : Nat) : RdR w B A (ts.take k) := by
  intro hp
  rw [flat_take] at hp ⊢
  rw [List.length_take] at hp
  obtain ⟨b, off, e, hb, hc⟩ := h (by omega)
  refine ⟨b, off, e, hb, fun i hi => ?_⟩
  rw [List.length_take] at hi
  rw [hc i (by omega)]
  congr 2
  simp only [List.getD, List.getElem?_take]
  rw [if_pos (by omega)]

/-- One road of a node: to a node ahead, its length in 1..9. -/
def okRoad (i : Nat) (p : Int × Int) : Bool := decide (0 ≤ p.1) && (decide (p.1 < i) && (decide (1 ≤ p.2) && decide (p.2 ≤ 9)))
def okFromT : Nat → List (Int × Int) → Bool
  | _, [] => true
  | i, p :: r => okRoad i p && okFromT (i + 1) r
/-- ValidTree. -/
def vt (ts : List (Int × Int)) : Bool := decide (ts.length ≤ 7) && (match ts with | [] => false | p :: r => (decide (p.1 = -1) && decide (p.2 = 0)) && okFromT 1 r)
theorem okFromT_get : ∀ {r : List (Int × Int)} {i : Nat}, okFromT i r = true → ∀ k, k < r.length → okRoad (i + k) (r.getD k (-1, 0)) = true
  | [], _, _, k, hk => by simp at hk
  | p :: r, i, h, 0, hk => by simp only [okFromT, Bool.and_eq_true] at h; exact h.1
  | p :: r, i, h, k + 1, hk => by
    simp only [okFromT, Bool.and_eq_true] at h
    have := okFromT_get h.2 k (by simpa using hk)
    rw [show i + 1 + k = i + (k + 1) by omega] at this
    exact this
theorem okFromT_of : ∀ {r : List (Int × Int)} {i : Nat}, (∀ k, k < r.length → okRoad (i + k) (r.getD k (-1, 0)) = true) → okFromT i r = true
  | [], _, _ => rfl
  | p :: r, i, h => by
    simp only [okFromT, Bool.and_eq_true]
    refine ⟨h 0 (by simp), okFromT_of fun k hk => ?_⟩
    have := h (k + 1) (by simpa using hk)
    rw [show i + (k + 1) = i + 1 + k by omega] at this
    exact this
theorem vt_iff (ts : List (Int × Int)) : vt ts = true ↔ 1 ≤ ts.length ∧ ts.length ≤ 7 ∧ (ts.getD 0 (-1, 0)).1 = -1 ∧ (ts.getD 0 (-1, 0)).2 = 0 ∧ ∀ k, 1 ≤ k → k < ts.length → okRoad k (ts.getD k (-1, 0)) = true := by
  cases ts with
  | nil => simp [vt]
  | cons p r =>
    simp only [vt, Bool.and_eq_true, decide_eq_true_eq, List.length_cons, List.getD_cons_zero]
    constructor
    · rintro ⟨h1, ⟨h2, h3⟩, h4⟩
      refine ⟨by omega, h1, h2, h3, fun k hk hl => ?_⟩
      obtain ⟨m, rfl⟩ : ∃ m, k = m + 1 := ⟨k - 1, by omega⟩
      have := okFromT_get h4 m (by omega)
      rw [show 1 + m = m + 1 by omega] at this
      simpa using this
    · rintro ⟨h0, h1, h2, h3, h4⟩
      refine ⟨h1, ⟨h2, h3⟩, okFromT_of fun k hk => ?_⟩
      have := h4 (k + 1) (by omega) (by omega)
      rw [show 1 + k = k + 1 by omega]
      simpa using this
theorem vt_ahead {ts : List (Int × Int)} (h : vt ts = true) : Ahead ts := by
  obtain ⟨h1, h2, h3, h4, h5⟩ := (vt_iff ts).1 h
  intro i hi hl
  have := h5 i hi hl
  simp only [okRoad, Bool.and_eq_true, decide_eq_true_eq] at this
  unfold tto tlg
  omega
theorem vt_to {ts : List (Int × Int)} (h : vt ts = true) {i : Nat} (hi : 1 ≤ i) (hl : i < ts.length) : (ts.getD i (-1, 0)).1 = tto ts i := by
  obtain ⟨h1, h2, h3, h4, h5⟩ := (vt_iff ts).1 h
  have := h5 i hi hl
  simp only [okRoad, Bool.and_eq_true, decide_eq_true_eq] at this
  unfold tto
  omega
/-- Fewer nodes are a tree. -/
theorem vt_take {ts : List (Int × Int)} (h : vt ts = true) {k : Nat} (hk : 1 ≤ k) : vt (ts.take k) = true := by
  obtain ⟨h1, h2, h3, h4, h5⟩ := (vt_iff ts).1 h
  have hg : ∀ i, i < k → (ts.take k).getD i (-1, 0) = ts.getD i (-1, 0) := fun i hi => by
    simp only [List.getD, List.getElem?_take]; rw [if_pos hi]
  rw [vt_iff]
  rw [List.length_take, hg 0 (by omega)]
  refine ⟨by omega, by omega, h3, h4, fun i hi hl => ?_⟩
  rw [hg i (by omega)]
  exact h5 i hi (by omega)
theorem vt_no_len {ts : List (Int × Int)} (h : ts.length < 1 ∨ 7 < ts.length) : vt ts = false := by
  rw [Bool.eq_false_iff]; intro h'
  obtain ⟨h1, h2, -⟩ := (vt_iff ts).1 h'
  omega
theorem vt_no_head {ts : List (Int × Int)} {x y : Int} (hx : ts.getD 0 (-1, 0) = (x, y)) (h : x ≠ -1 ∨ y ≠ 0) : vt ts = false := by
  rw [Bool.eq_false_iff]; intro h'
  obtain ⟨h1, h2, h3, h4, -⟩ := (vt_iff ts).1 h'
  rw [hx] at h3 h4
  simp only at h3 h4
  omega
theorem vt_no_at {ts : List (Int × Int)} {k : Nat} {x y : Int} (hk : 1 ≤ k) (hl : k < ts.length) (hx : ts.getD k (-1, 0) = (x, y)) (h : x < 0 ∨ (k : Int) ≤ x ∨ y < 1 ∨ 9 < y) : vt ts = false := by
  rw [Bool.eq_false_iff]; intro h'
  obtain ⟨h1, h2, h3, h4, h5⟩ := (vt_iff ts).1 h'
  have := h5 k hk hl
  rw [hx] at this
  simp only [okRoad, Bool.and_eq_true, decide_eq_true_eq] at this
  omega
/-- So far, all roads are fine. -/
def OkT (ts : List (Int × Int)) (k : Nat) : Prop := ∀ i, 1 ≤ i → i < k → okRoad i (ts.getD i (-1, 0)) = true
theorem OkT.step {ts : List (Int × Int)} {k : Nat} {x y : Int} (h : OkT ts k) (hx : ts.getD k (-1, 0) = (x, y)) (h1 : 0 ≤ x) (h2 : x < k) (h3 : 1 ≤ y) (h4 : y ≤ 9) : OkT ts (k + 1) := fun i hi hl => by
  by_cases e : i = k
  · subst e; rw [hx]; simp [okRoad, h1, h2, h3, h4]
  · exact h i hi (by omega)
theorem OkT.one (ts : List (Int × Int)) : OkT ts 1 := fun i h1 h2 => by omega
theorem OkT.step0 {ts : List (Int × Int)} (h : OkT ts 0) : OkT ts 1 := OkT.one ts
theorem vt_yes {ts : List (Int × Int)} {k : Nat} (h : OkT ts k) (h1 : 1 ≤ ts.length) (h7 : ts.length ≤ 7) (hk : ts.length ≤ k) (h0 : ts.getD 0 (-1, 0) = (-1, 0)) : vt ts = true :=
  (vt_iff ts).2 ⟨h1, h7, by rw [h0], by rw [h0], fun i hi hl => h i hi (by omega)⟩
end Go.Proofs.Ytkgomgfhhhdnjab
