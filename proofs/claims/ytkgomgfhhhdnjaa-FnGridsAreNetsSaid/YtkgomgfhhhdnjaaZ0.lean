/-
  Words and small contracts that all proofs of this seat use: a slice that reads as a list of ints; copies of slices and their comparison.
  Conditions: none beyond what each theorem states.
  Trees by parents: how far nodes are, who is behind a node, and that sums go over roads.
  Conditions: each node's road goes to a node ahead of it.
  The most sets without a common node, taken one by one, are the most nodes of a set that is fine.
  Conditions: at most seven nodes.
  Sets of nodes as numbers: covers and their least number, against nodes that are apart.
  Conditions: at most seven nodes.
-/
import Derived.Test.YtkgomgfhhhdnjaaRows
import Derived.WalkKit
import Derived.ProofKit
import Derived.OpenShut
import Derived.ChangeOld
import Derived.Below
import Derived.RegionTactic
import Derived.ChangeAlike
import Derived.Deep.QuietTactic
import Derived.BigQuiet
import Derived.Lib.Hide
import Derived.IntWalk
import Derived.Outline
namespace Go.Proofs.Ytkgomgfhhhdnjaa
open Go.ChangeShapes Go.WideShapes Go.ChangeAt Go.RowKit
set_option linter.unusedVariables false

/-- The slice with address A reads as the ints zs, below block B. -/
def RdI (w : World) (B : Nat) (A : Option Addr) (zs : List Int) : Prop :=
  0 < zs.length → ∃ b off, A = some ⟨b, off, none⟩ ∧ b < B ∧ ∀ i, i < zs.length → w.cell? ⟨b, off + i, none⟩ = some (.int .i64 (zs.getD i 0))

theorem RdI.at_ {w : World} {B : Nat} {A : Option Addr} {zs : List Int} (h : RdI w B A zs) {k : Nat} (hk : k < zs.length) :
    ∃ b off, A = some ⟨b, off, none⟩ ∧ b < B ∧ w.cell? ⟨b, off + k, none⟩ = some (.int .i64 (zs.getD k 0)) := by
  obtain ⟨b, off, e, hb, hc⟩ := h (by omega)
  exact ⟨b, off, e, hb, hc k hk⟩
/-- The same, the number under a name of its own, its value hidden from the walk. -/
theorem RdI.x {w : World} {B : Nat} {A : Option Addr} {zs : List Int} (h : RdI w B A zs) {k : Nat} (hk : k < zs.length) :
    ∃ b off x, A = some ⟨b, off, none⟩ ∧ b < B ∧ Hid (zs.getD k 0 = x) ∧ w.cell? ⟨b, off + k, none⟩ = some (.int .i64 x) := by
  obtain ⟨b, off, e, hb, hc⟩ := h (by omega)
  exact ⟨b, off, _, e, hb, rfl, hc k hk⟩
theorem RdI.keep {w w' : World} {B : Nat} {A : Option Addr} {zs : List Int} (h : RdI w B A zs) (hk : ∀ p : Addr, p.block < B → w'.cell? p = w.cell? p) : RdI w' B A zs := fun hp => by
  obtain ⟨b, off, e, hb, hc⟩ := h hp
  exact ⟨b, off, e, hb, fun i hi => (hk _ hb).trans (hc i hi)⟩
theorem RdI.below {w w' : World} {B : Nat} {A : Option Addr} {zs : List Int} (h : RdI w B A zs) (hb : Below B w w') : RdI w' B A zs := h.keep fun _ hp => hb.cell hp
theorem RdI.more {w : World} {B B' : Nat} {A : Option Addr} {zs : List Int} (h : RdI w B A zs) (hB : B ≤ B') : RdI w B' A zs := fun hp => by
  obtain ⟨b, off, e, hb, hc⟩ := h hp
  exact ⟨b, off, e, by omega, hc⟩
theorem RdI.drewN {w : World} {B : Nat} {A : Option Addr} {zs : List Int} (h : RdI w B A zs) (n : Nat) : RdI (w.drewN n) B A zs := h
theorem RdI.nil (w : World) (B : Nat) (A : Option Addr) : RdI w B A [] := fun h => absurd h (by simp)
theorem below_drewN {B : Nat} {a w : World} (h : Below B a w) (n : Nat) : Below B a (w.drewN n) := ⟨h.os, h.tape, h.output, h.size, h.block⟩

/-- A slice of ints that came in, as the frame of a law hands it over. -/
theorem rdI_row {w : World} {x : Addr} {len cap : Nat} {zs : List Int} (hl : len ≤ cap) (hz : zs.length = cap) (hcell : ∀ i, i < zs.length → w.cell? (x.add i) = some (.int .i64 (zs.getD i 0)))
    (hwz : ∀ n ∈ zs, (Lit.int .i64 n).wf = true) : RdI w w.heap.size (some x) (zs.take len) ∧ (zs.take len).length = len := by
  have hlen : (zs.take len).length = len := by rw [List.length_take]; omega
  refine ⟨fun hp => ?_, hlen⟩
  rw [hlen] at hp ⊢
  obtain ⟨b, off, spot⟩ := x
  have hc := hcell 0 (by omega)
  have hspot : spot = none := by simpa [Addr.add] using World.cell?_spot hc
  subst hspot
  refine ⟨b, off, rfl, World.block_lt_of_cell? w _ (by simpa [Addr.add] using hc), fun i hi => ?_⟩
  have h := hcell i (by omega)
  rw [show (⟨b, off, none⟩ : Addr).add i = ⟨b, off + i, none⟩ by unfold Addr.add; split <;> simp_all] at h
  rw [h]
  simp [hi]

/-- The slice with address A reads as the bytes bs, below block B. -/
def RdB (w : World) (B : Nat) (A : Option Addr) (bs : List Int) : Prop :=
  (∀ n ∈ bs, 0 ≤ n ∧ n ≤ 255) ∧ (0 < bs.length → ∃ b off, A = some ⟨b, off, none⟩ ∧ b < B ∧ ∀ i, i < bs.length → w.cell? ⟨b, off + i, none⟩ = some (.int .u8 (bs.getD i 0)))
theorem RdB.nil (w : World) (B : Nat) (A : Option Addr) : RdB w B A [] := ⟨by simp, fun h => absurd h (by simp)⟩
theorem RdB.keep {w w' : World} {B : Nat} {A : Option Addr} {zs : List Int} (h : RdB w B A zs) (hk : ∀ p : Addr, p.block < B → w'.cell? p = w.cell? p) : RdB w' B A zs := ⟨h.1, fun hp => by
  obtain ⟨b, off, e, hb, hc⟩ := h.2 hp
  exact ⟨b, off, e, hb, fun i hi => (hk _ hb).trans (hc i hi)⟩⟩
theorem RdB.below {w w' : World} {B : Nat} {A : Option Addr} {zs : List Int} (h : RdB w B A zs) (hb : Below B w w') : RdB w' B A zs := h.keep fun _ hp => hb.cell hp
theorem RdB.more {w : World} {B B' : Nat} {A : Option Addr} {zs : List Int} (h : RdB w B A zs) (hB : B ≤ B') : RdB w B' A zs := ⟨h.1, fun hp => by
  obtain ⟨b, off, e, hb, hc⟩ := h.2 hp
  exact ⟨b, off, e, by omega, hc⟩⟩
theorem RdB.x {w : World} {B : Nat} {A : Option Addr} {zs : List Int} (h : RdB w B A zs) {k : Nat} (hk : k < zs.length) :
    ∃ b off x, A = some ⟨b, off, none⟩ ∧ b < B ∧ Hid (zs.getD k 0 = x) ∧ 0 ≤ x ∧ x ≤ 255 ∧ w.cell? ⟨b, off + k, none⟩ = some (.int .u8 x) := by
  obtain ⟨b, off, e, hb, hc⟩ := h.2 (by omega)
  have hm : zs.getD k 0 ∈ zs := by simp [List.getD, List.getElem?_eq_getElem hk]
  exact ⟨b, off, _, e, hb, rfl, (h.1 _ hm).1, (h.1 _ hm).2, hc k hk⟩
/-- A slice of bytes that came in, as the frame of a law hands it over. -/
theorem rdB_row {w : World} {x : Addr} {len cap : Nat} {zs : List Int} (hl : len ≤ cap) (hz : zs.length = cap) (hcell : ∀ i, i < zs.length → w.cell? (x.add i) = some (.int .u8 (zs.getD i 0)))
    (hwz : ∀ n ∈ zs, (Lit.int .u8 n).wf = true) : RdB w w.heap.size (some x) (zs.take len) ∧ (zs.take len).length = len := by
  have hlen : (zs.take len).length = len := by rw [List.length_take]; omega
  refine ⟨⟨fun n hn => ?_, fun hp => ?_⟩, hlen⟩
  · have h := hwz n (List.mem_of_mem_take hn)
    simp [Lit.wf, IntKind.min, IntKind.max, IntKind.signed, IntKind.bits] at h
    omega
  rw [hlen] at hp ⊢
  obtain ⟨b, off, spot⟩ := x
  have hc := hcell 0 (by omega)
  have hspot : spot = none := by simpa [Addr.add] using World.cell?_spot hc
  subst hspot
  refine ⟨b, off, rfl, World.block_lt_of_cell? w _ (by simpa [Addr.add] using hc), fun i hi => ?_⟩
  have h := hcell i (by omega)
  rw [show (⟨b, off, none⟩ : Addr).add i = ⟨b, off + i, none⟩ by unfold Addr.add; split <;> simp_all] at h
  rw [h]
  simp [hi]

/-- What is kept from a drawn world on is kept from the world before the draws. -/
theorem below_from {a w : World} {n : Nat} (h : Below (a.drewN n).heap.size (a.drewN n) w) : Below a.heap.size a w := ⟨h.os, h.tape, h.output, h.size, h.block⟩

theorem ret_int {k : IntKind} {a b : Int} (h : a = b) : Ending.returned (.int k a) = .returned (.int k b) := by rw [h]
theorem ret_bool {a b : Bool} (h : a = b) : Ending.returned (.bool a) = .returned (.bool b) := by rw [h]

theorem intInfo : (Try.prog.info? 3).map (fun i => (i.zero, i.size, i.bytes)) = some (some (.int .i64 0), 1, 8) := by kernel_rfl

/-- inRange: a test of three numbers. -/
theorem inRange_any (n a b : Int) (w : World) :
    Calls Try.prog 50 #[.int .i64 n, .int .i64 a, .int .i64 b] w fun e w' => e = .returned (.bool (decide (a ≤ n) && decide (n ≤ b))) ∧ w = w' := by
  by_cases h1 : a ≤ n <;> by_cases h2 : n ≤ b
  all_goals
    go_enter Try.func50, Try.ntmps50
    go_wp2
    go_ret
    exact ⟨ret_bool (by simp [h1, h2]), rfl⟩

/-- toIntS: a copy in a new block. -/
def Copied (w : World) (zs : List Int) (e : Ending) (w' : World) : Prop :=
  ∃ b, e = .returned (.slice (some ⟨b, 0, none⟩) zs.length zs.length) ∧ w.heap.size ≤ b ∧ RdI w' w'.heap.size (some ⟨b, 0, none⟩) zs ∧ Below w.heap.size w w' ∧ w'.ownsRow w.heap.size 3 1 (.slice (some ⟨b, 0, none⟩) zs.length zs.length) zs.length (zs.map (Value.int .i64))
end Go.Proofs.Ytkgomgfhhhdnjaa
namespace Go.Proofs.Ytkgomgfhhhdnjaa
open Go.ChangeShapes Go.WideShapes Go.ChangeAt Go.RowKit
set_option linter.unusedVariables false

def tto (t : List (Int × Int)) (i : Nat) : Nat := (t.getD i (-1, 0)).1.toNat
def tlg (t : List (Int × Int)) (i : Nat) : Int := (t.getD i (-1, 0)).2
/-- Each road goes ahead. -/
def Ahead (t : List (Int × Int)) : Prop := ∀ i, 1 ≤ i → i < t.length → tto t i < i ∧ 1 ≤ tlg t i ∧ tlg t i ≤ 9
/-- How far nodes below n are from each other. -/
def dn (t : List (Int × Int)) : Nat → Nat → Nat → Int
  | 0, _, _ => 0
  | n + 1, i, k => if i = n then (if k = n then 0 else dn t n (tto t n) k + tlg t n) else if k = n then dn t n (tto t n) i + tlg t n else dn t n i k
theorem dn_symm (t : List (Int × Int)) : ∀ n i k, dn t n i k = dn t n k i
  | 0, _, _ => rfl
  | n + 1, i, k => by
    simp only [dn]
    by_cases h1 : i = n <;> by_cases h2 : k = n <;> simp only [h1, h2, if_true, if_false]
    exact dn_symm t n i k
theorem dn_old {t : List (Int × Int)} {n i k : Nat} (hi : i < n) (hk : k < n) : dn t (n + 1) i k = dn t n i k := by
  simp only [dn]; rw [if_neg (by omega), if_neg (by omega)]
theorem dn_new {t : List (Int × Int)} {n k : Nat} (hk : k < n) : dn t (n + 1) n k = dn t n (tto t n) k + tlg t n := by
  simp only [dn, if_true]; rw [if_neg (by omega)]
theorem dn_diag (t : List (Int × Int)) : ∀ n i, i < n → dn t n i i = 0
  | 0, _, h => by omega
  | n + 1, i, h => by
    by_cases hi : i = n
    · subst hi; simp [dn]
    · rw [dn_old (by omega) (by omega)]; exact dn_diag t n i (by omega)
theorem dn_same {t : List (Int × Int)} {n i k : Nat} (hi : i < n) (hk : k < n) : ∀ {m}, n ≤ m → dn t m i k = dn t n i k := by
  intro m h
  induction h with
  | refl => rfl
  | @step m hm ih => have : n ≤ m := hm; rw [dn_old (by omega) (by omega), ih]
/-- The row of a node, as it is made: over its road. -/
theorem dn_road {t : List (Int × Int)} {n i k : Nat} (ht : Ahead t) (hn : n ≤ t.length) (hi : i < n) (hk : k < i) : dn t n i k = dn t n (tto t i) k + tlg t i := by
  have h := ht i (by omega) (by omega)
  rw [dn_same (n := i + 1) (i := i) (by omega) (by omega) (show i + 1 ≤ n by omega), dn_new hk, dn_same (n := i) (m := n) (i := tto t i) h.1 hk (by omega)]
theorem dn_bd {t : List (Int × Int)} (ht : Ahead t) : ∀ n i k, n ≤ t.length → i < n → k < n → 0 ≤ dn t n i k ∧ dn t n i k + 9 ≤ 9 * n
  | 0, _, _, _, h, _ => by omega
  | n + 1, i, k, hn, hi, hk => by
    by_cases h0 : n = 0
    · subst h0
      obtain rfl : i = 0 := by omega
      obtain rfl : k = 0 := by omega
      simp [dn]
    · have hr := ht n (by omega) (by omega)
      simp only [dn]
      split
      · split
        · omega
        · have := dn_bd ht n (tto t n) k (by omega) hr.1 (by omega); omega
      · split
        · have := dn_bd ht n (tto t n) i (by omega) hr.1 (by omega); omega
        · have := dn_bd ht n i k (by omega) (by omega) (by omega); omega

/-- From a node up, over roads, while it is greater than j. -/
def tpf (t : List (Int × Int)) (j : Nat) : Nat → Nat → Nat
  | 0, i => i
  | f + 1, i => if j < i then tpf t j f (tto t i) else i
def tp (t : List (Int × Int)) (j i : Nat) : Nat := tpf t j i i
theorem tpf_stop {t : List (Int × Int)} {j : Nat} : ∀ {f i : Nat}, ¬ j < i → tpf t j f i = i
  | 0, _, _ => rfl
  | f + 1, i, h => by simp only [tpf]; rw [if_neg h]
theorem tpf_fuel {t : List (Int × Int)} (ht : Ahead t) (j : Nat) : ∀ f f' i, i ≤ f → i ≤ f' → i < t.length → tpf t j f i = tpf t j f' i := by
  intro f
  induction f with
  | zero => intro f' i h _ _; obtain rfl : i = 0 := by omega
            rw [tpf_stop (by omega), tpf_stop (by omega)]
  | succ f ih =>
    intro f' i h h' hl
    by_cases hj : j < i
    · have hr := ht i (by omega) hl
      obtain ⟨g, rfl⟩ : ∃ g, f' = g + 1 := ⟨f' - 1, by omega⟩
      simp only [tpf]
      rw [if_pos hj, if_pos hj]
      exact ih g _ (by omega) (by omega) (by omega)
    · rw [tpf_stop hj, tpf_stop hj]
theorem tp_stop {t : List (Int × Int)} {j i : Nat} (h : ¬ j < i) : tp t j i = i := tpf_stop h
theorem tp_step {t : List (Int × Int)} (ht : Ahead t) {j i : Nat} (h : j < i) (hl : i < t.length) : tp t j i = tp t j (tto t i) := by
  have hr := ht i (by omega) hl
  obtain ⟨g, rfl⟩ : ∃ g, i = g + 1 := ⟨i - 1, by omega⟩
  show (if j < g + 1 then tpf t j g (tto t (g + 1)) else g + 1) = _
  rw [if_pos h]
  exact tpf_fuel ht j _ _ _ (by omega) (by omega) (by omega)
theorem tp_le {t : List (Int × Int)} (ht : Ahead t) {j : Nat} : ∀ i, i < t.length → tp t j i ≤ j ∧ tp t j i ≤ i := by
  intro i
  induction i using Nat.strongRecOn with
  | ind i ih =>
    intro hl
    by_cases h : j < i
    · have hr := ht i (by omega) hl
      rw [tp_step ht h hl]
      have := ih _ hr.1 (by omega)
      omega
    · rw [tp_stop h]; omega
theorem tp_tp {t : List (Int × Int)} (ht : Ahead t) {j j' : Nat} (hj : j' ≤ j) : ∀ i, i < t.length → tp t j' (tp t j i) = tp t j' i := by
  intro i
  induction i using Nat.strongRecOn with
  | ind i ih =>
    intro hl
    by_cases h : j < i
    · have hr := ht i (by omega) hl
      rw [tp_step ht h hl, ih _ hr.1 (by omega), tp_step ht (show j' < i by omega) hl]
    · rw [tp_stop h]
/-- i is behind v, or v itself. -/
def Bh (t : List (Int × Int)) (v i : Nat) : Prop := tp t v i = v
instance (t : List (Int × Int)) (v i : Nat) : Decidable (Bh t v i) := inferInstanceAs (Decidable (_ = _))
theorem bh_self (t : List (Int × Int)) (v : Nat) : Bh t v v := tp_stop (Nat.lt_irrefl v)
theorem bh_le {t : List (Int × Int)} (ht : Ahead t) {v i : Nat} (hl : i < t.length) (h : Bh t v i) : v ≤ i := by
  have := (tp_le ht (j := v) i hl).2
  unfold Bh at h
  omega
theorem bh_trans {t : List (Int × Int)} (ht : Ahead t) {u v i : Nat} (hv : v < t.length) (hl : i < t.length) (h1 : Bh t u v) (h2 : Bh t v i) : Bh t u i := by
  unfold Bh at *
  rw [← tp_tp ht (bh_le ht hv h1) i hl, h2, h1]
theorem bh_chain {t : List (Int × Int)} (ht : Ahead t) {u v i : Nat} (huv : u ≤ v) (hl : i < t.length) (h1 : Bh t u i) (h2 : Bh t v i) : Bh t u v := by
  unfold Bh at *
  have e := tp_tp ht huv i hl
  rw [h2, h1] at e
  exact e
theorem bh_up {t : List (Int × Int)} (ht : Ahead t) {v i : Nat} (hl : i < t.length) (hv : v < i) : Bh t v i ↔ Bh t v (tto t i) := by
  unfold Bh; rw [tp_step ht hv hl]
theorem bh_child {t : List (Int × Int)} (ht : Ahead t) {m : Nat} : ∀ v, v < t.length → Bh t m v → v ≠ m → ∃ c, m < c ∧ c ≤ v ∧ tto t c = m ∧ Bh t c v := by
  intro v
  induction v using Nat.strongRecOn with
  | ind v ih =>
    intro hl h hne
    have hmv := bh_le ht hl h
    have hr := ht v (by omega) hl
    by_cases e : tto t v = m
    · exact ⟨v, by omega, Nat.le_refl _, e, bh_self t v⟩
    · have h' := (bh_up ht hl (by omega)).1 h
      obtain ⟨c, h1, h2, h3, h4⟩ := ih _ hr.1 (by omega) h' e
      exact ⟨c, h1, by omega, h3, (bh_up ht hl (by omega)).2 h4⟩

/-- Who is behind a node is nearer to it than to the next one, by the road's length; all others are farther. -/
theorem dn_over {t : List (Int × Int)} (ht : Ahead t) {n v : Nat} (hn : n ≤ t.length) (hv1 : 1 ≤ v) (hv : v < n) : ∀ i, i < n → dn t n v i = dn t n (tto t v) i + (if Bh t v i then - tlg t v else tlg t v) := by
  have hrv := ht v hv1 (by omega)
  intro i
  induction i using Nat.strongRecOn with
  | ind i ih =>
    intro hi
    rcases Nat.lt_trichotomy i v with h | h | h
    · rw [if_neg (fun hb => by have := bh_le ht (by omega) hb; omega), dn_road ht hn hv h]
    · subst h
      rw [if_pos (bh_self t i), dn_diag t n i hi, dn_symm t n (tto t i) i, dn_road ht hn hi hrv.1, dn_diag t n _ (by omega)]
      omega
    · have hri := ht i (by omega) (by omega)
      rw [dn_symm t n v i, dn_road ht hn hi h, dn_symm t n (tto t v) i, dn_road ht hn hi (by omega), dn_symm t n (tto t i) v, dn_symm t n (tto t i) (tto t v), ih _ hri.1 (by omega)]
      by_cases hb : Bh t v i
      · rw [if_pos hb, if_pos ((bh_up ht (by omega) h).1 hb)]; omega
      · rw [if_neg hb, if_neg (fun hb' => hb ((bh_up ht (by omega) h).2 hb'))]; omega

/-- The sum over the nodes below m of how many are there, times how far they are. -/
def tsm (t : List (Int × Int)) (fs : List Int) (n v : Nat) : Nat → Int
  | 0 => 0
  | m + 1 => tsm t fs n v m + fs.getD m 0 * dn t n v m
/-- How many are behind a node. -/
def beh (t : List (Int × Int)) (fs : List Int) (v : Nat) : Nat → Int
  | 0 => 0
  | m + 1 => beh t fs v m + (if Bh t v m then fs.getD m 0 else 0)
def tot (fs : List Int) : Nat → Int
  | 0 => 0
  | m + 1 => tot fs m + fs.getD m 0
theorem tsm_over {t : List (Int × Int)} {fs : List Int} (ht : Ahead t) {n v : Nat} (hn : n ≤ t.length) (hv1 : 1 ≤ v) (hv : v < n) : ∀ m, m ≤ n → tsm t fs n v m = tsm t fs n (tto t v) m + tlg t v * (tot fs m - 2 * beh t fs v m)
  | 0, _ => by simp [tsm, tot, beh]
  | m + 1, hm => by
    have ih := tsm_over (fs := fs) ht hn hv1 hv m (by omega)
    simp only [tsm, tot, beh]
    rw [ih, dn_over ht hn hv1 hv m (by omega)]
    generalize tlg t v = L
    generalize fs.getD m 0 = f
    generalize dn t n (tto t v) m = d
    generalize tot fs m = T
    generalize beh t fs v m = b
    generalize tsm t fs n (tto t v) m = s
    split
    · have e1 : f * (d + -L) = f * d - L * f := by rw [Int.mul_add, Int.mul_neg, Int.mul_comm f L]; omega
      have e2 : L * (T + f - 2 * (b + f)) = L * (T - 2 * b) - L * f := by rw [← Int.mul_sub]; congr 1; omega
      rw [e1, e2]; omega
    · have e1 : f * (d + L) = f * d + L * f := by rw [Int.mul_add, Int.mul_comm f L]
      have e2 : L * (T + f - 2 * (b + 0)) = L * (T - 2 * b) + L * f := by rw [← Int.mul_add]; congr 1; omega
      rw [e1, e2]; omega
theorem beh_le_tot {t : List (Int × Int)} {fs : List Int} (hf : ∀ i, 0 ≤ fs.getD i 0) (v : Nat) : ∀ m, beh t fs v m ≤ tot fs m
  | 0 => by simp [beh, tot]
  | m + 1 => by have := beh_le_tot (t := t) hf v m; have := hf m; simp only [beh, tot]; split <;> omega
theorem beh_nonneg {t : List (Int × Int)} {fs : List Int} (hf : ∀ i, 0 ≤ fs.getD i 0) (v : Nat) : ∀ m, 0 ≤ beh t fs v m
  | 0 => by simp [beh]
  | m + 1 => by have := beh_nonneg (t := t) hf v m; have := hf m; simp only [beh]; split <;> omega
theorem beh_mono {t : List (Int × Int)} {fs : List Int} (hf : ∀ i, 0 ≤ fs.getD i 0) {u v : Nat} : ∀ m, (∀ i, i < m → Bh t v i → Bh t u i) → beh t fs v m ≤ beh t fs u m
  | 0, _ => by simp [beh]
  | m + 1, h => by
    have ih := beh_mono (t := t) hf (u := u) (v := v) m (fun i hi => h i (by omega))
    have hm := h m (by omega)
    have := hf m
    simp only [beh]
    by_cases hb : Bh t v m
    · rw [if_pos hb, if_pos (hm hb)]; omega
    · rw [if_neg hb]; split <;> omega
theorem beh_apart {t : List (Int × Int)} {fs : List Int} (hf : ∀ i, 0 ≤ fs.getD i 0) {u v : Nat} : ∀ m, (∀ i, i < m → ¬ (Bh t v i ∧ Bh t u i)) → beh t fs v m + beh t fs u m ≤ tot fs m
  | 0, _ => by simp [beh, tot]
  | m + 1, h => by
    have ih := beh_apart (t := t) hf (u := u) (v := v) m (fun i hi => h i (by omega))
    have hm := h m (by omega)
    have := hf m
    simp only [beh, tot]
    by_cases hb : Bh t v m
    · rw [if_pos hb, if_neg (fun hu => hm ⟨hb, hu⟩)]; omega
    · rw [if_neg hb]; split <;> omega

/-- The middle is nearest. -/
theorem middle_nearest {t : List (Int × Int)} {fs : List Int} (ht : Ahead t) (hf : ∀ i, 0 ≤ fs.getD i 0) {n m : Nat} (hn : n = t.length) (hm : m < n) (h1 : 1 ≤ m → 2 * (tot fs n - beh t fs m n) ≤ tot fs n)
    (h2 : ∀ c, m < c → c < n → tto t c = m → 2 * beh t fs c n ≤ tot fs n) : ∀ v, v < n → tsm t fs n m n ≤ tsm t fs n v n := by
  -- nodes on the way from the node 0 to m
  have up : ∀ d v, v + d = m → Bh t v m → tsm t fs n m n ≤ tsm t fs n v n := by
    intro d
    induction d using Nat.strongRecOn with
    | ind d ih =>
      intro v hvd hb
      by_cases hvm : m = v
      · rw [hvm]; exact Int.le_refl _
      · obtain ⟨c, a1, a2, a3, a4⟩ := bh_child ht m (by omega) hb hvm
        have h3 := ih (m - c) (by omega) c (by omega) a4
        have h4 := tsm_over (fs := fs) ht (n := n) (by omega) (show 1 ≤ c by omega) (show c < n by omega) n (Nat.le_refl _)
        rw [a3] at h4
        have h5 := beh_mono (t := t) hf (u := c) (v := m) n (fun i hi hmi => bh_trans ht (by omega) (by omega) a4 hmi)
        have h6 := h1 (by omega)
        have h7 := (ht c (by omega) (by omega)).2.1
        have h8 : 0 ≤ tlg t c * (2 * beh t fs c n - tot fs n) := Int.mul_nonneg (by omega) (by omega)
        have h9 : tlg t c * (tot fs n - 2 * beh t fs c n) = - (tlg t c * (2 * beh t fs c n - tot fs n)) := by rw [← Int.mul_neg]; congr 1; omega
        omega
  intro v
  induction v using Nat.strongRecOn with
  | ind v ih =>
    intro hv
    by_cases hb : Bh t v m
    · have hle := bh_le ht (by omega) hb
      exact up (m - v) v (by omega) hb
    · have hv1 : 1 ≤ v := by
        rcases Nat.eq_zero_or_pos v with h | h
        · subst h
          exact absurd (Nat.le_zero.1 (tp_le ht (j := 0) m (by omega)).1) hb
        · exact h
      have hr := ht v hv1 (by omega)
      have h3 := ih _ hr.1 (by omega)
      have h4 := tsm_over (fs := fs) ht (n := n) (by omega) hv1 hv n (Nat.le_refl _)
      have h5 : 2 * beh t fs v n ≤ tot fs n := by
        by_cases hmv : Bh t m v
        · obtain ⟨c, a1, a2, a3, a4⟩ := bh_child ht v (by omega) hmv (fun e => hb (by rw [e]; exact bh_self t m))
          have := h2 c a1 (by omega) a3
          have := beh_mono (t := t) hf (u := c) (v := v) n (fun i hi hvi => bh_trans ht (by omega) (by omega) a4 hvi)
          omega
        · have hm1 : 1 ≤ m := by
            rcases Nat.eq_zero_or_pos m with h | h
            · subst h
              exact absurd (Nat.le_zero.1 (tp_le ht (j := 0) v (by omega)).1) hmv
            · exact h
          have := beh_apart (t := t) hf (u := m) (v := v) n (fun i hi ⟨hvi, hmi⟩ => by
            rcases Nat.le_total v m with h | h
            · exact hb (bh_chain ht h (by omega) hvi hmi)
            · exact hmv (bh_chain ht h (by omega) hmi hvi))
          have := h1 hm1
          omega
      have h6 : 0 ≤ tlg t v * (tot fs n - 2 * beh t fs v n) := Int.mul_nonneg (by omega) (by omega)
      omega
end Go.Proofs.Ytkgomgfhhhdnjaa
namespace Go.Proofs.Ytkgomgfhhhdnjaa
open Go.ChangeShapes Go.WideShapes Go.ChangeAt Go.RowKit
set_option linter.unusedVariables false

/-- How many bits a number below 2^f has. -/
def bc : Nat → Nat → Nat
  | 0, _ => 0
  | f + 1, s => s % 2 + bc f (s / 2)
/-- The bits from k on, m of them. -/
def cn (s : Nat) : Nat → Nat → Nat
  | 0, _ => 0
  | m + 1, k => (if s.testBit k then 1 else 0) + cn s m (k + 1)
theorem cn_all : ∀ n : Fin 8, ∀ s : Fin 128, s.val < 2 ^ n.val → cn s.val n.val 0 = bc 7 s.val := by decide +kernel
theorem pow_128 {n s : Nat} (h7 : n ≤ 7) (hs : s < 2 ^ n) : s < 128 := Nat.lt_of_lt_of_le hs (Nat.pow_le_pow_right (by omega) h7 : 2 ^ n ≤ 2 ^ 7)
theorem cn_bc {n s : Nat} (h7 : n ≤ 7) (hs : s < 2 ^ n) : cn s n 0 = bc 7 s := cn_all ⟨n, by omega⟩ ⟨s, pow_128 h7 hs⟩ hs
theorem or_all : ∀ s : Fin 128, ∀ i : Fin 7, s.val.testBit i.val = false → bc 7 (s.val ||| 2 ^ i.val) = bc 7 s.val + 1 := by decide +kernel
/-- No common bit. -/
def Dj (x y : Nat) : Prop := ∀ v, ¬ (x.testBit v = true ∧ y.testBit v = true)
theorem dj_and {x y : Nat} : x &&& y = 0 ↔ Dj x y := by
  constructor
  · intro h v ⟨h1, h2⟩
    have := Nat.testBit_and x y v
    rw [h, h1, h2] at this
    simp at this
  · intro h
    apply Nat.eq_of_testBit_eq
    intro v
    rw [Nat.testBit_and]
    have := h v
    simp only [Nat.zero_testBit]
    cases h1 : x.testBit v <;> cases h2 : y.testBit v <;> simp_all
theorem dj_or {x y z : Nat} : Dj x (y ||| z) ↔ Dj x y ∧ Dj x z := by
  constructor
  · intro h
    exact ⟨fun v ⟨h1, h2⟩ => h v ⟨h1, by rw [Nat.testBit_or, h2]; rfl⟩, fun v ⟨h1, h2⟩ => h v ⟨h1, by rw [Nat.testBit_or, h2]; simp⟩⟩
  · rintro ⟨h1, h2⟩ v ⟨h3, h4⟩
    rw [Nat.testBit_or, Bool.or_eq_true] at h4
    rcases h4 with h4 | h4
    · exact h1 v ⟨h3, h4⟩
    · exact h2 v ⟨h3, h4⟩
theorem dj_comm {x y : Nat} (h : Dj x y) : Dj y x := fun v ⟨h1, h2⟩ => h v ⟨h2, h1⟩
/-- The most sets N k, N (k + 1) .. (m of them) of which no two have a common bit, nor one of those taken. -/
def mw (N : Nat → Nat) : Nat → Nat → Nat → Nat
  | 0, _, _ => 0
  | m + 1, k, T => if N k &&& T = 0 then max (mw N m (k + 1) T) (1 + mw N m (k + 1) (T ||| N k)) else mw N m (k + 1) T
theorem mw_bd (N : Nat → Nat) : ∀ m k T, mw N m k T ≤ m
  | 0, _, _ => Nat.le_refl _
  | m + 1, k, T => by
    have h1 := mw_bd N m (k + 1) T
    have h2 := mw_bd N m (k + 1) (T ||| N k)
    simp only [mw]; split <;> omega
/-- The sets of s, from k on, have no common bit, nor one of T. -/
def FineN (N : Nat → Nat) (s k T : Nat) : Prop := (∀ i, k ≤ i → s.testBit i = true → Dj (N i) T) ∧ ∀ i j, k ≤ i → i < j → s.testBit i = true → s.testBit j = true → Dj (N i) (N j)
theorem mw_ge (N : Nat → Nat) (s : Nat) : ∀ m k T, FineN N s k T → cn s m k ≤ mw N m k T
  | 0, _, _, _ => Nat.le_refl _
  | m + 1, k, T, h => by
    have h0 : FineN N s (k + 1) T := ⟨fun i hi hs => h.1 i (by omega) hs, fun i j hi hij h1 h2 => h.2 i j (by omega) hij h1 h2⟩
    have ih := mw_ge N s m (k + 1) T h0
    simp only [cn, mw]
    by_cases hk : s.testBit k = true
    · have hd := h.1 k (Nat.le_refl _) hk
      rw [if_pos hk, if_pos (dj_and.2 hd)]
      have h1 : FineN N s (k + 1) (T ||| N k) := ⟨fun i hi hs => dj_or.2 ⟨h.1 i (by omega) hs, dj_comm (h.2 k i (Nat.le_refl _) (by omega) hk hs)⟩, h0.2⟩
      have ih1 := mw_ge N s m (k + 1) (T ||| N k) h1
      omega
    · rw [if_neg hk]
      split <;> omega
theorem mw_at (N : Nat → Nat) {n : Nat} (h7 : n ≤ 7) : ∀ m k T, k + m = n → ∃ s, s < 2 ^ n ∧ (∀ i, i < k → s.testBit i = false) ∧ FineN N s k T ∧ bc 7 s = mw N m k T
  | 0, k, T, _ => ⟨0, Nat.two_pow_pos n, fun i _ => Nat.zero_testBit i, ⟨fun i _ h => by simp at h, fun i j _ _ h => by simp at h⟩, rfl⟩
  | m + 1, k, T, hn => by
    have keep : ∀ {s}, (∀ i, i < k + 1 → s.testBit i = false) → FineN N s (k + 1) T → FineN N s k T := fun hz hf =>
      ⟨fun i hi hs => hf.1 i (by by_cases e : i = k; · subst e; rw [hz i (by omega)] at hs; cases hs
                                 · omega) hs,
       fun i j hi hij h1 h2 => hf.2 i j (by by_cases e : i = k; · subst e; rw [hz i (by omega)] at h1; cases h1
                                            · omega) hij h1 h2⟩
    obtain ⟨s1, a1, b1, c1, d1⟩ := mw_at N h7 m (k + 1) T (by omega)
    simp only [mw]
    by_cases hd : N k &&& T = 0
    · rw [if_pos hd]
      obtain ⟨s2, a2, b2, c2, d2⟩ := mw_at N h7 m (k + 1) (T ||| N k) (by omega)
      by_cases hle : mw N m (k + 1) T ≤ 1 + mw N m (k + 1) (T ||| N k)
      · have hk7 : k < 7 := by omega
        have hs2 := pow_128 h7 a2
        have hbit : ∀ i, (s2 ||| 2 ^ k).testBit i = true → i = k ∨ s2.testBit i = true := fun i hi => by
          rw [Nat.testBit_or, Bool.or_eq_true] at hi
          rcases hi with hi | hi
          · exact .inr hi
          · rw [Nat.testBit_two_pow] at hi; simp at hi; exact .inl hi.symm
        refine ⟨s2 ||| 2 ^ k, Nat.or_lt_two_pow a2 (Nat.pow_lt_pow_right (by omega) (by omega)), fun i hi => ?_, ⟨fun i hi hs => ?_, fun i j hi hij h1 h2 => ?_⟩, ?_⟩
        · rw [Nat.testBit_or, b2 i (by omega), Nat.testBit_two_pow]; simp; omega
        · rcases hbit i hs with rfl | hs'
          · exact dj_and.1 hd
          · have hik : k + 1 ≤ i := by
              by_cases e : i = k
              · subst e; rw [b2 i (by omega)] at hs'; cases hs'
              · omega
            exact (dj_or.1 (c2.1 i hik hs')).1
        · rcases hbit j h2 with rfl | hj
          · omega
          · have hjk : k + 1 ≤ j := by omega
            rcases hbit i h1 with rfl | hi'
            · exact dj_comm (dj_or.1 (c2.1 j hjk hj)).2
            · have hik : k + 1 ≤ i := by
                by_cases e : i = k
                · subst e; rw [b2 i (by omega)] at hi'; cases hi'
                · omega
              exact c2.2 i j hik hij hi' hj
        · rw [or_all ⟨s2, hs2⟩ ⟨k, hk7⟩ (b2 k (by omega)), d2]; omega
      · exact ⟨s1, a1, fun i hi => b1 i (by omega), keep b1 c1, by rw [d1]; omega⟩
    · rw [if_neg hd]
      exact ⟨s1, a1, fun i hi => b1 i (by omega), keep b1 c1, d1⟩
/-- How many of a set are near a node, of the nodes below m. -/
def nrB (d : Nat → Nat → Int) (far : Int) (s v : Nat) : Nat → Nat
  | 0 => 0
  | m + 1 => nrB d far s v m + (if s.testBit m = true ∧ 0 ≤ d v m ∧ d v m ≤ far then 1 else 0)
/-- Whether at each node below v at most one of the set is near. -/
def fnB (d : Nat → Nat → Int) (far : Int) (s n : Nat) : Nat → Bool
  | 0 => true
  | v + 1 => fnB d far s n v && decide (nrB d far s v n ≤ 1)
def pkB (d : Nat → Nat → Int) (far : Int) (n : Nat) : Nat → Nat
  | 0 => 0
  | S + 1 => if fnB d far S n n = true then max (pkB d far n S) (bc 7 S) else pkB d far n S
theorem fnB_iff {d : Nat → Nat → Int} {far : Int} {s n : Nat} : ∀ m, fnB d far s n m = true ↔ ∀ v, v < m → nrB d far s v n ≤ 1
  | 0 => by simp [fnB]
  | m + 1 => by
    simp only [fnB, Bool.and_eq_true, fnB_iff m, decide_eq_true_eq]
    constructor
    · rintro ⟨h1, h2⟩ v hv
      by_cases e : v = m
      · subst e; exact h2
      · exact h1 v (by omega)
    · intro h
      exact ⟨fun v hv => h v (by omega), h m (by omega)⟩
theorem le_pkB {d : Nat → Nat → Int} {far : Int} {n : Nat} : ∀ {S s : Nat}, s < S → fnB d far s n n = true → bc 7 s ≤ pkB d far n S
  | 0, s, h, _ => by omega
  | S + 1, s, h, hf => by
    simp only [pkB]
    by_cases e : s = S
    · subst e; rw [if_pos hf]; omega
    · have := le_pkB (d := d) (far := far) (n := n) (show s < S by omega) hf
      split <;> omega
theorem pkB_le {d : Nat → Nat → Int} {far : Int} {n c : Nat} : ∀ S, (∀ s, s < S → fnB d far s n n = true → bc 7 s ≤ c) → pkB d far n S ≤ c
  | 0, _ => Nat.zero_le _
  | S + 1, h => by
    have ih := pkB_le (d := d) (far := far) (n := n) S fun s hs => h s (by omega)
    simp only [pkB]
    split
    · rename_i hf
      have := h S (by omega) hf
      omega
    · exact ih
theorem nrB_none {d : Nat → Nat → Int} {far : Int} {s v : Nat} : ∀ {m}, (∀ i, i < m → ¬ (s.testBit i = true ∧ 0 ≤ d v i ∧ d v i ≤ far)) → nrB d far s v m = 0
  | 0, _ => rfl
  | m + 1, h => by simp only [nrB]; rw [nrB_none (fun i hi => h i (by omega)), if_neg (h m (by omega))]
theorem nrB_one {d : Nat → Nat → Int} {far : Int} {s v : Nat} : ∀ {m}, (∀ i k, i < k → k < m → (s.testBit i = true ∧ 0 ≤ d v i ∧ d v i ≤ far) → ¬ (s.testBit k = true ∧ 0 ≤ d v k ∧ d v k ≤ far)) → nrB d far s v m ≤ 1
  | 0, _ => by simp [nrB]
  | m + 1, h => by
    have ih := nrB_one (d := d) (far := far) (s := s) (v := v) (m := m) (fun i k hi hk => h i k hi (by omega))
    simp only [nrB]
    by_cases e : s.testBit m = true ∧ 0 ≤ d v m ∧ d v m ≤ far
    · rw [nrB_none (fun i hi h' => h i m hi (by omega) h' e), if_pos e]; omega
    · rw [if_neg e]; omega
theorem nrB_mono {d : Nat → Nat → Int} {far : Int} {s v i : Nat} (h : s.testBit i = true ∧ 0 ≤ d v i ∧ d v i ≤ far) : ∀ {m}, i < m → 1 ≤ nrB d far s v m
  | 0, hi => by omega
  | m + 1, hi => by
    simp only [nrB]
    by_cases e : i = m
    · subst e; rw [if_pos h]; omega
    · have := nrB_mono h (m := m) (by omega); omega
theorem nrB_two {d : Nat → Nat → Int} {far : Int} {s v i k : Nat} (h : s.testBit i = true ∧ 0 ≤ d v i ∧ d v i ≤ far) (hk : s.testBit k = true ∧ 0 ≤ d v k ∧ d v k ≤ far) (hik : i < k) : ∀ {m}, k < m → 2 ≤ nrB d far s v m
  | 0, hm => by omega
  | m + 1, hm => by
    simp only [nrB]
    by_cases e : k = m
    · subst e; rw [if_pos hk]; have := nrB_mono h (m := k) hik; omega
    · have := nrB_two h hk hik (m := m) (by omega); omega
/-- A set is fine just if the nodes near its nodes are apart. -/
theorem fine_iff {d : Nat → Nat → Int} {far : Int} {n s : Nat} {N : Nat → Nat} (hs : s < 2 ^ n) (hd : ∀ v i, v < n → i < n → 0 ≤ d v i) (hN : ∀ i, i < n → ∀ v, (N i).testBit v = true ↔ v < n ∧ d v i ≤ far) :
    fnB d far s n n = true ↔ FineN N s 0 0 := by
  have hlt : ∀ i, s.testBit i = true → i < n := fun i hi => by
    rcases Nat.lt_or_ge i n with h | h
    · exact h
    · have := Nat.ge_two_pow_of_testBit hi
      have := Nat.pow_le_pow_right (show 2 > 0 by omega) h
      omega
  rw [fnB_iff]
  constructor
  · intro h
    refine ⟨fun i _ _ v ⟨_, h2⟩ => by simp at h2, fun i j _ hij h1 h2 v ⟨h3, h4⟩ => ?_⟩
    obtain ⟨hv, h5⟩ := (hN i (hlt i h1) v).1 h3
    obtain ⟨_, h6⟩ := (hN j (hlt j h2) v).1 h4
    have := h v hv
    have := nrB_two (d := d) (far := far) (v := v) ⟨h1, hd v i hv (hlt i h1), h5⟩ ⟨h2, hd v j hv (hlt j h2), h6⟩ hij (m := n) (hlt j h2)
    omega
  · rintro ⟨_, h⟩ v hv
    refine nrB_one fun i k hik hk ⟨h1, _, h3⟩ ⟨h4, _, h6⟩ => ?_
    exact h i k (by omega) hik h1 h4 v ⟨(hN i (by omega) v).2 ⟨hv, h3⟩, (hN k hk v).2 ⟨hv, h6⟩⟩
theorem mw_pkB {d : Nat → Nat → Int} {far : Int} {n : Nat} {N : Nat → Nat} (h7 : n ≤ 7) (hd : ∀ v i, v < n → i < n → 0 ≤ d v i) (hN : ∀ i, i < n → ∀ v, (N i).testBit v = true ↔ v < n ∧ d v i ≤ far) : mw N n 0 0 = pkB d far n (2 ^ n) := by
  apply Nat.le_antisymm
  · obtain ⟨s, h1, _, h2, h3⟩ := mw_at N h7 n 0 0 (by omega)
    rw [← h3]
    exact le_pkB h1 ((fine_iff h1 hd hN).2 h2)
  · refine pkB_le _ fun s hs hf => ?_
    rw [← cn_bc h7 hs]
    exact mw_ge N s n 0 0 ((fine_iff hs hd hN).1 hf)
end Go.Proofs.Ytkgomgfhhhdnjaa
namespace Go.Proofs.Ytkgomgfhhhdnjaa
open Go.ChangeShapes Go.WideShapes Go.ChangeAt Go.RowKit
set_option linter.unusedVariables false

/-- A list of nodes as a set. -/
def stO : List Nat → Nat
  | [] => 0
  | i :: J => stO J ||| 2 ^ i
theorem stO_lt {n : Nat} : ∀ {J : List Nat}, (∀ i ∈ J, i < n) → stO J < 2 ^ n
  | [], _ => Nat.two_pow_pos n
  | i :: J, h => Nat.or_lt_two_pow (stO_lt fun j hj => h j (by simp [hj])) (Nat.pow_lt_pow_right (by omega) (h i (by simp)))
theorem stO_iff {J : List Nat} {i : Nat} : (stO J).testBit i = true ↔ i ∈ J := by
  induction J with
  | nil => simp [stO]
  | cons j J ih =>
    simp only [stO, Nat.testBit_or, Bool.or_eq_true, ih, List.mem_cons, Nat.testBit_two_pow, decide_eq_true_eq]
    constructor
    · rintro (h | h)
      · exact .inr h
      · exact .inl h.symm
    · rintro (h | h)
      · exact .inr h.symm
      · exact .inl h
theorem stO_nodup {n : Nat} (h7 : n ≤ 7) : ∀ {J : List Nat}, (∀ i ∈ J, i < n) → J.Nodup → bc 7 (stO J) = J.length
  | [], _, _ => by decide
  | i :: J, h, hd => by
    have h1 : ∀ j ∈ J, j < n := fun j hj => h j (by simp [hj])
    have hd' := List.nodup_cons.1 hd
    have ih := stO_nodup h7 h1 hd'.2
    have hb : (stO J).testBit i = false := by
      cases e : (stO J).testBit i with
      | false => rfl
      | true => exact absurd (stO_iff.1 e) hd'.1
    have := or_all ⟨stO J, pow_128 h7 (stO_lt h1)⟩ ⟨i, by have := h i (by simp); omega⟩ hb
    simp only at this
    simp only [stO, List.length_cons]
    omega
/-- A set as a list of its nodes below m. -/
def memL (s m : Nat) : List Nat := (List.range m).filter fun i => s.testBit i
theorem memL_iff {s m i : Nat} : i ∈ memL s m ↔ i < m ∧ s.testBit i = true := by simp [memL]
theorem memL_nodup (s m : Nat) : (memL s m).Nodup := List.Pairwise.filter _ List.nodup_range
theorem bit_ltn {s n i : Nat} (hs : s < 2 ^ n) (h : s.testBit i = true) : i < n := by
  rcases Nat.lt_or_ge i n with h1 | h1
  · exact h1
  · have := Nat.ge_two_pow_of_testBit h
    have := Nat.pow_le_pow_right (show 2 > 0 by omega) h1
    omega
theorem memL_set {s n : Nat} (hs : s < 2 ^ n) : stO (memL s n) = s := by
  apply Nat.eq_of_testBit_eq
  intro i
  rw [Bool.eq_iff_iff, stO_iff, memL_iff]
  exact ⟨fun h => h.2, fun h => ⟨bit_ltn hs h, h⟩⟩
theorem memL_len {s n : Nat} (h7 : n ≤ 7) (hs : s < 2 ^ n) : (memL s n).length = bc 7 s := by
  rw [← stO_nodup h7 (fun i hi => (memL_iff.1 hi).1) (memL_nodup s n), memL_set hs]

/-- Nodes are near if there is a way that is at most far. -/
def Nr (d : Nat → Nat → Int) (far : Int) (v i : Nat) : Prop := 0 ≤ d v i ∧ d v i ≤ far
/-- Whether one of the set below m is near v. -/
def nbB (d : Nat → Nat → Int) (far : Int) (s v : Nat) : Nat → Bool
  | 0 => false
  | m + 1 => nbB d far s v m || (s.testBit m && (decide (0 ≤ d v m) && decide (d v m ≤ far)))
theorem nbB_iff {d : Nat → Nat → Int} {far : Int} {s v : Nat} : ∀ m, nbB d far s v m = true ↔ ∃ i, i < m ∧ s.testBit i = true ∧ Nr d far v i
  | 0 => by simp [nbB]
  | m + 1 => by
    simp only [nbB, Bool.or_eq_true, Bool.and_eq_true, decide_eq_true_eq, nbB_iff m]
    constructor
    · rintro (⟨i, h1, h2⟩ | ⟨h1, h2, h3⟩)
      · exact ⟨i, by omega, h2⟩
      · exact ⟨m, by omega, h1, h2, h3⟩
    · rintro ⟨i, h1, h2, h3, h4⟩
      by_cases e : i = m
      · subst e; exact .inr ⟨h2, h3, h4⟩
      · exact .inl ⟨i, by omega, h2, h3, h4⟩
/-- Whether each node below v has one of the set near. -/
def cvF (d : Nat → Nat → Int) (far : Int) (s n : Nat) : Nat → Bool
  | 0 => true
  | v + 1 => cvF d far s n v && nbB d far s v n
theorem cvF_iff {d : Nat → Nat → Int} {far : Int} {s n : Nat} : ∀ m, cvF d far s n m = true ↔ ∀ v, v < m → ∃ i, i < n ∧ s.testBit i = true ∧ Nr d far v i
  | 0 => by simp [cvF]
  | m + 1 => by
    simp only [cvF, Bool.and_eq_true, cvF_iff m, nbB_iff]
    constructor
    · rintro ⟨h1, h2⟩ v hv
      by_cases e : v = m
      · subst e; exact h2
      · exact h1 v (by omega)
    · intro h
      exact ⟨fun v hv => h v (by omega), h m (by omega)⟩
theorem cvF_false {d : Nat → Nat → Int} {far : Int} {s n v : Nat} (h : cvF d far s n v = false) : ∀ m, v ≤ m → cvF d far s n m = false := by
  intro m hm
  induction m with
  | zero => have : v = 0 := by omega
            subst this; exact h
  | succ m ih =>
    by_cases e : v = m + 1
    · subst e; exact h
    · simp only [cvF, ih (by omega)]; rfl
/-- The fewest nodes of a cover among the sets below S. -/
def cvN (d : Nat → Nat → Int) (far : Int) (n : Nat) : Nat → Nat
  | 0 => n
  | S + 1 => if cvF d far S n n = true then min (cvN d far n S) (bc 7 S) else cvN d far n S
theorem cvN_bd (d : Nat → Nat → Int) (far : Int) (n : Nat) : ∀ S, cvN d far n S ≤ n
  | 0 => Nat.le_refl _
  | S + 1 => by have := cvN_bd d far n S; simp only [cvN]; split <;> omega
theorem cvN_le {d : Nat → Nat → Int} {far : Int} {n : Nat} : ∀ {S s : Nat}, s < S → cvF d far s n n = true → cvN d far n S ≤ bc 7 s
  | 0, s, h, _ => by omega
  | S + 1, s, h, hf => by
    simp only [cvN]
    by_cases e : s = S
    · subst e; rw [if_pos hf]; omega
    · have := cvN_le (d := d) (far := far) (n := n) (show s < S by omega) hf
      split <;> omega
theorem le_cvN {d : Nat → Nat → Int} {far : Int} {n c : Nat} (hc : c ≤ n) : ∀ S, (∀ s, s < S → cvF d far s n n = true → c ≤ bc 7 s) → c ≤ cvN d far n S
  | 0, _ => hc
  | S + 1, h => by
    have ih := le_cvN (d := d) (far := far) (n := n) hc S fun s hs => h s (by omega)
    simp only [cvN]
    split
    · rename_i hf
      have := h S (by omega) hf
      omega
    · exact ih
theorem cvN_at {d : Nat → Nat → Int} {far : Int} {n : Nat} : ∀ S, cvN d far n S = n ∨ ∃ s, s < S ∧ cvF d far s n n = true ∧ bc 7 s = cvN d far n S
  | 0 => .inl rfl
  | S + 1 => by
    have ih := cvN_at (d := d) (far := far) (n := n) S
    simp only [cvN]
    split
    · rename_i hf
      by_cases hl : bc 7 S ≤ cvN d far n S
      · right; exact ⟨S, by omega, hf, by omega⟩
      · rcases ih with h | ⟨s, h1, h2, h3⟩
        · left; omega
        · right; exact ⟨s, by omega, h2, by omega⟩
    · rcases ih with h | ⟨s, h1, h2, h3⟩
      · exact .inl h
      · right; exact ⟨s, by omega, h2, h3⟩
/-- A cover as a list of nodes. -/
def Cov (d : Nat → Nat → Int) (far : Int) (n : Nat) (P : List Nat) : Prop := (∀ i ∈ P, i < n) ∧ ∀ v, v < n → ∃ i ∈ P, Nr d far v i
/-- Nodes of which no two are near one node. -/
def Apt (d : Nat → Nat → Int) (far : Int) (n : Nat) (J : List Nat) : Prop := (∀ i ∈ J, i < n) ∧ J.Nodup ∧ ∀ i ∈ J, ∀ k ∈ J, i ≠ k → ∀ v, v < n → ¬ (Nr d far v i ∧ Nr d far v k)
theorem cov_set {d : Nat → Nat → Int} {far : Int} {n : Nat} {P : List Nat} (h : Cov d far n P) : stO P < 2 ^ n ∧ cvF d far (stO P) n n = true := by
  refine ⟨stO_lt h.1, (cvF_iff n).2 fun v hv => ?_⟩
  obtain ⟨i, hi, hn⟩ := h.2 v hv
  exact ⟨i, h.1 i hi, stO_iff.2 hi, hn⟩
theorem cov_memL {d : Nat → Nat → Int} {far : Int} {s n : Nat} (h : cvF d far s n n = true) : Cov d far n (memL s n) :=
  ⟨fun i hi => (memL_iff.1 hi).1, fun v hv => by
    obtain ⟨i, hi, hb, hn⟩ := (cvF_iff n).1 h v hv
    exact ⟨i, memL_iff.2 ⟨hi, hb⟩, hn⟩⟩
theorem eraseDups_sub {P : List Nat} {i : Nat} : i ∈ P.eraseDups ↔ i ∈ P := List.mem_eraseDups
/-- A cover's set has no more nodes than the list. -/
theorem bc_le_len {n : Nat} (h7 : n ≤ 7) {P : List Nat} (h : ∀ i ∈ P, i < n) : bc 7 (stO P) ≤ P.length := by
  induction P with
  | nil => decide
  | cons i P ih =>
    have h1 : ∀ j ∈ P, j < n := fun j hj => h j (by simp [hj])
    have ih := ih h1
    simp only [stO, List.length_cons]
    cases hb : (stO P).testBit i with
    | false =>
      have := or_all ⟨stO P, pow_128 h7 (stO_lt h1)⟩ ⟨i, by have := h i (by simp); omega⟩ hb
      simp only at this
      omega
    | true =>
      have e : stO P ||| 2 ^ i = stO P := by
        apply Nat.eq_of_testBit_eq
        intro j
        rw [Nat.testBit_or, Nat.testBit_two_pow]
        by_cases e : i = j
        · subst e; simp [hb]
        · simp [e]
      rw [e]; omega
theorem cvN_le_cov {d : Nat → Nat → Int} {far : Int} {n : Nat} (h7 : n ≤ 7) {P : List Nat} (h : Cov d far n P) : cvN d far n (2 ^ n) ≤ P.length :=
  Nat.le_trans (cvN_le (cov_set h).1 (cov_set h).2) (bc_le_len h7 h.1)
/-- There is a cover with as many nodes as the fewest. -/
theorem cov_least {d : Nat → Nat → Int} {far : Int} {n : Nat} (h7 : n ≤ 7) (h0 : ∀ a, a < n → d a a = 0) (hf : 0 ≤ far) : ∃ P, Cov d far n P ∧ P.Nodup ∧ P.length = cvN d far n (2 ^ n) := by
  rcases cvN_at (d := d) (far := far) (n := n) (2 ^ n) with h | ⟨s, h1, h2, h3⟩
  · exact ⟨List.range n, ⟨fun i hi => List.mem_range.1 hi, fun v hv => ⟨v, List.mem_range.2 hv, by unfold Nr; rw [h0 v hv]; omega⟩⟩, List.nodup_range, by rw [List.length_range, h]⟩
  · exact ⟨memL s n, cov_memL h2, memL_nodup s n, by rw [memL_len h7 h1, h3]⟩
/-- Those apart as a set. -/
theorem nrB_le_one {d : Nat → Nat → Int} {far : Int} {s v n : Nat} (h : nrB d far s v n ≤ 1) {i k : Nat} (hi : i < n) (hk : k < n) (hbi : s.testBit i = true) (hbk : s.testBit k = true) (hne : i ≠ k) : ¬ (Nr d far v i ∧ Nr d far v k) := by
  rintro ⟨h1, h2⟩
  rcases Nat.lt_or_ge i k with hik | hik
  · have := nrB_two (d := d) (far := far) (s := s) (v := v) ⟨hbi, h1.1, h1.2⟩ ⟨hbk, h2.1, h2.2⟩ hik (m := n) hk
    omega
  · have := nrB_two (d := d) (far := far) (s := s) (v := v) ⟨hbk, h2.1, h2.2⟩ ⟨hbi, h1.1, h1.2⟩ (by omega) (m := n) hi
    omega
theorem apt_set {d : Nat → Nat → Int} {far : Int} {n : Nat} {J : List Nat} (h : Apt d far n J) : stO J < 2 ^ n ∧ fnB d far (stO J) n n = true := by
  refine ⟨stO_lt h.1, (fnB_iff n).2 fun v hv => nrB_one fun i k hik hk h1 h2 => ?_⟩
  exact h.2.2 i (stO_iff.1 h1.1) k (stO_iff.1 h2.1) (by omega) v hv ⟨h1.2, h2.2⟩
theorem apt_memL {d : Nat → Nat → Int} {far : Int} {s n : Nat} (h : fnB d far s n n = true) : Apt d far n (memL s n) :=
  ⟨fun i hi => (memL_iff.1 hi).1, memL_nodup s n, fun i hi k hk hne v hv => nrB_le_one ((fnB_iff n).1 h v hv) (memL_iff.1 hi).1 (memL_iff.1 hk).1 (memL_iff.1 hi).2 (memL_iff.1 hk).2 hne⟩
theorem apt_le_pkB {d : Nat → Nat → Int} {far : Int} {n : Nat} (h7 : n ≤ 7) {J : List Nat} (h : Apt d far n J) : J.length ≤ pkB d far n (2 ^ n) := by
  rw [← stO_nodup h7 h.1 h.2.1]
  exact le_pkB (apt_set h).1 (apt_set h).2
theorem pkB_at {d : Nat → Nat → Int} {far : Int} {n : Nat} : ∀ S, 1 ≤ S → ∃ s, s < S ∧ fnB d far s n n = true ∧ bc 7 s = pkB d far n S
  | 0, h => by omega
  | 1, _ => ⟨0, by omega, (fnB_iff n).2 fun v hv => by rw [nrB_none (fun i hi => by simp)]; omega, by
      have : fnB d far 0 n n = true := (fnB_iff n).2 fun v hv => by rw [nrB_none (fun i hi => by simp)]; omega
      simp only [pkB]; rw [if_pos this]; decide⟩
  | S + 2, _ => by
    obtain ⟨s, h1, h2, h3⟩ := pkB_at (d := d) (far := far) (n := n) (S + 1) (by omega)
    rw [show pkB d far n (S + 2) = if fnB d far (S + 1) n n = true then max (pkB d far n (S + 1)) (bc 7 (S + 1)) else pkB d far n (S + 1) from rfl]
    split
    · rename_i hf
      by_cases hl : pkB d far n (S + 1) ≤ bc 7 (S + 1)
      · exact ⟨S + 1, by omega, hf, by omega⟩
      · exact ⟨s, by omega, h2, by omega⟩
    · exact ⟨s, by omega, h2, h3⟩
theorem apt_most (d : Nat → Nat → Int) (far : Int) {n : Nat} (h7 : n ≤ 7) : ∃ J, Apt d far n J ∧ J.length = pkB d far n (2 ^ n) := by
  obtain ⟨s, h1, h2, h3⟩ := pkB_at (d := d) (far := far) (n := n) (2 ^ n) (Nat.two_pow_pos n)
  exact ⟨memL s n, apt_memL h2, by rw [memL_len h7 h1, h3]⟩

/-- Each of those apart has its own node of a cover. -/
theorem apt_le_cov {d : Nat → Nat → Int} {far : Int} {n : Nat} (hs : ∀ a b, a < n → b < n → d a b = d b a) : ∀ {P J : List Nat}, (∀ i ∈ P, i < n) → Apt d far n J → (∀ i ∈ J, ∃ c ∈ P, Nr d far i c) → J.length ≤ P.length
  | [], [], _, _, _ => Nat.le_refl _
  | [], i :: J, _, _, h => by obtain ⟨c, hc, _⟩ := h i (by simp); cases hc
  | c :: P, J, hP, hJ, h => by
    -- those of J that c is near are at most one
    by_cases he : ∃ i ∈ J, Nr d far i c
    · obtain ⟨i, hi, hn⟩ := he
      have hc : c < n := hP c (by simp)
      have hin : i < n := hJ.1 i hi
      have hJ2 : Apt d far n (J.erase i) := ⟨fun k hk => hJ.1 k (List.mem_of_mem_erase hk), hJ.2.1.erase i, fun a ha b hb hne => hJ.2.2 a (List.mem_of_mem_erase ha) b (List.mem_of_mem_erase hb) hne⟩
      have := apt_le_cov hs (P := P) (fun k hk => hP k (by simp [hk])) hJ2 (fun k hk => by
        obtain ⟨hki, hkJ⟩ := (List.Nodup.mem_erase_iff hJ.2.1).1 hk
        obtain ⟨b, hb, hbn⟩ := h k hkJ
        rcases List.mem_cons.1 hb with e | hb
        · subst e
          have hk2 : k < n := hJ.1 k hkJ
          exact absurd ⟨by unfold Nr at hbn ⊢; rw [hs b k hc hk2]; exact hbn, by unfold Nr at hn ⊢; rw [hs b i hc hin]; exact hn⟩ (hJ.2.2 k hkJ i hi hki b hc)
        · exact ⟨b, hb, hbn⟩)
      rw [List.length_erase_of_mem hi] at this
      rw [List.length_cons]
      omega
    · have := apt_le_cov hs (P := P) (fun k hk => hP k (by simp [hk])) hJ (fun k hk => by
        obtain ⟨b, hb, hbn⟩ := h k hk
        rcases List.mem_cons.1 hb with e | hb
        · subst e; exact absurd ⟨k, hk, hbn⟩ he
        · exact ⟨b, hb, hbn⟩)
      rw [List.length_cons]; omega
/-- Covers are no fewer than those apart. -/
theorem pk_le_cv {d : Nat → Nat → Int} {far : Int} {n : Nat} (h7 : n ≤ 7) (hs : ∀ a b, a < n → b < n → d a b = d b a) (h0 : ∀ a, a < n → d a a = 0) (hf : 0 ≤ far) : pkB d far n (2 ^ n) ≤ cvN d far n (2 ^ n) := by
  obtain ⟨J, hJ, hJl⟩ := apt_most d far h7
  obtain ⟨P, hP, _, hPl⟩ := cov_least (d := d) h7 h0 hf
  rw [← hJl, ← hPl]
  exact apt_le_cov hs hP.1 hJ (fun i hi => hP.2 i (hJ.1 i hi))
theorem cov_mono {d : Nat → Nat → Int} {far far' : Int} {n : Nat} {P : List Nat} (h : Cov d far n P) (hf : far ≤ far') : Cov d far' n P :=
  ⟨h.1, fun v hv => by obtain ⟨i, hi, h1, h2⟩ := h.2 v hv; exact ⟨i, hi, h1, by omega⟩⟩
/-- Farther, no more are needed. -/
theorem cvN_mono {d : Nat → Nat → Int} {far far' : Int} {n : Nat} (h7 : n ≤ 7) (h0 : ∀ a, a < n → d a a = 0) (hf : 0 ≤ far) (hff : far ≤ far') : cvN d far' n (2 ^ n) ≤ cvN d far n (2 ^ n) := by
  obtain ⟨P, hP, _, hPl⟩ := cov_least (d := d) h7 h0 hf
  rw [← hPl]
  exact cvN_le_cov h7 (cov_mono hP hff)
theorem cvN_pos {d : Nat → Nat → Int} {far : Int} {n : Nat} (h7 : n ≤ 7) (h1 : 1 ≤ n) (h0 : ∀ a, a < n → d a a = 0) (hf : 0 ≤ far) : 1 ≤ cvN d far n (2 ^ n) := by
  obtain ⟨P, hP, _, hPl⟩ := cov_least (d := d) h7 h0 hf
  rw [← hPl]
  obtain ⟨i, hi, _⟩ := hP.2 0 h1
  cases P with
  | nil => cases hi
  | cons _ _ => simp
/-- Of no way all nodes are apart. -/
theorem pkB_zero {d : Nat → Nat → Int} {n : Nat} (h7 : n ≤ 7) (hp : ∀ a b, a < n → b < n → a ≠ b → d a b < 0 ∨ 0 < d a b) : n ≤ pkB d 0 n (2 ^ n) := by
  have hA : Apt d 0 n (List.range n) := ⟨fun i hi => List.mem_range.1 hi, List.nodup_range, fun i hi k hk hne v hv ⟨h1, h2⟩ => by
    have hi' := List.mem_range.1 hi
    have hk' := List.mem_range.1 hk
    unfold Nr at h1 h2
    by_cases e : v = i
    · subst e
      have := hp v k hv hk' hne
      omega
    · have := hp v i hv hi' e
      omega⟩
  have := apt_le_pkB h7 hA
  rwa [List.length_range] at this
theorem pkB_pos {d : Nat → Nat → Int} {far : Int} {n : Nat} (h7 : n ≤ 7) (h1 : 1 ≤ n) : 1 ≤ pkB d far n (2 ^ n) :=
  apt_le_pkB h7 (J := [0]) ⟨fun i hi => by simp at hi; omega, by simp, fun i hi k hk hne => by simp at hi hk; omega⟩
theorem pkB_le_n (d : Nat → Nat → Int) (far : Int) {n : Nat} (h7 : n ≤ 7) : pkB d far n (2 ^ n) ≤ n := by
  obtain ⟨J, hJ, hJl⟩ := apt_most d far h7
  rw [← hJl]
  have := List.Nodup.length_le_of_subset hJ.2.1 (l₂ := List.range n) (fun i hi => List.mem_range.2 (hJ.1 i hi))
  rwa [List.length_range] at this
end Go.Proofs.Ytkgomgfhhhdnjaa
