/-
  Words and small contracts that all proofs of this seat use: a slice that reads as a list of ints; copies of slices and their comparison.
  Conditions: none beyond what each theorem states.
  Trees by parents: how far nodes are, who is behind a node, and that sums go over roads.
  Conditions: each node's road goes to a node ahead of it.
  The most sets without a common node, taken one by one, are the most nodes of a set that is fine.
  Conditions: at most seven nodes.
-/
import Derived.Test.YtdhelapgdgekfaaRows
import Derived.WalkKit
import Derived.ProofKit
import Derived.OpenShut
import Derived.ChangeOld
import Derived.Below
import Derived.RegionTactic
import Derived.ChangeAlike
import Derived.Deep.QuietTactic
import Derived.BigQuiet
import Derived.Lib.Hide
import Derived.IntWalk
import Derived.Outline
namespace Go.Proofs.Ytdhelapgdgekfaa
open Go.ChangeShapes Go.WideShapes Go.ChangeAt Go.RowKit
set_option linter.unusedVariables false

/-- The slice with address A reads as the ints zs, below block B. -/
def RdI (w : World) (B : Nat) (A : Option Addr) (zs : List Int) : Prop :=
  0 < zs.length → ∃ b off, A = some ⟨b, off, none⟩ ∧ b < B ∧ ∀ i, i < zs.length → w.cell? ⟨b, off + i, none⟩ = some (.int .i64 (zs.getD i 0))

theorem RdI.at_ {w : World} {B : Nat} {A : Option Addr} {zs : List Int} (h : RdI w B A zs) {k : Nat} (hk : k < zs.length) :
    ∃ b off, A = some ⟨b, off, none⟩ ∧ b < B ∧ w.cell? ⟨b, off + k, none⟩ = some (.int .i64 (zs.getD k 0)) := by
  obtain ⟨b, off, e, hb, hc⟩ := h (by omega)
  exact ⟨b, off, e, hb, hc k hk⟩
/-- The same, the number under a name of its own, its value hidden from the walk. -/
theorem RdI.x {w : World} {B : Nat} {A : Option Addr} {zs : List Int} (h : RdI w B A zs) {k : Nat} (hk : k < zs.length) :
    ∃ b off x, A = some ⟨b, off, none⟩ ∧ b < B ∧ Hid (zs.getD k 0 = x) ∧ w.cell? ⟨b, off + k, none⟩ = some (.int .i64 x) := by
  obtain ⟨b, off, e, hb, hc⟩ := h (by omega)
  exact ⟨b, off, _, e, hb, rfl, hc k hk⟩
theorem RdI.keep {w w' : World} {B : Nat} {A : Option Addr} {zs : List Int} (h : RdI w B A zs) (hk : ∀ p : Addr, p.block < B → w'.cell? p = w.cell? p) : RdI w' B A zs := fun hp => by
  obtain ⟨b, off, e, hb, hc⟩ := h hp
  exact ⟨b, off, e, hb, fun i hi => (hk _ hb).trans (hc i hi)⟩
theorem RdI.below {w w' : World} {B : Nat} {A : Option Addr} {zs : List Int} (h : RdI w B A zs) (hb : Below B w w') : RdI w' B A zs := h.keep fun _ hp => hb.cell hp
theorem RdI.more {w : World} {B B' : Nat} {A : Option Addr} {zs : List Int} (h : RdI w B A zs) (hB : B ≤ B') : RdI w B' A zs := fun hp => by
  obtain ⟨b, off, e, hb, hc⟩ := h hp
  exact ⟨b, off, e, by omega, hc⟩
theorem RdI.drewN {w : World} {B : Nat} {A : Option Addr} {zs : List Int} (h : RdI w B A zs) (n : Nat) : RdI (w.drewN n) B A zs := h
theorem RdI.nil (w : World) (B : Nat) (A : Option Addr) : RdI w B A [] := fun h => absurd h (by simp)
theorem below_drewN {B : Nat} {a w : World} (h : Below B a w) (n : Nat) : Below B a (w.drewN n) := ⟨h.os, h.tape, h.output, h.size, h.block⟩

/-- A slice of ints that came in, as the frame of a law hands it over. -/
theorem rdI_row {w : World} {x : Addr} {len cap : Nat} {zs : List Int} (hl : len ≤ cap) (hz : zs.length = cap) (hcell : ∀ i, i < zs.length → w.cell? (x.add i) = some (.int .i64 (zs.getD i 0)))
    (hwz : ∀ n ∈ zs, (Lit.int .i64 n).wf = true) : RdI w w.heap.size (some x) (zs.take len) ∧ (zs.take len).length = len := by
  have hlen : (zs.take len).length = len := by rw [List.length_take]; omega
  refine ⟨fun hp => ?_, hlen⟩
  rw [hlen] at hp ⊢
  obtain ⟨b, off, spot⟩ := x
  have hc := hcell 0 (by omega)
  have hspot : spot = none := by simpa [Addr.add] using World.cell?_spot hc
  subst hspot
  refine ⟨b, off, rfl, World.block_lt_of_cell? w _ (by simpa [Addr.add] using hc), fun i hi => ?_⟩
  have h := hcell i (by omega)
  rw [show (⟨b, off, none⟩ : Addr).add i = ⟨b, off + i, none⟩ by unfold Addr.add; split <;> simp_all] at h
  rw [h]
  simp [hi]

/-- The slice with address A reads as the bytes bs, below block B. -/
def RdB (w : World) (B : Nat) (A : Option Addr) (bs : List Int) : Prop :=
  (∀ n ∈ bs, 0 ≤ n ∧ n ≤ 255) ∧ (0 < bs.length → ∃ b off, A = some ⟨b, off, none⟩ ∧ b < B ∧ ∀ i, i < bs.length → w.cell? ⟨b, off + i, none⟩ = some (.int .u8 (bs.getD i 0)))
theorem RdB.nil (w : World) (B : Nat) (A : Option Addr) : RdB w B A [] := ⟨by simp, fun h => absurd h (by simp)⟩
theorem RdB.keep {w w' : World} {B : Nat} {A : Option Addr} {zs : List Int} (h : RdB w B A zs) (hk : ∀ p : Addr, p.block < B → w'.cell? p = w.cell? p) : RdB w' B A zs := ⟨h.1, fun hp => by
  obtain ⟨b, off, e, hb, hc⟩ := h.2 hp
  exact ⟨b, off, e, hb, fun i hi => (hk _ hb).trans (hc i hi)⟩⟩
theorem RdB.below {w w' : World} {B : Nat} {A : Option Addr} {zs : List Int} (h : RdB w B A zs) (hb : Below B w w') : RdB w' B A zs := h.keep fun _ hp => hb.cell hp
theorem RdB.more {w : World} {B B' : Nat} {A : Option Addr} {zs : List Int} (h : RdB w B A zs) (hB : B ≤ B') : RdB w B' A zs := ⟨h.1, fun hp => by
  obtain ⟨b, off, e, hb, hc⟩ := h.2 hp
  exact ⟨b, off, e, by omega, hc⟩⟩
theorem RdB.x {w : World} {B : Nat} {A : Option Addr} {zs : List Int} (h : RdB w B A zs) {k : Nat} (hk : k < zs.length) :
    ∃ b off x, A = some ⟨b, off, none⟩ ∧ b < B ∧ Hid (zs.getD k 0 = x) ∧ 0 ≤ x ∧ x ≤ 255 ∧ w.cell? ⟨b, off + k, none⟩ = some (.int .u8 x) := by
  obtain ⟨b, off, e, hb, hc⟩ := h.2 (by omega)
  have hm : zs.getD k 0 ∈ zs := by simp [List.getD, List.getElem?_eq_getElem hk]
  exact ⟨b, off, _, e, hb, rfl, (h.1 _ hm).1, (h.1 _ hm).2, hc k hk⟩
/-- A slice of bytes that came in, as the frame of a law hands it over. -/
theorem rdB_row {w : World} {x : Addr} {len cap : Nat} {zs : List Int} (hl : len ≤ cap) (hz : zs.length = cap) (hcell : ∀ i, i < zs.length → w.cell? (x.add i) = some (.int .u8 (zs.getD i 0)))
    (hwz : ∀ n ∈ zs, (Lit.int .u8 n).wf = true) : RdB w w.heap.size (some x) (zs.take len) ∧ (zs.take len).length = len := by
  have hlen : (zs.take len).length = len := by rw [List.length_take]; omega
  refine ⟨⟨fun n hn => ?_, fun hp => ?_⟩, hlen⟩
  · have h := hwz n (List.mem_of_mem_take hn)
    simp [Lit.wf, IntKind.min, IntKind.max, IntKind.signed, IntKind.bits] at h
    omega
  rw [hlen] at hp ⊢
  obtain ⟨b, off, spot⟩ := x
  have hc := hcell 0 (by omega)
  have hspot : spot = none := by simpa [Addr.add] using World.cell?_spot hc
  subst hspot
  refine ⟨b, off, rfl, World.block_lt_of_cell? w _ (by simpa [Addr.add] using hc), fun i hi => ?_⟩
  have h := hcell i (by omega)
  rw [show (⟨b, off, none⟩ : Addr).add i = ⟨b, off + i, none⟩ by unfold Addr.add; split <;> simp_all] at h
  rw [h]
  simp [hi]

/-- What is kept from a drawn world on is kept from the world before the draws. -/
theorem below_from {a w : World} {n : Nat} (h : Below (a.drewN n).heap.size (a.drewN n) w) : Below a.heap.size a w := ⟨h.os, h.tape, h.output, h.size, h.block⟩

theorem ret_int {k : IntKind} {a b : Int} (h : a = b) : Ending.returned (.int k a) = .returned (.int k b) := by rw [h]
theorem ret_bool {a b : Bool} (h : a = b) : Ending.returned (.bool a) = .returned (.bool b) := by rw [h]

theorem intInfo : (Try.prog.info? 3).map (fun i => (i.zero, i.size, i.bytes)) = some (some (.int .i64 0), 1, 8) := by kernel_rfl

/-- inRange: a test of three numbers. -/
theorem inRange_any (n a b : Int) (w : World) :
    Calls Try.prog 68 #[.int .i64 n, .int .i64 a, .int .i64 b] w fun e w' => e = .returned (.bool (decide (a ≤ n) && decide (n ≤ b))) ∧ w = w' := by
  by_cases h1 : a ≤ n <;> by_cases h2 : n ≤ b
  all_goals
    go_enter Try.func68, Try.ntmps68
    go_wp2
    go_ret
    exact ⟨ret_bool (by simp [h1, h2]), rfl⟩

/-- toIntS: a copy in a new block. -/
def Copied (w : World) (zs : List Int) (e : Ending) (w' : World) : Prop :=
  ∃ b, e = .returned (.slice (some ⟨b, 0, none⟩) zs.length zs.length) ∧ w.heap.size ≤ b ∧ RdI w' w'.heap.size (some ⟨b, 0, none⟩) zs ∧ Below w.heap.size w w' ∧ w'.ownsRow w.heap.size 3 1 (.slice (some ⟨b, 0, none⟩) zs.length zs.length) zs.length (zs.map (Value.int .i64))
end Go.Proofs.Ytdhelapgdgekfaa
namespace Go.Proofs.Ytdhelapgdgekfaa
open Go.ChangeShapes Go.WideShapes Go.ChangeAt Go.RowKit
set_option linter.unusedVariables false

def tto (t : List (Int × Int)) (i : Nat) : Nat := (t.getD i (-1, 0)).1.toNat
def tlg (t : List (Int × Int)) (i : Nat) : Int := (t.getD i (-1, 0)).2
/-- Each road goes ahead. -/
def Ahead (t : List (Int × Int)) : Prop := ∀ i, 1 ≤ i → i < t.length → tto t i < i ∧ 1 ≤ tlg t i ∧ tlg t i ≤ 9
/-- How far nodes below n are from each other. -/
def dn (t : List (Int × Int)) : Nat → Nat → Nat → Int
  | 0, _, _ => 0
  | n + 1, i, k => if i = n then (if k = n then 0 else dn t n (tto t n) k + tlg t n) else if k = n then dn t n (tto t n) i + tlg t n else dn t n i k
theorem dn_symm (t : List (Int × Int)) : ∀ n i k, dn t n i k = dn t n k i
  | 0, _, _ => rfl
  | n + 1, i, k => by
    simp only [dn]
    by_cases h1 : i = n <;> by_cases h2 : k = n <;> simp only [h1, h2, if_true, if_false]
    exact dn_symm t n i k
theorem dn_old {t : List (Int × Int)} {n i k : Nat} (hi : i < n) (hk : k < n) : dn t (n + 1) i k = dn t n i k := by
  simp only [dn]; rw [if_neg (by omega), if_neg (by omega)]
theorem dn_new {t : List (Int × Int)} {n k : Nat} (hk : k < n) : dn t (n + 1) n k = dn t n (tto t n) k + tlg t n := by
  simp only [dn, if_true]; rw [if_neg (by omega)]
theorem dn_diag (t : List (Int × Int)) : ∀ n i, i < n → dn t n i i = 0
  | 0, _, h => by omega
  | n + 1, i, h => by
    by_cases hi : i = n
    · subst hi; simp [dn]
    · rw [dn_old (by omega) (by omega)]; exact dn_diag t n i (by omega)
theorem dn_same {t : List (Int × Int)} {n i k : Nat} (hi : i < n) (hk : k < n) : ∀ {m}, n ≤ m → dn t m i k = dn t n i k := by
  intro m h
  induction h with
  | refl => rfl
  | @step m hm ih => have : n ≤ m := hm; rw [dn_old (by omega) (by omega), ih]
/-- The row of a node, as it is made: over its road. -/
theorem dn_road {t : List (Int × Int)} {n i k : Nat} (ht : Ahead t) (hn : n ≤ t.length) (hi : i < n) (hk : k < i) : dn t n i k = dn t n (tto t i) k + tlg t i := by
  have h := ht i (by omega) (by omega)
  rw [dn_same (n := i + 1) (i := i) (by omega) (by omega) (show i + 1 ≤ n by omega), dn_new hk, dn_same (n := i) (m := n) (i := tto t i) h.1 hk (by omega)]
theorem dn_bd {t : List (Int × Int)} (ht : Ahead t) : ∀ n i k, n ≤ t.length → i < n → k < n → 0 ≤ dn t n i k ∧ dn t n i k + 9 ≤ 9 * n
  | 0, _, _, _, h, _ => by omega
  | n + 1, i, k, hn, hi, hk => by
    by_cases h0 : n = 0
    · subst h0
      obtain rfl : i = 0 := by omega
      obtain rfl : k = 0 := by omega
      simp [dn]
    · have hr := ht n (by omega) (by omega)
      simp only [dn]
      split
      · split
        · omega
        · have := dn_bd ht n (tto t n) k (by omega) hr.1 (by omega); omega
      · split
        · have := dn_bd ht n (tto t n) i (by omega) hr.1 (by omega); omega
        · have := dn_bd ht n i k (by omega) (by omega) (by omega); omega

/-- From a node up, over roads, while it is greater than j. -/
def tpf (t : List (Int × Int)) (j : Nat) : Nat → Nat → Nat
  | 0, i => i
  | f + 1, i => if j < i then tpf t j f (tto t i) else i
def tp (t : List (Int × Int)) (j i : Nat) : Nat := tpf t j i i
theorem tpf_stop {t : List (Int × Int)} {j : Nat} : ∀ {f i : Nat}, ¬ j < i → tpf t j f i = i
  | 0, _, _ => rfl
  | f + 1, i, h => by simp only [tpf]; rw [if_neg h]
theorem tpf_fuel {t : List (Int × Int)} (ht : Ahead t) (j : Nat) : ∀ f f' i, i ≤ f → i ≤ f' → i < t.length → tpf t j f i = tpf t j f' i := by
  intro f
  induction f with
  | zero => intro f' i h _ _; obtain rfl : i = 0 := by omega
            rw [tpf_stop (by omega), tpf_stop (by omega)]
  | succ f ih =>
    intro f' i h h' hl
    by_cases hj : j < i
    · have hr := ht i (by omega) hl
      obtain ⟨g, rfl⟩ : ∃ g, f' = g + 1 := ⟨f' - 1, by omega⟩
      simp only [tpf]
      rw [if_pos hj, if_pos hj]
      exact ih g _ (by omega) (by omega) (by omega)
    · rw [tpf_stop hj, tpf_stop hj]
theorem tp_stop {t : List (Int × Int)} {j i : Nat} (h : ¬ j < i) : tp t j i = i := tpf_stop h
theorem tp_step {t : List (Int × Int)} (ht : Ahead t) {j i : Nat} (h : j < i) (hl : i < t.length) : tp t j i = tp t j (tto t i) := by
  have hr := ht i (by omega) hl
  obtain ⟨g, rfl⟩ : ∃ g, i = g + 1 := ⟨i - 1, by omega⟩
  show (if j < g + 1 then tpf t j g (tto t (g + 1)) else g + 1) = _
  rw [if_pos h]
  exact tpf_fuel ht j _ _ _ (by omega) (by omega) (by omega)
theorem tp_le {t : List (Int × Int)} (ht : Ahead t) {j : Nat} : ∀ i, i < t.length → tp t j i ≤ j ∧ tp t j i ≤ i := by
  intro i
  induction i using Nat.strongRecOn with
  | ind i ih =>
    intro hl
    by_cases h : j < i
    · have hr := ht i (by omega) hl
      rw [tp_step ht h hl]
      have := ih _ hr.1 (by omega)
      omega
    · rw [tp_stop h]; omega
theorem tp_tp {t : List (Int × Int)} (ht : Ahead t) {j j' : Nat} (hj : j' ≤ j) : ∀ i, i < t.length → tp t j' (tp t j i) = tp t j' i := by
  intro i
  induction i using Nat.strongRecOn with
  | ind i ih =>
    intro hl
    by_cases h : j < i
    · have hr := ht i (by omega) hl
      rw [tp_step ht h hl, ih _ hr.1 (by omega), tp_step ht (show j' < i by omega) hl]
    · rw [tp_stop h]
/-- i is behind v, or v itself. -/
def Bh (t : List (Int × Int)) (v i : Nat) : Prop := tp t v i = v
instance (t : List (Int × Int)) (v i : Nat) : Decidable (Bh t v i) := inferInstanceAs (Decidable (_ = _))
theorem bh_self (t : List (Int × Int)) (v : Nat) : Bh t v v := tp_stop (Nat.lt_irrefl v)
theorem bh_le {t : List (Int × Int)} (ht : Ahead t) {v i : Nat} (hl : i < t.length) (h : Bh t v i) : v ≤ i := by
  have := (tp_le ht (j := v) i hl).2
  unfold Bh at h
  omega
theorem bh_trans {t : List (Int × Int)} (ht : Ahead t) {u v i : Nat} (hv : v < t.length) (hl : i < t.length) (h1 : Bh t u v) (h2 : Bh t v i) : Bh t u i := by
  unfold Bh at *
  rw [← tp_tp ht (bh_le ht hv h1) i hl, h2, h1]
theorem bh_chain {t : List (Int × Int)} (ht : Ahead t) {u v i : Nat} (huv : u ≤ v) (hl : i < t.length) (h1 : Bh t u i) (h2 : Bh t v i) : Bh t u v := by
  unfold Bh at *
  have e := tp_tp ht huv i hl
  rw [h2, h1] at e
  exact e
theorem bh_up {t : List (Int × Int)} (ht : Ahead t) {v i : Nat} (hl : i < t.length) (hv : v < i) : Bh t v i ↔ Bh t v (tto t i) := by
  unfold Bh; rw [tp_step ht hv hl]
theorem bh_child {t : List (Int × Int)} (ht : Ahead t) {m : Nat} : ∀ v, v < t.length → Bh t m v → v ≠ m → ∃ c, m < c ∧ c ≤ v ∧ tto t c = m ∧ Bh t c v := by
  intro v
  induction v using Nat.strongRecOn with
  | ind v ih =>
    intro hl h hne
    have hmv := bh_le ht hl h
    have hr := ht v (by omega) hl
    by_cases e : tto t v = m
    · exact ⟨v, by omega, Nat.le_refl _, e, bh_self t v⟩
    · have h' := (bh_up ht hl (by omega)).1 h
      obtain ⟨c, h1, h2, h3, h4⟩ := ih _ hr.1 (by omega) h' e
      exact ⟨c, h1, by omega, h3, (bh_up ht hl (by omega)).2 h4⟩

/-- Who is behind a node is nearer to it than to the next one, by the road's length; all others are farther. -/
theorem dn_over {t : List (Int × Int)} (ht : Ahead t) {n v : Nat} (hn : n ≤ t.length) (hv1 : 1 ≤ v) (hv : v < n) : ∀ i, i < n → dn t n v i = dn t n (tto t v) i + (if Bh t v i then - tlg t v else tlg t v) := by
  have hrv := ht v hv1 (by omega)
  intro i
  induction i using Nat.strongRecOn with
  | ind i ih =>
    intro hi
    rcases Nat.lt_trichotomy i v with h | h | h
    · rw [if_neg (fun hb => by have := bh_le ht (by omega) hb; omega), dn_road ht hn hv h]
    · subst h
      rw [if_pos (bh_self t i), dn_diag t n i hi, dn_symm t n (tto t i) i, dn_road ht hn hi hrv.1, dn_diag t n _ (by omega)]
      omega
    · have hri := ht i (by omega) (by omega)
      rw [dn_symm t n v i, dn_road ht hn hi h, dn_symm t n (tto t v) i, dn_road ht hn hi (by omega), dn_symm t n (tto t i) v, dn_symm t n (tto t i) (tto t v), ih _ hri.1 (by omega)]
      by_cases hb : Bh t v i
      · rw [if_pos hb, if_pos ((bh_up ht (by omega) h).1 hb)]; omega
      · rw [if_neg hb, if_neg (fun hb' => hb ((bh_up ht (by omega) h).2 hb'))]; omega

/-- The sum over the nodes below m of how many are there, times how far they are. -/
def tsm (t : List (Int × Int)) (fs : List Int) (n v : Nat) : Nat → Int
  | 0 => 0
  | m + 1 => tsm t fs n v m + fs.getD m 0 * dn t n v m
/-- How many are behind a node. -/
def beh (t : List (Int × Int)) (fs : List Int) (v : Nat) : Nat → Int
  | 0 => 0
  | m + 1 => beh t fs v m + (if Bh t v m then fs.getD m 0 else 0)
def tot (fs : List Int) : Nat → Int
  | 0 => 0
  | m + 1 => tot fs m + fs.getD m 0
theorem tsm_over {t : List (Int × Int)} {fs : List Int} (ht : Ahead t) {n v : Nat} (hn : n ≤ t.length) (hv1 : 1 ≤ v) (hv : v < n) : ∀ m, m ≤ n → tsm t fs n v m = tsm t fs n (tto t v) m + tlg t v * (tot fs m - 2 * beh t fs v m)
  | 0, _ => by simp [tsm, tot, beh]
  | m + 1, hm => by
    have ih := tsm_over (fs := fs) ht hn hv1 hv m (by omega)
    simp only [tsm, tot, beh]
    rw [ih, dn_over ht hn hv1 hv m (by omega)]
    generalize tlg t v = L
    generalize fs.getD m 0 = f
    generalize dn t n (tto t v) m = d
    generalize tot fs m = T
    generalize beh t fs v m = b
    generalize tsm t fs n (tto t v) m = s
    split
    · have e1 : f * (d + -L) = f * d - L * f := by rw [Int.mul_add, Int.mul_neg, Int.mul_comm f L]; omega
      have e2 : L * (T + f - 2 * (b + f)) = L * (T - 2 * b) - L * f := by rw [← Int.mul_sub]; congr 1; omega
      rw [e1, e2]; omega
    · have e1 : f * (d + L) = f * d + L * f := by rw [Int.mul_add, Int.mul_comm f L]
      have e2 : L * (T + f - 2 * (b + 0)) = L * (T - 2 * b) + L * f := by rw [← Int.mul_add]; congr 1; omega
      rw [e1, e2]; omega
theorem beh_le_tot {t : List (Int × Int)} {fs : List Int} (hf : ∀ i, 0 ≤ fs.getD i 0) (v : Nat) : ∀ m, beh t fs v m ≤ tot fs m
  | 0 => by simp [beh, tot]
  | m + 1 => by have := beh_le_tot (t := t) hf v m; have := hf m; simp only [beh, tot]; split <;> omega
theorem beh_nonneg {t : List (Int × Int)} {fs : List Int} (hf : ∀ i, 0 ≤ fs.getD i 0) (v : Nat) : ∀ m, 0 ≤ beh t fs v m
  | 0 => by simp [beh]
  | m + 1 => by have := beh_nonneg (t := t) hf v m; have := hf m; simp only [beh]; split <;> omega
theorem beh_mono {t : List (Int × Int)} {fs : List Int} (hf : ∀ i, 0 ≤ fs.getD i 0) {u v : Nat} : ∀ m, (∀ i, i < m → Bh t v i → Bh t u i) → beh t fs v m ≤ beh t fs u m
  | 0, _ => by simp [beh]
  | m + 1, h => by
    have ih := beh_mono (t := t) hf (u := u) (v := v) m (fun i hi => h i (by omega))
    have hm := h m (by omega)
    have := hf m
    simp only [beh]
    by_cases hb : Bh t v m
    · rw [if_pos hb, if_pos (hm hb)]; omega
    · rw [if_neg hb]; split <;> omega
theorem beh_apart {t : List (Int × Int)} {fs : List Int} (hf : ∀ i, 0 ≤ fs.getD i 0) {u v : Nat} : ∀ m, (∀ i, i < m → ¬ (Bh t v i ∧ Bh t u i)) → beh t fs v m + beh t fs u m ≤ tot fs m
  | 0, _ => by simp [beh, tot]
  | m + 1, h => by
    have ih := beh_apart (t := t) hf (u := u) (v := v) m (fun i hi => h i (by omega))
    have hm := h m (by omega)
    have := hf m
    simp only [beh, tot]
    by_cases hb : Bh t v m
    · rw [if_pos hb, if_neg (fun hu => hm ⟨hb, hu⟩)]; omega
    · rw [if_neg hb]; split <;> omega

/-- The middle is nearest. -/
theorem middle_nearest {t : List (Int × Int)} {fs : List Int} (ht : Ahead t) (hf : ∀ i, 0 ≤ fs.getD i 0) {n m : Nat} (hn : n = t.length) (hm : m < n) (h1 : 1 ≤ m → 2 * (tot fs n - beh t fs m n) ≤ tot fs n)
    (h2 : ∀ c, m < c → c < n → tto t c = m → 2 * beh t fs c n ≤ tot fs n) : ∀ v, v < n → tsm t fs n m n ≤ tsm t fs n v n := by
  -- nodes on the way from the node 0 to m
  have up : ∀ d v, v + d = m → Bh t v m → tsm t fs n m n ≤ tsm t fs n v n := by
    intro d
    induction d using Nat.strongRecOn with
    | ind d ih =>
      intro v hvd hb
      by_cases hvm : m = v
      · rw [hvm]; exact Int.le_refl _
      · obtain ⟨c, a1, a2, a3, a4⟩ := bh_child ht m (by omega) hb hvm
        have h3 := ih (m - c) (by omega) c (by omega) a4
        have h4 := tsm_over (fs := fs) ht (n := n) (by omega) (show 1 ≤ c by omega) (show c < n by omega) n (Nat.le_refl _)
        rw [a3] at h4
        have h5 := beh_mono (t := t) hf (u := c) (v := m) n (fun i hi hmi => bh_trans ht (by omega) (by omega) a4 hmi)
        have h6 := h1 (by omega)
        have h7 := (ht c (by omega) (by omega)).2.1
        have h8 : 0 ≤ tlg t c * (2 * beh t fs c n - tot fs n) := Int.mul_nonneg (by omega) (by omega)
        have h9 : tlg t c * (tot fs n - 2 * beh t fs c n) = - (tlg t c * (2 * beh t fs c n - tot fs n)) := by rw [← Int.mul_neg]; congr 1; omega
        omega
  intro v
  induction v using Nat.strongRecOn with
  | ind v ih =>
    intro hv
    by_cases hb : Bh t v m
    · have hle := bh_le ht (by omega) hb
      exact up (m - v) v (by omega) hb
    · have hv1 : 1 ≤ v := by
        rcases Nat.eq_zero_or_pos v with h | h
        · subst h
          exact absurd (Nat.le_zero.1 (tp_le ht (j := 0) m (by omega)).1) hb
        · exact h
      have hr := ht v hv1 (by omega)
      have h3 := ih _ hr.1 (by omega)
      have h4 := tsm_over (fs := fs) ht (n := n) (by omega) hv1 hv n (Nat.le_refl _)
      have h5 : 2 * beh t fs v n ≤ tot fs n := by
        by_cases hmv : Bh t m v
        · obtain ⟨c, a1, a2, a3, a4⟩ := bh_child ht v (by omega) hmv (fun e => hb (by rw [e]; exact bh_self t m))
          have := h2 c a1 (by omega) a3
          have := beh_mono (t := t) hf (u := c) (v := v) n (fun i hi hvi => bh_trans ht (by omega) (by omega) a4 hvi)
          omega
        · have hm1 : 1 ≤ m := by
            rcases Nat.eq_zero_or_pos m with h | h
            · subst h
              exact absurd (Nat.le_zero.1 (tp_le ht (j := 0) v (by omega)).1) hmv
            · exact h
          have := beh_apart (t := t) hf (u := m) (v := v) n (fun i hi ⟨hvi, hmi⟩ => by
            rcases Nat.le_total v m with h | h
            · exact hb (bh_chain ht h (by omega) hvi hmi)
            · exact hmv (bh_chain ht h (by omega) hmi hvi))
          have := h1 hm1
          omega
      have h6 : 0 ≤ tlg t v * (tot fs n - 2 * beh t fs v n) := Int.mul_nonneg (by omega) (by omega)
      omega
end Go.Proofs.Ytdhelapgdgekfaa
namespace Go.Proofs.Ytdhelapgdgekfaa
open Go.ChangeShapes Go.WideShapes Go.ChangeAt Go.RowKit
set_option linter.unusedVariables false

/-- How many bits a number below 2^f has. -/
def bc : Nat → Nat → Nat
  | 0, _ => 0
  | f + 1, s => s % 2 + bc f (s / 2)
/-- The bits from k on, m of them. -/
def cn (s : Nat) : Nat → Nat → Nat
  | 0, _ => 0
  | m + 1, k => (if s.testBit k then 1 else 0) + cn s m (k + 1)
theorem cn_all : ∀ n : Fin 8, ∀ s : Fin 128, s.val < 2 ^ n.val → cn s.val n.val 0 = bc 7 s.val := by decide +kernel
theorem pow_128 {n s : Nat} (h7 : n ≤ 7) (hs : s < 2 ^ n) : s < 128 := Nat.lt_of_lt_of_le hs (Nat.pow_le_pow_right (by omega) h7 : 2 ^ n ≤ 2 ^ 7)
theorem cn_bc {n s : Nat} (h7 : n ≤ 7) (hs : s < 2 ^ n) : cn s n 0 = bc 7 s := cn_all ⟨n, by omega⟩ ⟨s, pow_128 h7 hs⟩ hs
theorem or_all : ∀ s : Fin 128, ∀ i : Fin 7, s.val.testBit i.val = false → bc 7 (s.val ||| 2 ^ i.val) = bc 7 s.val + 1 := by decide +kernel
/-- No common bit. -/
def Dj (x y : Nat) : Prop := ∀ v, ¬ (x.testBit v = true ∧ y.testBit v = true)
theorem dj_and {x y : Nat} : x &&& y = 0 ↔ Dj x y := by
  constructor
  · intro h v ⟨h1, h2⟩
    have := Nat.testBit_and x y v
    rw [h, h1, h2] at this
    simp at this
  · intro h
    apply Nat.eq_of_testBit_eq
    intro v
    rw [Nat.testBit_and]
    have := h v
    simp only [Nat.zero_testBit]
    cases h1 : x.testBit v <;> cases h2 : y.testBit v <;> simp_all
theorem dj_or {x y z : Nat} : Dj x (y ||| z) ↔ Dj x y ∧ Dj x z := by
  constructor
  · intro h
    exact ⟨fun v ⟨h1, h2⟩ => h v ⟨h1, by rw [Nat.testBit_or, h2]; rfl⟩, fun v ⟨h1, h2⟩ => h v ⟨h1, by rw [Nat.testBit_or, h2]; simp⟩⟩
  · rintro ⟨h1, h2⟩ v ⟨h3, h4⟩
    rw [Nat.testBit_or, Bool.or_eq_true] at h4
    rcases h4 with h4 | h4
    · exact h1 v ⟨h3, h4⟩
    · exact h2 v ⟨h3, h4⟩
theorem dj_comm {x y : Nat} (h : Dj x y) : Dj y x := fun v ⟨h1, h2⟩ => h v ⟨h2, h1⟩
/-- The most sets N k, N (k + 1) .. (m of them) of which no two have a common bit, nor one of those taken. -/
def mw (N : Nat → Nat) : Nat → Nat → Nat → Nat
  | 0, _, _ => 0
  | m + 1, k, T => if N k &&& T = 0 then max (mw N m (k + 1) T) (1 + mw N m (k + 1) (T ||| N k)) else mw N m (k + 1) T
theorem mw_bd (N : Nat → Nat) : ∀ m k T, mw N m k T ≤ m
  | 0, _, _ => Nat.le_refl _
  | m + 1, k, T => by
    have h1 := mw_bd N m (k + 1) T
    have h2 := mw_bd N m (k + 1) (T ||| N k)
    simp only [mw]; split <;> omega
/-- The sets of s, from k on, have no common bit, nor one of T. -/
def FineN (N : Nat → Nat) (s k T : Nat) : Prop := (∀ i, k ≤ i → s.testBit i = true → Dj (N i) T) ∧ ∀ i j, k ≤ i → i < j → s.testBit i = true → s.testBit j = true → Dj (N i) (N j)
theorem mw_ge (N : Nat → Nat) (s : Nat) : ∀ m k T, FineN N s k T → cn s m k ≤ mw N m k T
  | 0, _, _, _ => Nat.le_refl _
  | m + 1, k, T, h => by
    have h0 : FineN N s (k + 1) T := ⟨fun i hi hs => h.1 i (by omega) hs, fun i j hi hij h1 h2 => h.2 i j (by omega) hij h1 h2⟩
    have ih := mw_ge N s m (k + 1) T h0
    simp only [cn, mw]
    by_cases hk : s.testBit k = true
    · have hd := h.1 k (Nat.le_refl _) hk
      rw [if_pos hk, if_pos (dj_and.2 hd)]
      have h1 : FineN N s (k + 1) (T ||| N k) := ⟨fun i hi hs => dj_or.2 ⟨h.1 i (by omega) hs, dj_comm (h.2 k i (Nat.le_refl _) (by omega) hk hs)⟩, h0.2⟩
      have ih1 := mw_ge N s m (k + 1) (T ||| N k) h1
      omega
    · rw [if_neg hk]
      split <;> omega
theorem mw_at (N : Nat → Nat) {n : Nat} (h7 : n ≤ 7) : ∀ m k T, k + m = n → ∃ s, s < 2 ^ n ∧ (∀ i, i < k → s.testBit i = false) ∧ FineN N s k T ∧ bc 7 s = mw N m k T
  | 0, k, T, _ => ⟨0, Nat.two_pow_pos n, fun i _ => Nat.zero_testBit i, ⟨fun i _ h => by simp at h, fun i j _ _ h => by simp at h⟩, rfl⟩
  | m + 1, k, T, hn => by
    have keep : ∀ {s}, (∀ i, i < k + 1 → s.testBit i = false) → FineN N s (k + 1) T → FineN N s k T := fun hz hf =>
      ⟨fun i hi hs => hf.1 i (by by_cases e : i = k; · subst e; rw [hz i (by omega)] at hs; cases hs
                                 · omega) hs,
       fun i j hi hij h1 h2 => hf.2 i j (by by_cases e : i = k; · subst e; rw [hz i (by omega)] at h1; cases h1
                                            · omega) hij h1 h2⟩
    obtain ⟨s1, a1, b1, c1, d1⟩ := mw_at N h7 m (k + 1) T (by omega)
    simp only [mw]
    by_cases hd : N k &&& T = 0
    · rw [if_pos hd]
      obtain ⟨s2, a2, b2, c2, d2⟩ := mw_at N h7 m (k + 1) (T ||| N k) (by omega)
      by_cases hle : mw N m (k + 1) T ≤ 1 + mw N m (k + 1) (T ||| N k)
      · have hk7 : k < 7 := by omega
        have hs2 := pow_128 h7 a2
        have hbit : ∀ i, (s2 ||| 2 ^ k).testBit i = true → i = k ∨ s2.testBit i = true := fun i hi => by
          rw [Nat.testBit_or, Bool.or_eq_true] at hi
          rcases hi with hi | hi
          · exact .inr hi
          · rw [Nat.testBit_two_pow] at hi; simp at hi; exact .inl hi.symm
        refine ⟨s2 ||| 2 ^ k, Nat.or_lt_two_pow a2 (Nat.pow_lt_pow_right (by omega) (by omega)), fun i hi => ?_, ⟨fun i hi hs => ?_, fun i j hi hij h1 h2 => ?_⟩, ?_⟩
        · rw [Nat.testBit_or, b2 i (by omega), Nat.testBit_two_pow]; simp; omega
        · rcases hbit i hs with rfl | hs'
          · exact dj_and.1 hd
          · have hik : k + 1 ≤ i := by
              by_cases e : i = k
              · subst e; rw [b2 i (by omega)] at hs'; cases hs'
              · omega
            exact (dj_or.1 (c2.1 i hik hs')).1
        · rcases hbit j h2 with rfl | hj
          · omega
          · have hjk : k + 1 ≤ j := by omega
            rcases hbit i h1 with rfl | hi'
            · exact dj_comm (dj_or.1 (c2.1 j hjk hj)).2
            · have hik : k + 1 ≤ i := by
                by_cases e : i = k
                · subst e; rw [b2 i (by omega)] at hi'; cases hi'
                · omega
              exact c2.2 i j hik hij hi' hj
        · rw [or_all ⟨s2, hs2⟩ ⟨k, hk7⟩ (b2 k (by omega)), d2]; omega
      · exact ⟨s1, a1, fun i hi => b1 i (by omega), keep b1 c1, by rw [d1]; omega⟩
    · rw [if_neg hd]
      exact ⟨s1, a1, fun i hi => b1 i (by omega), keep b1 c1, d1⟩
/-- How many of a set are near a node, of the nodes below m. -/
def nrB (d : Nat → Nat → Int) (far : Int) (s v : Nat) : Nat → Nat
  | 0 => 0
  | m + 1 => nrB d far s v m + (if s.testBit m = true ∧ 0 ≤ d v m ∧ d v m ≤ far then 1 else 0)
/-- Whether at each node below v at most one of the set is near. -/
def fnB (d : Nat → Nat → Int) (far : Int) (s n : Nat) : Nat → Bool
  | 0 => true
  | v + 1 => fnB d far s n v && decide (nrB d far s v n ≤ 1)
def pkB (d : Nat → Nat → Int) (far : Int) (n : Nat) : Nat → Nat
  | 0 => 0
  | S + 1 => if fnB d far S n n = true then max (pkB d far n S) (bc 7 S) else pkB d far n S
theorem fnB_iff {d : Nat → Nat → Int} {far : Int} {s n : Nat} : ∀ m, fnB d far s n m = true ↔ ∀ v, v < m → nrB d far s v n ≤ 1
  | 0 => by simp [fnB]
  | m + 1 => by
    simp only [fnB, Bool.and_eq_true, fnB_iff m, decide_eq_true_eq]
    constructor
    · rintro ⟨h1, h2⟩ v hv
      by_cases e : v = m
      · subst e; exact h2
      · exact h1 v (by omega)
    · intro h
      exact ⟨fun v hv => h v (by omega), h m (by omega)⟩
theorem le_pkB {d : Nat → Nat → Int} {far : Int} {n : Nat} : ∀ {S s : Nat}, s < S → fnB d far s n n = true → bc 7 s ≤ pkB d far n S
  | 0, s, h, _ => by omega
  | S + 1, s, h, hf => by
    simp only [pkB]
    by_cases e : s = S
    · subst e; rw [if_pos hf]; omega
    · have := le_pkB (d := d) (far := far) (n := n) (show s < S by omega) hf
      split <;> omega
theorem pkB_le {d : Nat → Nat → Int} {far : Int} {n c : Nat} : ∀ S, (∀ s, s < S → fnB d far s n n = true → bc 7 s ≤ c) → pkB d far n S ≤ c
  | 0, _ => Nat.zero_le _
  | S + 1, h => by
    have ih := pkB_le (d := d) (far := far) (n := n) S fun s hs => h s (by omega)
    simp only [pkB]
    split
    · rename_i hf
      have := h S (by omega) hf
      omega
    · exact ih
theorem nrB_none {d : Nat → Nat → Int} {far : Int} {s v : Nat} : ∀ {m}, (∀ i, i < m → ¬ (s.testBit i = true ∧ 0 ≤ d v i ∧ d v i ≤ far)) → nrB d far s v m = 0
  | 0, _ => rfl
  | m + 1, h => by simp only [nrB]; rw [nrB_none (fun i hi => h i (by omega)), if_neg (h m (by omega))]
theorem nrB_one {d : Nat → Nat → Int} {far : Int} {s v : Nat} : ∀ {m}, (∀ i k, i < k → k < m → (s.testBit i = true ∧ 0 ≤ d v i ∧ d v i ≤ far) → ¬ (s.testBit k = true ∧ 0 ≤ d v k ∧ d v k ≤ far)) → nrB d far s v m ≤ 1
  | 0, _ => by simp [nrB]
  | m + 1, h => by
    have ih := nrB_one (d := d) (far := far) (s := s) (v := v) (m := m) (fun i k hi hk => h i k hi (by omega))
    simp only [nrB]
    by_cases e : s.testBit m = true ∧ 0 ≤ d v m ∧ d v m ≤ far
    · rw [nrB_none (fun i hi h' => h i m hi (by omega) h' e), if_pos e]; omega
    · rw [if_neg e]; omega
theorem nrB_mono {d : Nat → Nat → Int} {far : Int} {s v i : Nat} (h : s.testBit i = true ∧ 0 ≤ d v i ∧ d v i ≤ far) : ∀ {m}, i < m → 1 ≤ nrB d far s v m
  | 0, hi => by omega
  | m + 1, hi => by
    simp only [nrB]
    by_cases e : i = m
    · subst e; rw [if_pos h]; omega
    · have := nrB_mono h (m := m) (by omega); omega
theorem nrB_two {d : Nat → Nat → Int} {far : Int} {s v i k : Nat} (h : s.testBit i = true ∧ 0 ≤ d v i ∧ d v i ≤ far) (hk : s.testBit k = true ∧ 0 ≤ d v k ∧ d v k ≤ far) (hik : i < k) : ∀ {m}, k < m → 2 ≤ nrB d far s v m
  | 0, hm => by omega
  | m + 1, hm => by
    simp only [nrB]
    by_cases e : k = m
    · subst e; rw [if_pos hk]; have := nrB_mono h (m := k) hik; omega
    · have := nrB_two h hk hik (m := m) (by omega); omega
/-- A set is fine just if the nodes near its nodes are apart. -/
theorem fine_iff {d : Nat → Nat → Int} {far : Int} {n s : Nat} {N : Nat → Nat} (hs : s < 2 ^ n) (hd : ∀ v i, v < n → i < n → 0 ≤ d v i) (hN : ∀ i, i < n → ∀ v, (N i).testBit v = true ↔ v < n ∧ d v i ≤ far) :
    fnB d far s n n = true ↔ FineN N s 0 0 := by
  have hlt : ∀ i, s.testBit i = true → i < n := fun i hi => by
    rcases Nat.lt_or_ge i n with h | h
    · exact h
    · have := Nat.ge_two_pow_of_testBit hi
      have := Nat.pow_le_pow_right (show 2 > 0 by omega) h
      omega
  rw [fnB_iff]
  constructor
  · intro h
    refine ⟨fun i _ _ v ⟨_, h2⟩ => by simp at h2, fun i j _ hij h1 h2 v ⟨h3, h4⟩ => ?_⟩
    obtain ⟨hv, h5⟩ := (hN i (hlt i h1) v).1 h3
    obtain ⟨_, h6⟩ := (hN j (hlt j h2) v).1 h4
    have := h v hv
    have := nrB_two (d := d) (far := far) (v := v) ⟨h1, hd v i hv (hlt i h1), h5⟩ ⟨h2, hd v j hv (hlt j h2), h6⟩ hij (m := n) (hlt j h2)
    omega
  · rintro ⟨_, h⟩ v hv
    refine nrB_one fun i k hik hk ⟨h1, _, h3⟩ ⟨h4, _, h6⟩ => ?_
    exact h i k (by omega) hik h1 h4 v ⟨(hN i (by omega) v).2 ⟨hv, h3⟩, (hN k hk v).2 ⟨hv, h6⟩⟩
theorem mw_pkB {d : Nat → Nat → Int} {far : Int} {n : Nat} {N : Nat → Nat} (h7 : n ≤ 7) (hd : ∀ v i, v < n → i < n → 0 ≤ d v i) (hN : ∀ i, i < n → ∀ v, (N i).testBit v = true ↔ v < n ∧ d v i ≤ far) : mw N n 0 0 = pkB d far n (2 ^ n) := by
  apply Nat.le_antisymm
  · obtain ⟨s, h1, _, h2, h3⟩ := mw_at N h7 n 0 0 (by omega)
    rw [← h3]
    exact le_pkB h1 ((fine_iff h1 hd hN).2 h2)
  · refine pkB_le _ fun s hs hf => ?_
    rw [← cn_bc h7 hs]
    exact mw_ge N s n 0 0 ((fine_iff hs hd hN).1 hf)
end Go.Proofs.Ytdhelapgdgekfaa
