/-
  NetTable and NetByMiddles of the model.
  Conditions: fewer than 2^60 streets.
  Nets: what their tables of shortest ways have; trees as nets.
  Conditions: as each theorem states.
  Lists of lists of ints in memory; all choices of so many numbers, as a list.
  Conditions: none beyond what each theorem states.
  The model's choices are the ascending lists; what NetFar answers over them.
  Conditions: as each theorem states.
  What chapter 3's functions answer, as numbers, and what the program's functions must answer, as propositions; the facts on them.
  Conditions: at most 2^20 streets in each function's contract.
-/
import Derived.Test.YtdhelapgdgekfaaZ5
import Derived.Test.YtdhelapgdgekfaaZ4
import Derived.Test.YtdhelapgdgekfaaZ1
import Derived.Test.YtdhelapgdgekfaaZ2
import Derived.Deep.AppendLies
import Derived.Maps.AppendAt
namespace Go.Proofs.Ytdhelapgdgekfaa
open Go.ChangeShapes Go.WideShapes Go.ChangeAt Go.RowKit
set_option linter.unusedVariables false
set_option maxRecDepth 4000

/-- What a net's table's call answers: nil for what is no net, else the rows. -/
def NetAns (w : World) (n : Int) (ss : List Str) (e : Ending) (w' : World) : Prop :=
  (vnet n ss = false ∧ e = .returned (.slice none 0 0) ∧ Below w.heap.size w w') ∨ (vnet n ss = true ∧ NTab w n.toNat (sht n.toNat ss) e w')
theorem vnet_nat {n : Int} {ss : List Str} (h : vnet n ss = true) : ∃ k : Nat, n = k ∧ 1 ≤ k ∧ k ≤ 7 := by
  obtain ⟨h1, -⟩ := (vnet_iff n ss).1 h
  exact ⟨n.toNat, by omega, by omega, by omega⟩
theorem sValidNet_is (A : Option Addr) (c m : Nat) (n : Int) (ss : List Str) (w : World) (B : Nat) (hr : RdS w B A ss) (hm : ss.length = m) (hb : m ≤ 1152921504606846976) (hwf : (Lit.int .i64 n).wf = true) {b : Bool} (h : vnet n ss = b) :
    Calls Try.prog 89 #[.int .i64 n, .slice A m c] w fun e w' => e = .returned (.bool b) ∧ w = w' := by
  subst h; exact sValidNet_in A c m n ss w B hr hm hb hwf
set_option maxHeartbeats 400000 in
theorem sNetTable_any (A : Option Addr) (c m : Nat) (n : Int) (ss : List Str) (w : World) (hr : RdS w w.heap.size A ss) (hm : ss.length = m) (hb : m ≤ 1152921504606846976) (hwf : (Lit.int .i64 n).wf = true) :
    Calls Try.prog 44 #[.int .i64 n, .slice A m c] w (NetAns w n ss) := by
  by_cases hv : vnet n ss = true
  · have H1 := Lib.hid (sValidNet_is A c m n ss w _ hr hm hb hwf hv)
    obtain ⟨k, rfl, -, -⟩ := vnet_nat hv
    have Ht := Lib.hid (netTable_any A c m k ss w hr hm hv)
    have Hv := Lib.hid hv
    clear hv hr hm hwf
    go_enter Try.func44, Try.ntmps44
    go_wp2_with fail
    refine H1.out.mono ?_
    rintro e w' ⟨rfl, rfl⟩
    go_wp2_with fail
    refine Ht.out.mono ?_
    rintro e w1 ⟨v, VR, rfl, hO, hT, hnx1⟩
    have HO := Lib.hid hO
    have HT := Lib.hid hT
    have HB := Lib.hid hnx1
    clear hO hT hnx1
    go_wp2
    go_ret
    exact .inr ⟨Hv.out, v, VR, rfl, HO.out, HT.out, HB.out⟩
  · have hv' : vnet n ss = false := by simpa using hv
    have H1 := Lib.hid (sValidNet_is A c m n ss w _ hr hm hb hwf hv')
    have Hv := Lib.hid hv'
    clear hv hv' hr hm hwf
    go_enter Try.func44, Try.ntmps44
    go_wp2_with fail
    refine H1.out.mono ?_
    rintro e w' ⟨rfl, rfl⟩
    go_wp2
    go_ret
    exact .inl ⟨Hv.out, rfl, Below.refl _ _⟩
/-- Without streets. -/
theorem vnet_empty {n : Int} {ss : List Str} (h : vnet n ss = true) : vnet n [] = true := by
  obtain ⟨h1, -⟩ := (vnet_iff n ss).1 h
  exact (vnet_iff _ _).2 ⟨h1, by simp, fun p hp => by cases hp⟩
theorem sht_empty {n : Nat} (hv : vnet n [] = true) {a b : Nat} (ha : a < n) (hb : b < n) : sht n [] a b = ownX a b := by
  refine (sht_is hv ⟨(rlx_start [] n).zero, fun a u v L _ he => ?_, (rlx_start [] n).way⟩ ha hb).symm
  obtain ⟨p, hp, _⟩ := he
  cases hp
theorem fwM_col {X : Nat → Nat → Int} {m a b : Nat} (h0 : X m m = 0) : fwM X m a b a m = X a m := by
  unfold fwM; split
  · exact fw_col h0 a
  · rfl
theorem fwM_row {X : Nat → Nat → Int} {m a b j : Nat} (h0 : X m m = 0) : fwM X m a b m j = X m j := by
  unfold fwM; split
  · exact fw_row h0 j
  · rfl
theorem fwM_at {X : Nat → Nat → Int} {m a b : Nat} : fwM X m a b a b = X a b := by
  unfold fwM; rw [if_neg (by omega)]
theorem fwM_next {X : Nat → Nat → Int} {m a b : Nat} {v : Int} (h : fwX X m a b = v) (i j : Nat) : up2 (fwM X m a b) a b v i j = fwM X m a (b + 1) i j := by
  unfold up2 fwM
  by_cases e : i = a ∧ j = b
  · obtain ⟨rfl, rfl⟩ := e
    rw [if_pos ⟨rfl, rfl⟩, if_pos (by omega), h]
  · rw [if_neg e]
    by_cases h1 : i < a ∨ (i = a ∧ j < b)
    · rw [if_pos h1, if_pos (by omega)]
    · rw [if_neg h1, if_neg (by omega)]
theorem fwM_same {X : Nat → Nat → Int} {m a b : Nat} (h : fwX X m a b = X a b) (i j : Nat) : fwM X m a b i j = fwM X m a (b + 1) i j := by
  unfold fwM
  by_cases h1 : i < a ∨ (i = a ∧ j < b)
  · rw [if_pos h1, if_pos (by omega)]
  · rw [if_neg h1]
    by_cases e : i = a ∧ j = b
    · obtain ⟨rfl, rfl⟩ := e
      rw [if_pos (by omega), h]
    · rw [if_neg (by omega)]
theorem fwM_line {X : Nat → Nat → Int} {n m a i j : Nat} (hj : j < n) : fwM X m a n i j = fwM X m (a + 1) 0 i j := by
  unfold fwM
  by_cases h1 : i < a ∨ (i = a ∧ j < n)
  · rw [if_pos h1, if_pos (by omega)]
  · rw [if_neg h1, if_neg (by omega)]
theorem fwM_zero {X : Nat → Nat → Int} {m i j : Nat} : fwM X m 0 0 i j = X i j := by
  unfold fwM; rw [if_neg (by omega)]
theorem fwM_end {X : Nat → Nat → Int} {n m i j : Nat} (hi : i < n) : fwM X m n 0 i j = fwX X m i j := by
  unfold fwM; rw [if_pos (by omega)]
theorem fwX_yes {X : Nat → Nat → Int} {m a b : Nat} {x y z : Int} (h1 : X a m = x) (h2 : X m b = y) (h3 : X a b = z) (hx : 0 ≤ x) (hy : 0 ≤ y) (hz : z < 0 ∨ x + y < z) : fwX X m a b = x + y := by
  unfold fwX; rw [h1, h2, h3, if_pos ⟨hx, hy, hz⟩]
theorem fwX_no {X : Nat → Nat → Int} {m a b : Nat} {x y z : Int} (h1 : X a m = x) (h2 : X m b = y) (h3 : X a b = z) (h : ¬ (0 ≤ x ∧ 0 ≤ y ∧ (z < 0 ∨ x + y < z))) : fwX X m a b = X a b := by
  unfold fwX; rw [h1, h2, h3, if_neg h]

/-- A table in memory. -/
structure TabX (w wr : World) (n g cA : Nat) (VR : Nat → Value) (X : Nat → Nat → Int) : Prop where
  out : Outer wr w.heap.size n (.slice (some ⟨g, 0, none⟩) n cA) VR
  row : TT wr w.heap.size n VR (rowX X n)
  bel : Below w.heap.size w wr
theorem TabX.congr {w wr : World} {n g cA : Nat} {VR : Nat → Value} {X Y : Nat → Nat → Int} (h : TabX w wr n g cA VR X) (he : ∀ i j, i < n → j < n → X i j = Y i j) : TabX w wr n g cA VR Y :=
  ⟨h.out, h.row.congr fun i hi => rowX_congr fun j hj => he i j hi hj, h.bel⟩
theorem TabX.drewN {w wr : World} {n g cA : Nat} {VR : Nat → Value} {X : Nat → Nat → Int} (h : TabX w wr n g cA VR X) (q : Nat) : TabX w (wr.drewN q) n g cA VR X :=
  ⟨h.out.drewN q, h.row.drewN q, below_drewN h.bel q⟩
theorem TabX.set {w wr : World} {n g cA a b gr cr : Nat} {VR : Nat → Value} {X : Nat → Nat → Int} (v : Int) (h : TabX w wr n g cA VR X) (ha : a < n) (hb : b < n) (he : VR a = .slice (some ⟨gr, 0, none⟩) n cr) :
    TabX w (wr.setCell ⟨gr, b, none⟩ (.int .i64 v)) n g cA VR (up2 X a b v) := by
  obtain ⟨h1, h2, h3⟩ := tab_set v h.out h.row ha hb he
  exact ⟨h1, h2, h.bel.setCell (p := ⟨gr, b, none⟩) h3 _⟩
theorem TabX.cells {w wr : World} {n g cA a b : Nat} {VR : Nat → Value} {X : Nat → Nat → Int} (h : TabX w wr n g cA VR X) (ha : a < n) (hb : b < n) :
    ∃ gr cr, VR a = .slice (some ⟨gr, 0, none⟩) n cr ∧ wr.cell? ⟨g, a, none⟩ = some (.slice (some ⟨gr, 0, none⟩) n cr) ∧ wr.cell? ⟨gr, b, none⟩ = some (.int .i64 (X a b)) ∧ wr.frozen? ⟨gr, b, none⟩ = false := tab_cells h.out h.row ha hb
theorem TabX.cell {w wr : World} {n g cA a b gr cr : Nat} {VR : Nat → Value} {X : Nat → Nat → Int} (h : TabX w wr n g cA VR X) (ha : a < n) (hb : b < n) (he : VR a = .slice (some ⟨gr, 0, none⟩) n cr) :
    wr.cell? ⟨g, a, none⟩ = some (.slice (some ⟨gr, 0, none⟩) n cr) ∧ wr.cell? ⟨gr, b, none⟩ = some (.int .i64 (X a b)) ∧ wr.frozen? ⟨gr, b, none⟩ = false := by
  obtain ⟨gr', cr', e, h1, h2, h3⟩ := h.cells ha hb
  have e2 := he.symm.trans e
  injection e2 with e3 _ e5
  injection e3 with e3
  injection e3 with e3
  subst e3 e5
  exact ⟨h1, h2, h3⟩
theorem TabX.rowAt {w wr : World} {n g cA a : Nat} {VR : Nat → Value} {X : Nat → Nat → Int} (h : TabX w wr n g cA VR X) (ha : a < n) : ∃ gr cr, VR a = .slice (some ⟨gr, 0, none⟩) n cr := by
  obtain ⟨gr, cr, e, _⟩ := h.cells ha ha
  exact ⟨gr, cr, e⟩
end Go.Proofs.Ytdhelapgdgekfaa
namespace Go.Proofs.Ytdhelapgdgekfaa
open Go.ChangeShapes Go.WideShapes Go.ChangeAt Go.RowKit
set_option linter.unusedVariables false

theorem wk_pos {E : Nat → Nat → Int → Prop} {n a b : Nat} {x : Int} (hE : ∀ u v L, E u v L → 1 ≤ L) (h : Wk E n a b x) : (x = 0 ∧ a = b) ∨ 1 ≤ x := by
  induction h with
  | nil ha => exact .inl ⟨rfl, rfl⟩
  | snoc u v x L h1 h2 h3 ih =>
    have := hE u v L h2
    right
    omega
theorem Wk.mono {E E' : Nat → Nat → Int → Prop} {n a b : Nat} {x : Int} (hE : ∀ u v L, E u v L → E' u v L) (h : Wk E n a b x) : Wk E' n a b x := by
  induction h with
  | nil ha => exact Wk.nil ha
  | snoc u v x L h1 h2 h3 ih => exact Wk.snoc u v x L ih (hE u v L h2) h3
theorem sht_met {n : Nat} {ss : List Str} (hv : vnet n ss = true) : Met (sht n ss) n := by
  obtain ⟨h1, h2⟩ := sht_spec hv
  refine ⟨h1.zero, fun a b ha hb => h1.symm (fun u v L h => h.symm) ha hb, fun a b ha hb hne => ?_, fun a b c ha hb hc h3 h4 => h1.tri ha hb hc h3 h4, h2⟩
  rcases h1.way a b ha hb with h | ⟨h, hw⟩
  · omega
  · rcases wk_pos (fun u v L h => (SE.pos hv h).1) hw with ⟨_, e⟩ | h5
    · exact absurd e hne
    · omega

/-- A tree's roads as streets. -/
def strOf (ts : List (Int × Int)) : List Str := (List.range (ts.length - 1)).map fun i => (((i + 1 : Nat) : Int), (ts.getD (i + 1) (-1, 0)).1, (ts.getD (i + 1) (-1, 0)).2)
theorem strOf_len (ts : List (Int × Int)) : (strOf ts).length = ts.length - 1 := by simp [strOf]
theorem strOf_mem {ts : List (Int × Int)} {p : Str} : p ∈ strOf ts ↔ ∃ i, 1 ≤ i ∧ i < ts.length ∧ p = ((i : Int), (ts.getD i (-1, 0)).1, (ts.getD i (-1, 0)).2) := by
  unfold strOf
  rw [List.mem_map]
  constructor
  · rintro ⟨i, hi, rfl⟩
    have := List.mem_range.1 hi
    exact ⟨i + 1, by omega, by omega, rfl⟩
  · rintro ⟨i, h1, h2, rfl⟩
    obtain ⟨j, rfl⟩ : ∃ j, i = j + 1 := ⟨i - 1, by omega⟩
    exact ⟨j, List.mem_range.2 (by omega), rfl⟩
theorem strOf_step {ts : List (Int × Int)} {k : Nat} (hk : 1 ≤ k) (hl : k < ts.length) : strOf (ts.take (k + 1)) = strOf (ts.take k) ++ [((k : Int), (ts.getD k (-1, 0)).1, (ts.getD k (-1, 0)).2)] := by
  have g : ∀ m i, i < m → (ts.take m).getD i (-1, 0) = ts.getD i (-1, 0) := fun m i hi => by
    simp only [List.getD, List.getElem?_take]; rw [if_pos hi]
  unfold strOf
  rw [List.length_take, List.length_take, show min (k + 1) ts.length - 1 = (k - 1) + 1 by omega, show min k ts.length - 1 = k - 1 by omega, List.range_succ, List.map_append]
  congr 1
  · apply List.map_congr_left
    intro i hi
    have := List.mem_range.1 hi
    rw [g _ _ (by omega), g _ _ (by omega)]
  · simp only [List.map_cons, List.map_nil]
    rw [show k - 1 + 1 = k by omega, g _ _ (by omega)]
theorem strOf_net {ts : List (Int × Int)} (hv : vt ts = true) : vnet ts.length (strOf ts) = true := by
  obtain ⟨h1, h7, h3, h4, h5⟩ := (vt_iff ts).1 hv
  refine (vnet_iff _ _).2 ⟨by omega, by rw [strOf_len]; omega, fun p hp => ?_⟩
  obtain ⟨i, hi, hl, rfl⟩ := strOf_mem.1 hp
  have := h5 i hi hl
  simp only [okRoad, Bool.and_eq_true, decide_eq_true_eq] at this
  unfold OkS
  simp only
  omega
theorem strOf_edge {ts : List (Int × Int)} (hv : vt ts = true) {u v : Nat} {L : Int} : SE (strOf ts) u v L ↔ TE ts ts.length u v L := by
  constructor
  · rintro ⟨p, hp, rfl, h⟩
    obtain ⟨i, hi, hl, rfl⟩ := strOf_mem.1 hp
    have ht := vt_to hv hi hl
    refine ⟨i, hi, hl, rfl, ?_⟩
    simp only at h
    rcases h with ⟨h1, h2⟩ | ⟨h1, h2⟩
    · right; omega
    · left; omega
  · rintro ⟨i, hi, hl, rfl, h⟩
    have ht := vt_to hv hi hl
    refine ⟨_, strOf_mem.2 ⟨i, hi, hl, rfl⟩, rfl, ?_⟩
    simp only
    rcases h with ⟨h1, h2⟩ | ⟨h1, h2⟩
    · right; omega
    · left; omega
/-- The table of a tree is that of its roads as streets. -/
theorem strOf_dn {ts : List (Int × Int)} (hv : vt ts = true) {a b : Nat} (ha : a < ts.length) (hb : b < ts.length) : sht ts.length (strOf ts) a b = dn ts ts.length a b := by
  have h := dn_short (vt_ahead hv) (Nat.le_refl ts.length)
  have hS : Short (SE (strOf ts)) ts.length (dn ts ts.length) := by
    refine ⟨h.zero, fun a u v L ha he hv' h0 => h.step a u v L ha ((strOf_edge hv).1 he) hv' h0, fun a b ha hb => ?_⟩
    rcases h.way a b ha hb with h1 | ⟨h1, h2⟩
    · exact .inl h1
    · exact .inr ⟨h1, h2.mono fun u v L h => (strOf_edge hv).2 h⟩
  exact (sht_is (strOf_net hv) hS ha hb).symm
/-- Answers depend on the table below n alone. -/
theorem fnB_congr {d d' : Nat → Nat → Int} {far : Int} {s n : Nat} (h : ∀ a b, a < n → b < n → d a b = d' a b) : ∀ m, m ≤ n → fnB d far s n m = fnB d' far s n m
  | 0, _ => rfl
  | m + 1, hm => by
    have hn : ∀ k, k ≤ n → nrB d far s m k = nrB d' far s m k := by
      intro k
      induction k with
      | zero => intro _; rfl
      | succ k ih => intro hk; simp only [nrB]; rw [ih (by omega), h m k (by omega) (by omega)]
    simp only [fnB]
    rw [fnB_congr h m (by omega), hn n (Nat.le_refl _)]
theorem pkB_congr {d d' : Nat → Nat → Int} {far : Int} {n : Nat} (h : ∀ a b, a < n → b < n → d a b = d' a b) : ∀ S, pkB d far n S = pkB d' far n S
  | 0 => rfl
  | S + 1 => by simp only [pkB]; rw [fnB_congr h n (Nat.le_refl _), pkB_congr h S]
theorem cvF_congr {d d' : Nat → Nat → Int} {far : Int} {s n : Nat} (h : ∀ a b, a < n → b < n → d a b = d' a b) : ∀ m, m ≤ n → cvF d far s n m = cvF d' far s n m
  | 0, _ => rfl
  | m + 1, hm => by
    have hn : ∀ k, k ≤ n → nbB d far s m k = nbB d' far s m k := by
      intro k
      induction k with
      | zero => intro _; rfl
      | succ k ih => intro hk; simp only [nbB]; rw [ih (by omega), h m k (by omega) (by omega)]
    simp only [cvF]
    rw [cvF_congr h m (by omega), hn n (Nat.le_refl _)]
theorem cvN_congr {d d' : Nat → Nat → Int} {far : Int} {n : Nat} (h : ∀ a b, a < n → b < n → d a b = d' a b) : ∀ S, cvN d far n S = cvN d' far n S
  | 0 => rfl
  | S + 1 => by simp only [cvN]; rw [cvF_congr h n (Nat.le_refl _), cvN_congr h S]
end Go.Proofs.Ytdhelapgdgekfaa
namespace Go.Proofs.Ytdhelapgdgekfaa
open Go.ChangeShapes Go.WideShapes Go.ChangeAt Go.RowKit
set_option linter.unusedVariables false

/-- A slice that is not nil, in a block of ints. -/
def RdL (w : World) (A : Option Addr) (l : List Int) : Prop :=
  ∃ b cs, A = some ⟨b, 0, none⟩ ∧ w.heap[b]? = some (Obj.cells cs 3 (0, 0)) ∧ ∀ i, i < l.length → cs[i]? = some (.int .i64 (l.getD i 0))
theorem RdL.rd {w : World} {A : Option Addr} {l : List Int} (h : RdL w A l) : RdI w w.heap.size A l := fun _ => by
  obtain ⟨b, cs, e, hb, hc⟩ := h
  exact ⟨b, 0, e, (Array.getElem?_eq_some_iff.1 hb).1, fun i hi => by rw [Nat.zero_add, cell_of_row _ _ _ _ _ _ hb]; exact hc i hi⟩
theorem RdL.block {w w' : World} {A : Option Addr} {l : List Int} (h : RdL w A l) (hk : ∀ (b : Nat) (cs : Array Value), w.heap[b]? = some (Obj.cells cs 3 (0, 0)) → w'.heap[b]? = w.heap[b]?) : RdL w' A l := by
  obtain ⟨b, cs, e, hb, hc⟩ := h
  exact ⟨b, cs, e, (hk b cs hb).trans hb, hc⟩
theorem RdL.below {w w' : World} {A : Option Addr} {l : List Int} (h : RdL w A l) (hb : Below w.heap.size w w') : RdL w' A l :=
  h.block fun b cs hbc => hb.block b (Array.getElem?_eq_some_iff.1 hbc).1
theorem RdL.alloc {w : World} {A : Option Addr} {l : List Int} (h : RdL w A l) (o : Obj) : RdL (w.alloc o) A l := h.below ((Below.refl _ _).alloc (Nat.le_refl _) o)
/-- A write into a row of other elements, or into a new block, leaves it. -/
theorem RdL.grown {w w' : World} {row : Option Nat} {A : Option Addr} {l : List Int} (h : RdL w A l) (hg : w.grownBy w' row) (hr : ∀ g, row = some g → ∀ cs, w.heap[g]? ≠ some (Obj.cells cs 3 (0, 0))) : RdL w' A l :=
  h.block fun b cs hbc => hg.block b (Array.getElem?_eq_some_iff.1 hbc).1 (fun e => hr b e.symm cs hbc)
theorem RdL.new {w w' : World} {A : Option Addr} {l : List Int} {o : Obj} (h : RdL w A l) (hg : (w.alloc o).grownBy w' (some w.heap.size)) : RdL w' A l :=
  h.block fun b cs hbc => by
    have hlt := (Array.getElem?_eq_some_iff.1 hbc).1
    rw [hg.block b (by simp; omega) (by intro e; injection e; omega), Below.heap_alloc w o b hlt]
theorem RdL.own {w : World} {B n : Nat} {v : Value} {l : List Int} (h : w.ownsRow B 3 1 v n (l.map (Value.int .i64))) (hl : l.length = n) (hn : 0 < n) : ∃ A c, v = .slice A n c ∧ n ≤ c ∧ RdL w A l := by
  rcases h.2 with ⟨_, h0⟩ | ⟨g, cap, cur, rfl, _, hb, hnc, _, hs, ht⟩
  · omega
  · refine ⟨_, cap, rfl, hnc, g, cur, rfl, hb, fun i hi => ?_⟩
    have h1 : (List.take (n * 1) cur.toList)[i]? = (l.map (Value.int .i64))[i]? := by rw [ht]
    rw [List.getElem?_take, if_pos (by omega), List.getElem?_map, List.getElem?_eq_getElem hi] at h1
    rw [← Array.getElem?_toList, h1]
    simp [List.getD, List.getElem?_eq_getElem hi]
def RdLL (w : World) (vs : List Value) (L : List (List Int)) : Prop :=
  vs.length = L.length ∧ ∀ (i : Nat) (l : List Int), L[i]? = some l → ∃ A c, vs[i]? = some (Value.slice A l.length c) ∧ l.length ≤ c ∧ RdL w A l
theorem RdLL.map {w w' : World} {vs : List Value} {L : List (List Int)} (h : RdLL w vs L) (hk : ∀ A l, RdL w A l → RdL w' A l) : RdLL w' vs L :=
  ⟨h.1, fun i l hl => by obtain ⟨A, c, h1, h2, h3⟩ := h.2 i l hl; exact ⟨A, c, h1, h2, hk A l h3⟩⟩
theorem RdLL.snoc {w : World} {vs : List Value} {L : List (List Int)} {A : Option Addr} {l : List Int} {c : Nat} (h : RdLL w vs L) (hc : l.length ≤ c) (hl : RdL w A l) : RdLL w (vs ++ [Value.slice A l.length c]) (L ++ [l]) := by
  refine ⟨by simp [h.1], fun i l' hi => ?_⟩
  rcases Nat.lt_or_ge i L.length with hlt | hge
  · rw [List.getElem?_append_left hlt] at hi
    obtain ⟨A', c', h1, h2, h3⟩ := h.2 i l' hi
    exact ⟨A', c', by rw [List.getElem?_append_left (by rw [h.1]; exact hlt)]; exact h1, h2, h3⟩
  · rw [List.getElem?_append_right hge] at hi
    have h0 : i - L.length = 0 := by
      have := (List.getElem?_eq_some_iff.1 hi).1
      simpa using this
    rw [h0] at hi
    simp at hi
    subst hi
    exact ⟨A, c, by rw [List.getElem?_append_right (by rw [h.1]; exact hge), h.1, h0]; rfl, hc, hl⟩
theorem RdLL.nil (w : World) : RdLL w [] [] := ⟨rfl, fun i l h => by simp at h⟩

def chs (prev : Nat → List (List Int)) (to : Nat) : Nat → List (List Int)
  | 0 => []
  | d + 1 => (prev d).map (fun l => ((to - (d + 1) : Nat) : Int) :: l) ++ chs prev to d
def chd (to : Nat) : Nat → Nat → List (List Int)
  | 0 => fun _ => [[]]
  | k + 1 => chs (chd to k) to
theorem chd_len_all : ∀ to : Fin 8, ∀ k : Fin 5, ∀ d : Fin 8, (chd to.val k.val d.val).length ≤ 128 := by decide +kernel
theorem chd_len {to k d : Nat} (h1 : to ≤ 7) (h2 : k ≤ 4) (h3 : d ≤ 7) : (chd to k d).length ≤ 128 := chd_len_all ⟨to, by omega⟩ ⟨k, by omega⟩ ⟨d, by omega⟩
theorem chd_each : ∀ (k to d : Nat), ∀ l ∈ chd to k d, l.length = k
  | 0, to, d, l, h => by simp [chd] at h; subst h; rfl
  | k + 1, to, d, l, h => by
    have hrec : ∀ d, ∀ l ∈ chs (chd to k) to d, l.length = k + 1 := by
      intro d
      induction d with
      | zero => intro l h; simp [chs] at h
      | succ d ih =>
        intro l h
        simp only [chs, List.mem_append, List.mem_map] at h
        rcases h with ⟨l', h1, rfl⟩ | h
        · simp [chd_each k to d l' h1]
        · exact ih l h
    exact hrec d l h
end Go.Proofs.Ytdhelapgdgekfaa
namespace Go.Proofs.Ytdhelapgdgekfaa
open Go.ChangeShapes Go.WideShapes Go.ChangeAt Go.RowKit
set_option linter.unusedVariables false

/-- Ascending lists of k numbers from f on, below to. -/
def AscI (f to k : Nat) (J : List Nat) : Prop := J.Pairwise (· < ·) ∧ (∀ i ∈ J, f ≤ i ∧ i < to) ∧ J.length = k
theorem chd_mem (to : Nat) : ∀ k d, d ≤ to → ∀ l, l ∈ chd to k d ↔ ∃ J, l = J.map Int.ofNat ∧ AscI (to - d) to k J
  | 0, d, hd, l => by
    simp only [chd, List.mem_singleton]
    constructor
    · rintro rfl
      exact ⟨[], rfl, List.Pairwise.nil, (fun i hi => by cases hi), rfl⟩
    · rintro ⟨J, rfl, _, _, h⟩
      rw [List.length_eq_zero_iff.1 h]; rfl
  | k + 1, d, hd, l => by
    show l ∈ chs (chd to k) to d ↔ _
    induction d with
    | zero =>
      simp only [chs, List.not_mem_nil, false_iff]
      rintro ⟨J, _, _, h2, h3⟩
      cases J with
      | nil => simp at h3
      | cons j J => have := h2 j (by simp); omega
    | succ d ih =>
      simp only [chs, List.mem_append, List.mem_map]
      rw [ih (by omega)]
      constructor
      · rintro (⟨l', h1, rfl⟩ | ⟨J, rfl, h1, h2, h3⟩)
        · obtain ⟨J, rfl, h2, h3, h4⟩ := (chd_mem to k d (by omega) l').1 h1
          refine ⟨(to - (d + 1)) :: J, rfl, List.pairwise_cons.2 ⟨fun i hi => by have := h3 i hi; omega, h2⟩, fun i hi => ?_, by simp [h4]⟩
          rcases List.mem_cons.1 hi with rfl | hi
          · omega
          · have := h3 i hi; omega
        · exact ⟨J, rfl, h1, fun i hi => by have := h2 i hi; omega, h3⟩
      · rintro ⟨J, rfl, h1, h2, h3⟩
        cases J with
        | nil => simp at h3
        | cons j J =>
          obtain ⟨h4, h5⟩ := List.pairwise_cons.1 h1
          have hj := h2 j (by simp)
          by_cases e : j = to - (d + 1)
          · subst e
            refine .inl ⟨J.map Int.ofNat, (chd_mem to k d (by omega) _).2 ⟨J, rfl, h5, fun i hi => ?_, by simpa using h3⟩, rfl⟩
            have := h4 i hi
            have := h2 i (by simp [hi])
            omega
          · refine .inr ⟨j :: J, rfl, h1, fun i hi => ?_, h3⟩
            rcases List.mem_cons.1 hi with rfl | hi
            · omega
            · have := h4 i hi
              have := h2 i (by simp [hi])
              omega
theorem toNat_ofNat (J : List Nat) : (J.map Int.ofNat).map Int.toNat = J := by
  rw [List.map_map]
  have : Int.toNat ∘ Int.ofNat = id := by funext i; rfl
  rw [this, List.map_id]
theorem ascI_zero {to k : Nat} {J : List Nat} : AscI (to - to) to k J ↔ Asc to k J := by
  unfold AscI Asc
  rw [Nat.sub_self]
  exact ⟨fun ⟨h1, h2, h3⟩ => ⟨h1, fun i hi => (h2 i hi).2, h3⟩, fun ⟨h1, h2, h3⟩ => ⟨h1, fun i hi => ⟨Nat.zero_le _, h2 i hi⟩, h3⟩⟩
/-- How far it is with a choice. -/
def radI (d : Nat → Nat → Int) (n : Nat) (l : List Int) : Int := radL d (l.map Int.toNat) n
def nfar (d : Nat → Nat → Int) (n m : Nat) : Int := pkL (radI d n) (chd n m n) (-1)
theorem nfar_is (d : Nat → Nat → Int) (n m : Nat) : NfIs d n m (nfar d n m) := by
  have hmem : ∀ l, l ∈ chd n m n ↔ ∃ J, l = J.map Int.ofNat ∧ Asc n m J := fun l => by
    rw [chd_mem n m n (Nat.le_refl _)]
    constructor
    · rintro ⟨J, h1, h2⟩; exact ⟨J, h1, ascI_zero.1 h2⟩
    · rintro ⟨J, h1, h2⟩; exact ⟨J, h1, ascI_zero.2 h2⟩
  rcases pkL_cases (radI d n) (chd n m n) with ⟨h1, h2⟩ | ⟨h1, ⟨l, hl, h2⟩, h3⟩
  · refine .inl ⟨h1, fun J hJ => ?_⟩
    have := h2 _ ((hmem _).2 ⟨J, rfl, hJ⟩)
    unfold radI at this
    rwa [toNat_ofNat] at this
  · refine .inr ⟨h1, ?_, fun J hJ h0 => ?_⟩
    · obtain ⟨J, rfl, hJ⟩ := (hmem l).1 hl
      refine ⟨J, hJ, ?_⟩
      have : radI d n (J.map Int.ofNat) = nfar d n m := h2
      unfold radI at this
      rwa [toNat_ofNat] at this
    · have := h3 _ ((hmem _).2 ⟨J, rfl, hJ⟩)
      unfold radI at this
      rw [toNat_ofNat] at this
      exact this h0
/-- One step of a loop that picks the least one. -/
theorem pkL_take {α : Type} (f : α → Int) {L : List α} {t : Nat} {x : α} (h : L[t]? = some x) (acc : Int) : pkL f (L.take (t + 1)) acc = if 0 ≤ f x ∧ (pkL f (L.take t) acc < 0 ∨ f x < pkL f (L.take t) acc) then f x else pkL f (L.take t) acc := by
  obtain ⟨hlt, e⟩ := List.getElem?_eq_some_iff.1 h
  rw [List.take_succ_eq_append_getElem hlt, pkL_append, e]
  rfl
theorem pkL_yes {α : Type} {f : α → Int} {L : List α} {t : Nat} {x : α} {acc p y : Int} (h : L[t]? = some x) (hp : pkL f (L.take t) acc = p) (hy : f x = y) (h0 : 0 ≤ y) (hc : p < 0 ∨ y < p) : pkL f (L.take (t + 1)) acc = y := by
  rw [pkL_take f h, hp, hy, if_pos ⟨h0, hc⟩]
theorem pkL_no {α : Type} {f : α → Int} {L : List α} {t : Nat} {x : α} {acc p y : Int} (h : L[t]? = some x) (hp : pkL f (L.take t) acc = p) (hy : f x = y) (hc : ¬ (0 ≤ y ∧ (p < 0 ∨ y < p))) : pkL f (L.take (t + 1)) acc = p := by
  rw [pkL_take f h, hp, hy, if_neg hc]
theorem rad_stay {d : Nat → Nat → Int} {L : List Nat} {v : Nat} (h : radL d L v < 0) : ∀ m, v ≤ m → radL d L m = radL d L v := by
  intro m hm
  induction m with
  | zero => have : v = 0 := by omega
            subst this; rfl
  | succ m ih =>
    by_cases e : v = m + 1
    · subst e; rfl
    · have := ih (by omega)
      simp only [radL]
      rw [this, if_pos h]
theorem rad_none {d : Nat → Nat → Int} {L : List Nat} {v : Nat} {f y : Int} (h : radL d L v = f) (h0 : 0 ≤ f) (hy : wy d v L = y) (hn : y < 0) : radL d L (v + 1) = -1 := by
  simp only [radL]
  rw [h, if_neg (by omega), hy, if_pos hn]
theorem rad_some {d : Nat → Nat → Int} {L : List Nat} {v : Nat} {f y : Int} (h : radL d L v = f) (h0 : 0 ≤ f) (hy : wy d v L = y) (hn : 0 ≤ y) : radL d L (v + 1) = max f y := by
  simp only [radL]
  rw [h, if_neg (by omega), hy, if_neg (by omega)]
theorem pkL_low {α : Type} (f : α → Int) {L : List α} : -1 ≤ pkL f L (-1) := by
  rcases pkL_cases f L with ⟨h, _⟩ | ⟨h, _⟩ <;> omega
theorem pkL_high {α : Type} {f : α → Int} {L : List α} {b : Int} (hb : 0 ≤ b) (h : ∀ x ∈ L, f x ≤ b) : pkL f L (-1) ≤ b := by
  rcases pkL_cases f L with ⟨h1, _⟩ | ⟨_, ⟨x, hx, h1⟩, _⟩
  · omega
  · have := h x hx; omega
end Go.Proofs.Ytdhelapgdgekfaa
namespace Go.Proofs.Ytdhelapgdgekfaa
open Go.ChangeShapes Go.WideShapes Go.ChangeAt Go.RowKit
set_option linter.unusedVariables false
set_option maxRecDepth 4000

/-- NetApart's and NetCover's answers. -/
noncomputable def nap (n : Int) (ss : List Str) (far : Int) : Int := if vnet n ss = true ∧ 0 ≤ far ∧ far ≤ 50 then ((pkB (sht n.toNat ss) far n.toNat (2 ^ n.toNat) : Nat) : Int) else -1
noncomputable def ncv (n : Int) (ss : List Str) (far : Int) : Int := if vnet n ss = true ∧ 0 ≤ far ∧ far ≤ 50 then ((cvN (sht n.toNat ss) far n.toNat (2 ^ n.toNat) : Nat) : Int) else -1
theorem nap_no {n : Int} {ss : List Str} {far : Int} (h : vnet n ss = false ∨ far < 0 ∨ 50 < far) : nap n ss far = -1 := by
  unfold nap
  rw [if_neg]
  rintro ⟨h1, h2, h3⟩
  rcases h with h | h | h
  · rw [h1] at h; cases h
  · omega
  · omega
theorem ncv_no {n : Int} {ss : List Str} {far : Int} (h : vnet n ss = false ∨ far < 0 ∨ 50 < far) : ncv n ss far = -1 := by
  unfold ncv
  rw [if_neg]
  rintro ⟨h1, h2, h3⟩
  rcases h with h | h | h
  · rw [h1] at h; cases h
  · omega
  · omega
theorem nap_yes {n : Nat} {ss : List Str} {far : Int} (h : vnet n ss = true) (h1 : 0 ≤ far) (h2 : far ≤ 50) : nap n ss far = ((pkB (sht n ss) far n (2 ^ n) : Nat) : Int) := by
  unfold nap; rw [if_pos ⟨h, h1, h2⟩]; rfl
theorem ncv_yes {n : Nat} {ss : List Str} {far : Int} (h : vnet n ss = true) (h1 : 0 ≤ far) (h2 : far ≤ 50) : ncv n ss far = ((cvN (sht n ss) far n (2 ^ n) : Nat) : Int) := by
  unfold ncv; rw [if_pos ⟨h, h1, h2⟩]; rfl
/-- NetFar's answer. -/
noncomputable def nfr (n : Int) (ss : List Str) (k : Int) : Int := if vnet n ss = true ∧ 1 ≤ k ∧ k ≤ 4 then nfar (sht n.toNat ss) n.toNat (min k.toNat n.toNat) else -1
theorem nfr_no {n : Int} {ss : List Str} {k : Int} (h : vnet n ss = false ∨ k < 1 ∨ 4 < k) : nfr n ss k = -1 := by
  unfold nfr
  rw [if_neg]
  rintro ⟨h1, h2, h3⟩
  rcases h with h | h | h
  · rw [h1] at h; cases h
  · omega
  · omega
theorem nfr_yes {n k : Nat} {ss : List Str} (h : vnet n ss = true) (h1 : 1 ≤ k) (h2 : k ≤ 4) : nfr n ss k = nfar (sht n ss) n (min k n) := by
  unfold nfr; rw [if_pos ⟨h, by omega, by omega⟩]; rfl
/-- The arguments of a function over a net. -/
structure NetIn (w : World) (A : Option Addr) (c m : Nat) (n : Int) (ss : List Str) : Prop where
  rd : RdS w w.heap.size A ss
  len : ss.length = m
  cap : m ≤ c ∧ c ≤ 9223372036854775807
  most : m ≤ 1048576
  wf : (Lit.int .i64 n).wf = true
def INum (F : Nat) (ans : Int → List Str → Int → Int) : Prop := ∀ (A : Option Addr) (c m : Nat) (n : Int) (ss : List Str) (k : Int) (w : World), NetIn w A c m n ss → (Lit.int .i64 k).wf = true →
  Calls Try.prog F #[.int .i64 n, .slice A m c, .int .i64 k] w fun e w' => e = .returned (.int .i64 (ans n ss k)) ∧ Below w.heap.size w w'
def IBool (F : Nat) : Prop := ∀ (A : Option Addr) (c m : Nat) (n : Int) (ss : List Str) (w : World), NetIn w A c m n ss →
  Calls Try.prog F #[.int .i64 n, .slice A m c] w fun e w' => e = .returned (.bool (vnet n ss)) ∧ Below w.heap.size w w'
def IRows (F : Nat) : Prop := ∀ (A : Option Addr) (c m : Nat) (n : Int) (ss : List Str) (w : World), NetIn w A c m n ss →
  Calls Try.prog F #[.int .i64 n, .slice A m c] w (NetAns w n ss)
theorem NetIn.later {w w' : World} {A : Option Addr} {c m : Nat} {n : Int} {ss : List Str} (h : NetIn w A c m n ss) (hb : Below w.heap.size w w') : NetIn w' A c m n ss :=
  ⟨(h.rd.below hb).more hb.size, h.len, h.cap, h.most, h.wf⟩
theorem wf_small {n : Int} (h : -1000 ≤ n ∧ n ≤ 1000) : (Lit.int .i64 n).wf = true := WalkArith.wf_i64 (by omega)
theorem ncv_is {n : Int} {ss : List Str} {far : Int} (h : vnet n ss = true) (h0 : 0 ≤ far) (h1 : far ≤ 50) : ncv n ss far = ((cvN (sht n.toNat ss) far n.toNat (2 ^ n.toNat) : Nat) : Int) := by unfold ncv; rw [if_pos ⟨h, h0, h1⟩]
theorem nap_is {n : Int} {ss : List Str} {far : Int} (h : vnet n ss = true) (h0 : 0 ≤ far) (h1 : far ≤ 50) : nap n ss far = ((pkB (sht n.toNat ss) far n.toNat (2 ^ n.toNat) : Nat) : Int) := by unfold nap; rw [if_pos ⟨h, h0, h1⟩]
theorem ncv_has {n : Int} {ss : List Str} {far : Int} (h : 0 ≤ ncv n ss far) : vnet n ss = true ∧ 0 ≤ far ∧ far ≤ 50 := by
  unfold ncv at h
  split at h
  · assumption
  · omega
theorem nap_has {n : Int} {ss : List Str} {far : Int} (h : 0 ≤ nap n ss far) : vnet n ss = true ∧ 0 ≤ far ∧ far ≤ 50 := by
  unfold nap at h
  split at h
  · assumption
  · omega
theorem cover_facts {n : Int} {ss : List Str} {far : Int} (h : 0 ≤ ncv n ss far) : nap n ss far ≤ ncv n ss far ∧ (ncv n ss (far + 1) < 0 ∨ ncv n ss (far + 1) ≤ ncv n ss far) ∧ 1 ≤ ncv n ss far ∧ 0 ≤ far ∧ far ≤ 50 := by
  obtain ⟨hv, h0, h1⟩ := ncv_has h
  obtain ⟨k, rfl, hk1, hk7⟩ := vnet_nat hv
  have hM := sht_met (n := k) hv
  rw [ncv_is hv h0 h1, nap_is hv h0 h1, Int.toNat_natCast]
  have e1 := pk_le_cv (far := far) hk7 hM.symm hM.zero h0
  have e2 := cvN_pos (far := far) hk7 hk1 hM.zero h0
  refine ⟨by omega, ?_, by omega, h0, h1⟩
  by_cases h2 : far + 1 ≤ 50
  · right
    rw [ncv_is hv (by omega) h2, Int.toNat_natCast]
    have e3 := cvN_mono (far := far) (far' := far + 1) hk7 hM.zero h0 (by omega)
    omega
  · left
    rw [ncv_no (.inr (by omega))]; omega
theorem apart_facts {n : Int} {ss : List Str} {far : Int} (h : 0 ≤ nap n ss far) : 1 ≤ nap n ss far ∧ nap n ss far ≤ ncv n ss far ∧ nap n ss 0 = n := by
  obtain ⟨hv, h0, h1⟩ := nap_has h
  obtain ⟨k, rfl, hk1, hk7⟩ := vnet_nat hv
  have hM := sht_met (n := k) hv
  rw [ncv_is hv h0 h1, nap_is hv h0 h1, nap_is hv (by omega) (by omega), Int.toNat_natCast]
  have e1 := pk_le_cv (far := far) hk7 hM.symm hM.zero h0
  have e2 := pkB_pos (d := sht k ss) (far := far) hk7 hk1
  have e3 := pkB_zero (d := sht k ss) hk7 hM.pos
  have e4 := pkB_le_n (sht k ss) 0 hk7
  exact ⟨by omega, by omega, by omega⟩
theorem far_facts {n : Int} {ss : List Str} {k : Int} (hv : vnet n ss = true) (h1 : 1 ≤ k) (h4 : k ≤ 4) : ∀ r : Int, 0 ≤ r → r ≤ 50 → (ncv n ss r ≤ k ↔ 0 ≤ nfr n ss k ∧ nfr n ss k ≤ r) := by
  intro r hr0 hr1
  obtain ⟨j, rfl, hj1, hj7⟩ := vnet_nat hv
  obtain ⟨k, rfl⟩ := Int.eq_ofNat_of_zero_le (show 0 ≤ k by omega)
  have hM := sht_met (n := j) hv
  have := nf_cv (k := k) hj7 hM.zero (nfar_is (sht j ss) j (min k j)) hr0
  rw [ncv_is hv hr0 hr1]
  unfold nfr
  rw [if_pos ⟨hv, h1, h4⟩, Int.toNat_natCast, Int.toNat_natCast]
  omega
def nm (n : Int) (ss : List Str) : Nat := if vnet n ss = true then n.toNat else 0
def nL (n : Int) (ss : List Str) : Nat := if vnet n ss = true then n.toNat else 1
theorem rowX_length (X : Nat → Nat → Int) (n j : Nat) : (rowX X n j).length = n := by simp [rowX]
theorem nm_bd (n : Int) (ss : List Str) : nm n ss ≤ 7 ∧ 1 ≤ nL n ss ∧ nL n ss ≤ 7 ∧ ∀ j, j < nm n ss → (rowX (sht n.toNat ss) n.toNat j).length = nL n ss := by
  unfold nm nL
  by_cases h : vnet n ss = true
  · obtain ⟨k, rfl, h1, h7⟩ := vnet_nat h
    rw [if_pos h, if_pos h]
    exact ⟨h7, h1, h7, fun j _ => rowX_length _ _ _⟩
  · rw [if_neg h, if_neg h]
    exact ⟨by omega, by omega, by omega, fun j hj => by omega⟩
/-- What both tables are. -/
def NabUni (w : World) (n : Int) (ss : List Str) (e : Ending) (w' : World) : Prop :=
  ∃ A c VR, e = .returned (.slice A (nm n ss) c) ∧ Outer w' w.heap.size (nm n ss) (.slice A (nm n ss) c) VR ∧ TT w' w.heap.size (nm n ss) VR (rowX (sht n.toNat ss) n.toNat) ∧ Below w.heap.size w w'
theorem nab_uni {w w' : World} {n : Int} {ss : List Str} {e : Ending} (h : NetAns w n ss e w') : NabUni w n ss e w' := by
  unfold NabUni nm
  rcases h with ⟨hv, rfl, hb⟩ | ⟨hv, v, VR, rfl, hO, hT, hb⟩
  · rw [hv]
    simp only [Bool.false_eq_true, if_false]
    exact ⟨none, 0, fun _ => .nilIface, rfl, World.ownsRow_nil _ _ _ _, ⟨fun j hj => by omega, fun i j g hi => by omega⟩, hb⟩
  · rw [if_pos hv]
    obtain ⟨A, c, e, _⟩ := own_sliceN hO
    subst e
    exact ⟨A, c, VR, rfl, hO, hT, hb⟩
theorem nfr_bd (n : Int) (ss : List Str) (k : Int) : -1 ≤ nfr n ss k ∧ nfr n ss k ≤ 54 := by
  unfold nfr
  split
  · rename_i h
    obtain ⟨j, rfl, hj1, hj7⟩ := vnet_nat h.1
    have hM := sht_met (n := j) h.1
    rw [Int.toNat_natCast]
    rcases nfar_is (sht j ss) j (min k.toNat j) with ⟨h1, -⟩ | ⟨h1, ⟨J, hJ, h2⟩, -⟩
    · omega
    · refine ⟨by omega, ?_⟩
      rw [← h2] at h1 ⊢
      rcases rad_cases (sht j ss) J j with ⟨h3, -⟩ | ⟨h3, h4, h5⟩
      · omega
      · rcases h5 with h5 | ⟨v, hv, h5⟩
        · omega
        · rw [← h5]
          exact pkL_high (by omega) (fun x hx => (hM.bd v x hv (hJ.2.1 x hx)).2)
  · omega
end Go.Proofs.Ytdhelapgdgekfaa
