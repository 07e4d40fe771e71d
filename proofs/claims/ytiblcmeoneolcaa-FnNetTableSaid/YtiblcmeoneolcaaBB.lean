/-
  NetTable and NetByMiddles of the model.
  Conditions: fewer than 2^60 streets.
-/
import Derived.Test.YtiblcmeoneolcaaBA
import Derived.Test.YtiblcmeoneolcaaB4
import Derived.Test.YtiblcmeoneolcaaB8
namespace Go.Proofs.Ytiblcmeoneolcaa
open Go.ChangeShapes Go.WideShapes Go.ChangeAt Go.RowKit
set_option linter.unusedVariables false
set_option maxRecDepth 4000

/-- What a net's table's call answers: nil for what is no net, else the rows. -/
def NetAns (w : World) (n : Int) (ss : List Str) (e : Ending) (w' : World) : Prop :=
  (vnet n ss = false ∧ e = .returned (.slice none 0 0) ∧ Below w.heap.size w w') ∨ (vnet n ss = true ∧ NTab w n.toNat (sht n.toNat ss) e w')
theorem vnet_nat {n : Int} {ss : List Str} (h : vnet n ss = true) : ∃ k : Nat, n = k ∧ 1 ≤ k ∧ k ≤ 7 := by
  obtain ⟨h1, -⟩ := (vnet_iff n ss).1 h
  exact ⟨n.toNat, by omega, by omega, by omega⟩
theorem sValidNet_is (A : Option Addr) (c m : Nat) (n : Int) (ss : List Str) (w : World) (B : Nat) (hr : RdS w B A ss) (hm : ss.length = m) (hb : m ≤ 1152921504606846976) (hwf : (Lit.int .i64 n).wf = true) {b : Bool} (h : vnet n ss = b) :
    Calls Try.prog 52 #[.int .i64 n, .slice A m c] w fun e w' => e = .returned (.bool b) ∧ w = w' := by
  subst h; exact sValidNet_in A c m n ss w B hr hm hb hwf
set_option maxHeartbeats 400000 in
theorem sNetTable_any (A : Option Addr) (c m : Nat) (n : Int) (ss : List Str) (w : World) (hr : RdS w w.heap.size A ss) (hm : ss.length = m) (hb : m ≤ 1152921504606846976) (hwf : (Lit.int .i64 n).wf = true) :
    Calls Try.prog 23 #[.int .i64 n, .slice A m c] w (NetAns w n ss) := by
  by_cases hv : vnet n ss = true
  · have H1 := Lib.hid (sValidNet_is A c m n ss w _ hr hm hb hwf hv)
    obtain ⟨k, rfl, -, -⟩ := vnet_nat hv
    have Ht := Lib.hid (netTable_any A c m k ss w hr hm hv)
    have Hv := Lib.hid hv
    clear hv hr hm hwf
    go_enter Try.func23, Try.ntmps23
    go_wp2_with fail
    refine H1.out.mono ?_
    rintro e w' ⟨rfl, rfl⟩
    go_wp2_with fail
    refine Ht.out.mono ?_
    rintro e w1 ⟨v, VR, rfl, hO, hT, hnx1⟩
    have HO := Lib.hid hO
    have HT := Lib.hid hT
    have HB := Lib.hid hnx1
    clear hO hT hnx1
    go_wp2
    go_ret
    exact .inr ⟨Hv.out, v, VR, rfl, HO.out, HT.out, HB.out⟩
  · have hv' : vnet n ss = false := by simpa using hv
    have H1 := Lib.hid (sValidNet_is A c m n ss w _ hr hm hb hwf hv')
    have Hv := Lib.hid hv'
    clear hv hv' hr hm hwf
    go_enter Try.func23, Try.ntmps23
    go_wp2_with fail
    refine H1.out.mono ?_
    rintro e w' ⟨rfl, rfl⟩
    go_wp2
    go_ret
    exact .inl ⟨Hv.out, rfl, Below.refl _ _⟩
/-- Without streets. -/
theorem vnet_empty {n : Int} {ss : List Str} (h : vnet n ss = true) : vnet n [] = true := by
  obtain ⟨h1, -⟩ := (vnet_iff n ss).1 h
  exact (vnet_iff _ _).2 ⟨h1, by simp, fun p hp => by cases hp⟩
theorem sht_empty {n : Nat} (hv : vnet n [] = true) {a b : Nat} (ha : a < n) (hb : b < n) : sht n [] a b = ownX a b := by
  refine (sht_is hv ⟨(rlx_start [] n).zero, fun a u v L _ he => ?_, (rlx_start [] n).way⟩ ha hb).symm
  obtain ⟨p, hp, _⟩ := he
  cases hp
theorem fwM_col {X : Nat → Nat → Int} {m a b : Nat} (h0 : X m m = 0) : fwM X m a b a m = X a m := by
  unfold fwM; split
  · exact fw_col h0 a
  · rfl
theorem fwM_row {X : Nat → Nat → Int} {m a b j : Nat} (h0 : X m m = 0) : fwM X m a b m j = X m j := by
  unfold fwM; split
  · exact fw_row h0 j
  · rfl
theorem fwM_at {X : Nat → Nat → Int} {m a b : Nat} : fwM X m a b a b = X a b := by
  unfold fwM; rw [if_neg (by omega)]
theorem fwM_next {X : Nat → Nat → Int} {m a b : Nat} {v : Int} (h : fwX X m a b = v) (i j : Nat) : up2 (fwM X m a b) a b v i j = fwM X m a (b + 1) i j := by
  unfold up2 fwM
  by_cases e : i = a ∧ j = b
  · obtain ⟨rfl, rfl⟩ := e
    rw [if_pos ⟨rfl, rfl⟩, if_pos (by omega), h]
  · rw [if_neg e]
    by_cases h1 : i < a ∨ (i = a ∧ j < b)
    · rw [if_pos h1, if_pos (by omega)]
    · rw [if_neg h1, if_neg (by omega)]
theorem fwM_same {X : Nat → Nat → Int} {m a b : Nat} (h : fwX X m a b = X a b) (i j : Nat) : fwM X m a b i j = fwM X m a (b + 1) i j := by
  unfold fwM
  by_cases h1 : i < a ∨ (i = a ∧ j < b)
  · rw [if_pos h1, if_pos (by omega)]
  · rw [if_neg h1]
    by_cases e : i = a ∧ j = b
    · obtain ⟨rfl, rfl⟩ := e
      rw [if_pos (by omega), h]
    · rw [if_neg (by omega)]
theorem fwM_line {X : Nat → Nat → Int} {n m a i j : Nat} (hj : j < n) : fwM X m a n i j = fwM X m (a + 1) 0 i j := by
  unfold fwM
  by_cases h1 : i < a ∨ (i = a ∧ j < n)
  · rw [if_pos h1, if_pos (by omega)]
  · rw [if_neg h1, if_neg (by omega)]
theorem fwM_zero {X : Nat → Nat → Int} {m i j : Nat} : fwM X m 0 0 i j = X i j := by
  unfold fwM; rw [if_neg (by omega)]
theorem fwM_end {X : Nat → Nat → Int} {n m i j : Nat} (hi : i < n) : fwM X m n 0 i j = fwX X m i j := by
  unfold fwM; rw [if_pos (by omega)]
theorem fwX_yes {X : Nat → Nat → Int} {m a b : Nat} {x y z : Int} (h1 : X a m = x) (h2 : X m b = y) (h3 : X a b = z) (hx : 0 ≤ x) (hy : 0 ≤ y) (hz : z < 0 ∨ x + y < z) : fwX X m a b = x + y := by
  unfold fwX; rw [h1, h2, h3, if_pos ⟨hx, hy, hz⟩]
theorem fwX_no {X : Nat → Nat → Int} {m a b : Nat} {x y z : Int} (h1 : X a m = x) (h2 : X m b = y) (h3 : X a b = z) (h : ¬ (0 ≤ x ∧ 0 ≤ y ∧ (z < 0 ∨ x + y < z))) : fwX X m a b = X a b := by
  unfold fwX; rw [h1, h2, h3, if_neg h]

/-- A table in memory. -/
structure TabX (w wr : World) (n g cA : Nat) (VR : Nat → Value) (X : Nat → Nat → Int) : Prop where
  out : Outer wr w.heap.size n (.slice (some ⟨g, 0, none⟩) n cA) VR
  row : TT wr w.heap.size n VR (rowX X n)
  bel : Below w.heap.size w wr
theorem TabX.congr {w wr : World} {n g cA : Nat} {VR : Nat → Value} {X Y : Nat → Nat → Int} (h : TabX w wr n g cA VR X) (he : ∀ i j, i < n → j < n → X i j = Y i j) : TabX w wr n g cA VR Y :=
  ⟨h.out, h.row.congr fun i hi => rowX_congr fun j hj => he i j hi hj, h.bel⟩
theorem TabX.drewN {w wr : World} {n g cA : Nat} {VR : Nat → Value} {X : Nat → Nat → Int} (h : TabX w wr n g cA VR X) (q : Nat) : TabX w (wr.drewN q) n g cA VR X :=
  ⟨h.out.drewN q, h.row.drewN q, below_drewN h.bel q⟩
theorem TabX.set {w wr : World} {n g cA a b gr cr : Nat} {VR : Nat → Value} {X : Nat → Nat → Int} (v : Int) (h : TabX w wr n g cA VR X) (ha : a < n) (hb : b < n) (he : VR a = .slice (some ⟨gr, 0, none⟩) n cr) :
    TabX w (wr.setCell ⟨gr, b, none⟩ (.int .i64 v)) n g cA VR (up2 X a b v) := by
  obtain ⟨h1, h2, h3⟩ := tab_set v h.out h.row ha hb he
  exact ⟨h1, h2, h.bel.setCell (p := ⟨gr, b, none⟩) h3 _⟩
theorem TabX.cells {w wr : World} {n g cA a b : Nat} {VR : Nat → Value} {X : Nat → Nat → Int} (h : TabX w wr n g cA VR X) (ha : a < n) (hb : b < n) :
    ∃ gr cr, VR a = .slice (some ⟨gr, 0, none⟩) n cr ∧ wr.cell? ⟨g, a, none⟩ = some (.slice (some ⟨gr, 0, none⟩) n cr) ∧ wr.cell? ⟨gr, b, none⟩ = some (.int .i64 (X a b)) ∧ wr.frozen? ⟨gr, b, none⟩ = false := tab_cells h.out h.row ha hb
theorem TabX.cell {w wr : World} {n g cA a b gr cr : Nat} {VR : Nat → Value} {X : Nat → Nat → Int} (h : TabX w wr n g cA VR X) (ha : a < n) (hb : b < n) (he : VR a = .slice (some ⟨gr, 0, none⟩) n cr) :
    wr.cell? ⟨g, a, none⟩ = some (.slice (some ⟨gr, 0, none⟩) n cr) ∧ wr.cell? ⟨gr, b, none⟩ = some (.int .i64 (X a b)) ∧ wr.frozen? ⟨gr, b, none⟩ = false := by
  obtain ⟨gr', cr', e, h1, h2, h3⟩ := h.cells ha hb
  have e2 := he.symm.trans e
  injection e2 with e3 _ e5
  injection e3 with e3
  injection e3 with e3
  subst e3 e5
  exact ⟨h1, h2, h3⟩
theorem TabX.rowAt {w wr : World} {n g cA a : Nat} {VR : Nat → Value} {X : Nat → Nat → Int} (h : TabX w wr n g cA VR X) (ha : a < n) : ∃ gr cr, VR a = .slice (some ⟨gr, 0, none⟩) n cr := by
  obtain ⟨gr, cr, e, _⟩ := h.cells ha ha
  exact ⟨gr, cr, e⟩
end Go.Proofs.Ytiblcmeoneolcaa
