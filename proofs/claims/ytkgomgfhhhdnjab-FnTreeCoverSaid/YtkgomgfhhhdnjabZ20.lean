/-
  The visit of TreeCover: who is near has one.
  Conditions: none beyond what each theorem states.
  highestNear: from a node on towards the node 0, while it is at most far.
  Conditions: none beyond what each theorem states.
  The program's cover: nodes in the order of their depth; a walk marks who is near.
  Conditions: none beyond what each theorem states.
  The program's order of the nodes: the library's insertion sort over pointers, by depth.
  Conditions: none beyond what each theorem states.
  The library's insertion sort over pointers, by depth: walked.
  Conditions: as each theorem states.
  The library's iterator over a slice of pointers, and the slice that collects it.
  Conditions: at most seven pointers.
  deepestFirst: a slice of its own with the nodes, the farthest first, those as far in their order.
  Conditions: at most seven nodes.
-/
import Derived.Test.YtkgomgfhhhdnjabZ19
import Derived.Test.YtkgomgfhhhdnjabZ16
import Derived.Test.YtkgomgfhhhdnjabZ15
import Derived.Deep.LoopGhost
import Derived.Laws.OwnMore
import Derived.RangeFuncBox
import Derived.RangeFuncLeaves
import Derived.RangeFuncBound
import Derived.Shelf.Abstract
import Derived.WalkKit
import Derived.OwnWalkIn
import Derived.TacticsInMore
import Derived.LoopNIn
import Derived.LoopIn
import Derived.Maps.AppendAt
import Derived.Deep.Onto
namespace Go.Proofs.Ytkgomgfhhhdnjab
open Go.ChangeShapes Go.WideShapes Go.ChangeAt Go.RowKit
set_option linter.unusedVariables false
set_option maxRecDepth 4000

/-- Who has one, after the visits L. -/
def mkC (far : Int) (has : Nat → Bool) (L : List (Nat × Int)) : Nat → Bool := fun i => has i || L.any fun y => decide (y.1 = i) && decide (y.2 ≤ far)
theorem mkC_nil (far : Int) (has : Nat → Bool) : mkC far has [] = has := by funext i; simp [mkC]
theorem mkC_near {far : Int} {has : Nat → Bool} {L : List (Nat × Int)} {i : Nat} {x : Int} (h : x ≤ far) (n : Nat) : hrow (mkC far has (L ++ [(i, x)])) n = hrow (upd (mkC far has L) i true) n := by
  refine hrow_congr fun j hj => ?_
  unfold upd mkC
  by_cases e : j = i
  · subst e; simp [h]
  · rw [if_neg e]
    have : ¬ i = j := fun e' => e e'.symm
    simp [this]
theorem mkC_far {far : Int} {has : Nat → Bool} {L : List (Nat × Int)} {i : Nat} {x : Int} (h : ¬ x ≤ far) : mkC far has (L ++ [(i, x)]) = mkC far has L := by
  funext j; simp [mkC, h]
def covObj (far : Int) (has : Nat → Bool) (n : Nat) (L : List (Nat × Int)) : Obj := .cells (hrow (mkC far has L) n).toArray 4 (0, 0)

set_option maxHeartbeats 800000 in
theorem visitC_any (w0 : World) (P : Nat → Nat) (RV : Nat → Value) (B R fb sb n : Nat) (far : Int) (has : Nat → Bool) (F : List (Nat × Int)) (t : List (Int × Int)) (hlk : LkN w0 B n P RV t)
    (hR : ∃ cs, w0.heap[R]? = some (.cells cs 4 (0, 0))) (hfb : fb ≠ R) (hsb : sb ≠ R) (hcf : w0.cell? ⟨fb, 0, none⟩ = some (.int .i64 far)) (hcs : w0.cell? ⟨sb, 0, none⟩ = some (.slice (some ⟨R, 0, none⟩) n n)) (hn7 : n ≤ 7)
    (hF : ∀ y ∈ F, y.1 < n ∧ 0 ≤ y.2 ∧ y.2 ≤ 1000) :
    VisitC w0 P R n (.pointer (some ⟨fb, 0, none⟩)) (.pointer (some ⟨sb, 0, none⟩)) (covObj far has n) F := by
  intro w L i x hg hL hpre hi
  obtain ⟨cs, hRc⟩ := hR
  have lk := hlk.kept hg (fun g e _ => by injection e with e; subst e; exact ⟨cs, _, _, hRc, by decide, by decide⟩)
  obtain ⟨c0, -, -, -, -⟩ := lk.cells hi
  have hx := hF (i, x) (hpre.subset (by simp))
  have cfb : w.cell? ⟨fb, 0, none⟩ = some (.int .i64 far) := (World.cell?_of_block (hg.block _ (World.block_lt_of_cell? w0 _ hcf) (fun e => hfb (by injection e)))).trans hcf
  have csb : w.cell? ⟨sb, 0, none⟩ = some (.slice (some ⟨R, 0, none⟩) n n) := (World.cell?_of_block (hg.block _ (World.block_lt_of_cell? w0 _ hcs) (fun e => hsb (by injection e)))).trans hcs
  simp only at hx
  have hin : (i : Int) < (n : Int) := by omega
  by_cases hxf : x ≤ far
  · have cR : w.cell? ⟨R, i, none⟩ = some (.bool (mkC far has L i)) := by
      rw [cell_of_row _ _ _ _ _ _ hL]
      simp only [List.getElem?_toArray]
      exact hrow_at _ hi
    have fR : w.frozen? ⟨R, i, none⟩ = false := frozen_of_row _ _ _ _ _ hL
    have hst : (w.setCell ⟨R, i, none⟩ (.bool true)).heap[R]? = some (covObj far has n (L ++ [(i, x)])) := by
      unfold covObj at hL ⊢
      rw [mkC_near hxf, ← hrow_set _ true hi]
      simp [World.setCell, Array.getElem?_modify, hL]
    have hgr : w.grownBy (w.setCell ⟨R, i, none⟩ (.bool true)) (some R) := ⟨rfl, rfl, rfl, by simp [World.setCell], fun k hk hne => Below.heap_setCell w _ _ k (by rintro rfl; exact hne rfl)⟩
    have HS := Lib.hid hst
    have HG := Lib.hid hgr
    clear hst hgr hg hL hpre lk hcf hcs hRc hx
    go_enter Try.func76, Try.ntmps76
    go_wp2_with fail
    go_region
    go_wp2
    go_end0
    exact ⟨rfl, HS.out, ⟨HG.out.os, HG.out.tape, HG.out.output, HG.out.size, HG.out.block⟩⟩
  · have hst : w.heap[R]? = some (covObj far has n (L ++ [(i, x)])) := by
      unfold covObj at hL ⊢
      rw [mkC_far hxf]; exact hL
    have HS := Lib.hid hst
    clear hst hg hL hpre lk hcf hcs hRc hx
    go_enter Try.func76, Try.ntmps76
    go_wp2_with fail
    go_end0
    exact ⟨rfl, HS.out, grown_refl _ _⟩
end Go.Proofs.Ytkgomgfhhhdnjab
namespace Go.Proofs.Ytkgomgfhhhdnjab
open Go.ChangeShapes Go.WideShapes Go.ChangeAt Go.RowKit
set_option linter.unusedVariables false
set_option maxRecDepth 4000

/-- s lies on the way from a to the node 0, so the ways add up. -/
def OnWay (t : List (Int × Int)) (n a s : Nat) : Prop := s ≤ a ∧ Bh t s a ∧ dn t n a s = dn t n a 0 - dn t n s 0
theorem onWay_self (t : List (Int × Int)) {n a : Nat} (ha : a < n) : OnWay t n a a := ⟨Nat.le_refl _, bh_self t a, by rw [dn_diag t n a ha]; omega⟩
theorem onWay_up {t : List (Int × Int)} (ht : Ahead t) {n a s : Nat} (hn : n ≤ t.length) (ha : a < n) (hs : 0 < s) (h : OnWay t n a s) : OnWay t n a (tto t s) := by
  obtain ⟨h1, h2, h3⟩ := h
  have hto := (ht s hs (by omega)).1
  have hb : Bh t (tto t s) s := (bh_up ht (by omega) hto).2 (bh_self t _)
  have hba := bh_trans ht (by omega) (by omega) hb h2
  have e1 := dn_over ht hn hs (by omega) a ha
  rw [if_pos h2] at e1
  have e2 := dn_road ht hn (show s < n by omega) hs
  rw [dn_symm t n s a] at e1
  rw [dn_symm t n (tto t s) a] at e1
  exact ⟨by omega, hba, by omega⟩

set_option maxHeartbeats 800000 in
theorem highestNear_any (P : Nat → Nat) (RV : Nat → Value) (B n a : Nat) (t : List (Int × Int)) (far : Int) (w : World) (ht : Ahead t) (hn : n ≤ t.length) (hn7 : n ≤ 7) (hlk : LkN w B n P RV t) (ha : a < n) (hfar : (Lit.int .i64 far).wf = true) :
    Calls Try.prog 75 #[.pointer (some ⟨P a, 0, none⟩), .int .i64 far] w fun e w' => e = .returned (.pointer (some ⟨P (clmC t (dn t n) far a a a), 0, none⟩)) ∧ ∃ q, w' = w.drewN q := by
  have Hlk := Lib.hid hlk
  have hda := dn_bd ht n a 0 hn ha (by omega)
  obtain ⟨-, ca, -, -, -⟩ := hlk.cells ha
  obtain ⟨DA, HDA⟩ : ∃ x, Hid (dn t n a 0 = x) := ⟨_, rfl⟩
  rw [HDA.out] at hda ca
  obtain ⟨Z, HZ⟩ : ∃ z, Hid (clmC t (dn t n) far a a a = z) := ⟨_, rfl⟩
  rw [HZ.out]
  clear hlk
  go_enter Try.func75, Try.ntmps75
  go_wp2
  go_loopg [5] a (fun f s wr => ∃ sp q : Nat, sp ≤ f ∧ s = .pointer (some ⟨P sp, 0, none⟩) ∧ Hid (OnWay t n a sp) ∧ Hid (Z = clmC t (dn t n) far a f sp) ∧ wr = w.drewN q)
  case atStart => exact ⟨a, 0, Nat.le_refl _, rfl, onWay_self t ha, HZ.out.symm, rfl⟩
  case round =>
    obtain ⟨sp, q, hsf, rfl, HW, HZ2, rfl⟩ := hrel
    have hspn : sp < n := by have := HW.out.1; omega
    obtain ⟨-, -, cu, -, -⟩ := Hlk.out.cells hspn
    by_cases hs0 : 0 < sp
    · have hto := (ht sp hs0 (by omega)).1
      obtain ⟨p, Hp⟩ : ∃ p, Hid (tto t sp = p) := ⟨_, rfl⟩
      have cu' : w.cell? ⟨P sp, 2, none⟩ = some (.pointer (some ⟨P p, 0, none⟩)) := by
        rw [cu]; unfold upv; rw [if_neg (by omega), Hp.out]; rfl
      have hpn : p < n := by have := Hp.out; omega
      obtain ⟨-, cd, -, -, -⟩ := Hlk.out.cells hpn
      have hw := Lib.hid (onWay_up ht hn ha hs0 HW.out)
      rw [Hp.out] at hw
      have hdp := dn_bd ht n p 0 hn hpn (by omega)
      obtain ⟨DP, HDP⟩ : ∃ x, Hid (dn t n p 0 = x) := ⟨_, rfl⟩
      rw [HDP.out] at hdp cd
      have hway : dn t n a p = DA - DP := by rw [← HDA.out, ← HDP.out]; exact hw.out.2.2
      clear cu
      by_cases hc : DA - DP ≤ far
      · obtain ⟨f', rfl⟩ : ∃ f', gk = f' + 1 := ⟨gk - 1, by omega⟩
        have HZ' := Lib.hid (show Z = clmC t (dn t n) far a f' p by rw [HZ2.out, clmC_up ⟨hs0, by rw [Hp.out, hway]; exact hc⟩, Hp.out])
        have hpf : p ≤ f' := by have := Hp.out; omega
        clear hto hway
        go_wp2
        go_quiet (fail)
        go_wp2
        go_roundg f'
        case rel => exact ⟨p, _, hpf, rfl, hw, HZ', rfl⟩
        case measure => omega
      · have HZ' := Lib.hid (show Z = sp by rw [HZ2.out, clmC_stop (by rintro ⟨_, h⟩; rw [Hp.out, hway] at h; exact hc h)])
        clear hto hway
        go_wp2
        go_quiet (fail)
        go_wp2
        go_ret
        exact ⟨by rw [HZ'.out]; rfl, _, World.drewN_drewN _ _ _⟩
    · have HZ' := Lib.hid (show Z = sp by rw [HZ2.out, clmC_stop (by rintro ⟨h, _⟩; exact hs0 h)])
      have cu' : w.cell? ⟨P sp, 2, none⟩ = some (.pointer none) := by
        rw [cu]; unfold upv; rw [if_pos (by omega)]
      clear cu
      go_wp2
      go_quiet (fail)
      go_wp2
      go_ret
      exact ⟨by rw [HZ'.out]; rfl, _, World.drewN_drewN _ _ _⟩
end Go.Proofs.Ytkgomgfhhhdnjab
namespace Go.Proofs.Ytkgomgfhhhdnjab
open Go.ChangeShapes Go.WideShapes Go.ChangeAt Go.RowKit
set_option linter.unusedVariables false
set_option maxRecDepth 4000

/-- The farthest first, those as far in their order. -/
def Deep (t : List (Int × Int)) (n : Nat) (ord : List Nat) : Prop :=
  ord.length = n ∧ (∀ j, j < n → ord.getD j 0 < n) ∧ (∀ i, i < n → ∃ j, j < n ∧ ord.getD j 0 = i) ∧
    ∀ j k, j < k → k < n → dn t n 0 (ord.getD k 0) < dn t n 0 (ord.getD j 0) ∨ (dn t n 0 (ord.getD k 0) = dn t n 0 (ord.getD j 0) ∧ ord.getD j 0 < ord.getD k 0)
theorem deep_first {t : List (Int × Int)} {n k : Nat} {ord : List Nat} {has : Nat → Bool} (h : Deep t n ord) (hk : k < n) (hall : ∀ j, j < k → has (ord.getD j 0) = true) (hf : has (ord.getD k 0) = false) :
    fstC (dn t n 0) has n = ord.getD k 0 := by
  obtain ⟨h1, h2, h3, h4⟩ := h
  have hkn := h2 k hk
  rcases Int.lt_or_le (fstC (dn t n 0) has n) 0 with hn | hn
  · have := fstC_none hn (ord.getD k 0) hkn
    rw [this] at hf; cases hf
  · obtain ⟨a, ha⟩ := Int.eq_ofNat_of_zero_le hn
    obtain ⟨a1, a2, a3, a4⟩ := fstC_some ha
    obtain ⟨j, hj, hja⟩ := h3 a a1
    rw [ha]
    by_cases e : j = k
    · subst e; rw [hja]
    · by_cases hjk : j < k
      · have := hall j hjk
        rw [hja, a2] at this; cases this
      · have hle := a3 (ord.getD k 0) hkn hf
        rcases h4 k j (by omega) hj with hlt | ⟨heq, hlt⟩
        · rw [hja] at hlt; omega
        · rw [hja] at hlt heq
          have := a4 (ord.getD k 0) hlt hf
          omega
theorem deep_end {t : List (Int × Int)} {n : Nat} {ord : List Nat} {has : Nat → Bool} (h : Deep t n ord) (hall : ∀ j, j < n → has (ord.getD j 0) = true) : fstC (dn t n 0) has n < 0 := by
  obtain ⟨h1, h2, h3, h4⟩ := h
  rcases Int.lt_or_le (fstC (dn t n 0) has n) 0 with hn | hn
  · exact hn
  · obtain ⟨a, ha⟩ := Int.eq_ofNat_of_zero_le hn
    obtain ⟨a1, a2, a3, a4⟩ := fstC_some ha
    obtain ⟨j, hj, hja⟩ := h3 a a1
    have := hall j hj
    rw [hja, a2] at this; cases this
/-- What a walk from node z marks. -/
theorem mkC_walk {t : List (Int × Int)} {n z : Nat} {far : Int} {has : Nat → Bool} {L : List (Nat × Int)} (hway : ∀ y ∈ L, y.1 < n ∧ y.2 = dn t n z y.1) (hall : ∀ i, i < n → (i, dn t n z i) ∈ L) :
    hrow (mkC far has L) n = hrow (addC (dn t n) far has z) n := by
  refine hrow_congr fun i hi => ?_
  unfold mkC addC
  congr 1
  by_cases h : dn t n z i ≤ far
  · rw [decide_eq_true h, List.any_eq_true]
    exact ⟨_, hall i hi, by simp [h]⟩
  · rw [decide_eq_false h, List.any_eq_false]
    intro y hy
    simp only [Bool.and_eq_true, decide_eq_true_eq, not_and]
    intro e
    have := (hway y hy).2
    rw [this, e]; exact h
/-- A walk from node z marks all that are near. -/
theorem cover_walk {w4 : World} {P : Nat → Nat} {RV : Nat → Value} {B R fb sb n z : Nat} {far : Int} {has : Nat → Bool} {t : List (Int × Int)} (ht : Ahead t) (hn : t.length = n) (hn7 : n ≤ 7) (hk : z < n) (hlk : LkN w4 B n P RV t)
    (hR : w4.heap[R]? = some (.cells (hrow has n).toArray 4 (0, 0))) (hfb : fb ≠ R) (hsb : sb ≠ R) (hcf : w4.cell? ⟨fb, 0, none⟩ = some (.int .i64 far)) (hcs : w4.cell? ⟨sb, 0, none⟩ = some (.slice (some ⟨R, 0, none⟩) n n)) :
    Calls Try.prog 59 #[.pointer (some ⟨P z, 0, none⟩), .pointer none, .func (.func 76) #[] #[.pointer (some ⟨fb, 0, none⟩), .pointer (some ⟨sb, 0, none⟩)]] w4 fun e w' => e = .returned (.tuple #[]) ∧
      w'.heap[R]? = some (.cells (hrow (addC (dn t n) far has z) n).toArray 4 (0, 0)) ∧ w4.grownBy w' (some R) := by
  obtain ⟨M, hV, hs⟩ := walks_all ht n (by omega) z hk 0
  have hway := visited_way hs
  have hF : ∀ y ∈ (z, (0 : Int)) :: M, y.1 < n ∧ 0 ≤ y.2 ∧ y.2 ≤ 1000 := fun y hy => by
    obtain ⟨h1, _, h2⟩ := hway y hy
    have := dn_bd ht n z y.1 (by omega) hk h1
    omega
  have hvis := visitC_any w4 P RV B R fb sb n far has ((z, 0) :: M) t hlk ⟨_, hR⟩ hfb hsb hcf hcs hn7 hF
  refine (walkC_any w4 P RV B R n _ _ (covObj far has n) t ht (by omega) hn7 hlk ⟨_, _, _, hR, by decide, by decide⟩ (by unfold covObj; rw [mkC_nil]; exact hR) z none M hk (fun g e => by cases e) hV hvis (fun y hy => by have := hF y hy; omega)).mono ?_
  rintro e w' ⟨he, hh, hg⟩
  refine ⟨he, ?_, hg⟩
  rw [hh]
  unfold covObj
  rw [mkC_walk (t := t) (z := z) (fun y hy => by obtain ⟨h1, _, h2⟩ := hway y hy; exact ⟨h1, by omega⟩) (fun i hi => by
    have := visited_all hs hi trivial
    simpa using this)]
end Go.Proofs.Ytkgomgfhhhdnjab
namespace Go.Proofs.Ytkgomgfhhhdnjab
open Go.ChangeShapes Go.WideShapes Go.ChangeAt Go.RowKit
set_option linter.unusedVariables false
set_option maxRecDepth 4000

/-- x stands ahead of y: farther from the node 0, or as far and of a smaller number. -/
def Bef (t : List (Int × Int)) (n x y : Nat) : Prop := dn t n 0 y < dn t n 0 x ∨ (dn t n 0 y = dn t n 0 x ∧ x < y)
theorem bef_trans {t : List (Int × Int)} {n x y z : Nat} (h1 : Bef t n x y) (h2 : Bef t n y z) : Bef t n x z := by
  unfold Bef at *
  omega
/-- All nodes, each once. -/
def AllO (n : Nat) (ord : List Nat) : Prop := ord.length = n ∧ (∀ j, j < n → ord.getD j 0 < n) ∧ (∀ i, i < n → ∃ j, j < n ∧ ord.getD j 0 = i)
/-- Sorted as far as i; behind it as it was. -/
structure SortO (t : List (Int × Int)) (n i : Nat) (ord : List Nat) : Prop where
  all : AllO n ord
  srt : ∀ j k, j < k → k < i → Bef t n (ord.getD j 0) (ord.getD k 0)
  low : ∀ j, j < i → ord.getD j 0 < i
  rst : ∀ j, i ≤ j → j < n → ord.getD j 0 = j
/-- The node i is on its way, at place j. -/
structure SortI (t : List (Int × Int)) (n i j : Nat) (ord : List Nat) : Prop where
  all : AllO n ord
  le : j ≤ i
  lt : i < n
  srt : ∀ a b, a < b → b ≤ i → a ≠ j → b ≠ j → Bef t n (ord.getD a 0) (ord.getD b 0)
  aft : ∀ b, j < b → b ≤ i → Bef t n (ord.getD j 0) (ord.getD b 0)
  its : ord.getD j 0 = i
  low : ∀ a, a ≤ i → a ≠ j → ord.getD a 0 < i
  rst : ∀ a, i < a → a < n → ord.getD a 0 = a
def swO (ord : List Nat) (m : Nat) : List Nat := (ord.set (m + 1) (ord.getD m 0)).set m (ord.getD (m + 1) 0)
theorem swO_len (ord : List Nat) (m : Nat) : (swO ord m).length = ord.length := by simp [swO]
theorem getD_set (l : List Nat) (i k x : Nat) (h : i < l.length) : (l.set i x).getD k 0 = if k = i then x else l.getD k 0 := by
  rw [List.getD_eq_getElem?_getD, List.getElem?_set, List.getD_eq_getElem?_getD]
  by_cases e : i = k
  · subst e; simp [h]
  · rw [if_neg e, if_neg (fun e' => e e'.symm)]
theorem swO_at {ord : List Nat} {m : Nat} (h : m + 1 < ord.length) (k : Nat) : (swO ord m).getD k 0 = if k = m then ord.getD (m + 1) 0 else if k = m + 1 then ord.getD m 0 else ord.getD k 0 := by
  unfold swO
  rw [getD_set _ _ _ _ (by simp; omega), getD_set _ _ _ _ h]
theorem allO_sw {n m : Nat} {ord : List Nat} (h : AllO n ord) (hm : m + 1 < n) : AllO n (swO ord m) := by
  obtain ⟨h1, h2, h3⟩ := h
  refine ⟨by rw [swO_len, h1], fun j hj => ?_, fun i hi => ?_⟩
  · rw [swO_at (by omega)]
    have a1 := h2 (m + 1) hm
    have a2 := h2 m (by omega)
    have a3 := h2 j hj
    split
    · exact a1
    · split
      · exact a2
      · exact a3
  · obtain ⟨j, hj, hji⟩ := h3 i hi
    by_cases e1 : j = m
    · subst e1
      exact ⟨j + 1, hm, by rw [swO_at (by omega), if_neg (by omega), if_pos rfl, hji]⟩
    · by_cases e2 : j = m + 1
      · subst e2
        exact ⟨m, by omega, by rw [swO_at (by omega), if_pos rfl, hji]⟩
      · exact ⟨j, hj, by rw [swO_at (by omega), if_neg e1, if_neg e2, hji]⟩
theorem sortI_start {t : List (Int × Int)} {n i : Nat} {ord : List Nat} (h : SortO t n i ord) (hi : i < n) : SortI t n i i ord where
  all := h.all
  le := Nat.le_refl _
  lt := hi
  srt a b hab hb ha hb' := h.srt a b hab (by omega)
  aft b h1 h2 := by omega
  its := h.rst i (Nat.le_refl _) hi
  low a ha hne := h.low a (by omega)
  rst a ha hn := h.rst a (by omega) hn
theorem sortI_step {t : List (Int × Int)} {n i m : Nat} {ord : List Nat} (h : SortI t n i (m + 1) ord) (hlt : dn t n 0 (ord.getD m 0) < dn t n 0 (ord.getD (m + 1) 0)) : SortI t n i m (swO ord m) := by
  have hle := h.le
  have hltn := h.lt
  have hl : m + 1 < ord.length := by rw [h.all.1]; omega
  have e1 : (swO ord m).getD m 0 = ord.getD (m + 1) 0 := by rw [swO_at hl, if_pos rfl]
  have e2 : (swO ord m).getD (m + 1) 0 = ord.getD m 0 := by rw [swO_at hl, if_neg (by omega), if_pos rfl]
  have e3 : ∀ k, k ≠ m → k ≠ m + 1 → (swO ord m).getD k 0 = ord.getD k 0 := fun k h1 h2 => by rw [swO_at hl, if_neg h1, if_neg h2]
  refine ⟨allO_sw h.all (by omega), by omega, hltn, fun a b hab hb ha hb' => ?_, fun b h1 h2 => ?_, by rw [e1]; exact h.its, fun a ha hne => ?_, fun a ha hn => ?_⟩
  · by_cases ea : a = m + 1
    · subst ea
      rw [e2, e3 b (by omega) (by omega)]
      exact h.srt m b (by omega) hb (by omega) (by omega)
    · by_cases eb : b = m + 1
      · subst eb
        rw [e2, e3 a ha ea]
        exact h.srt a m (by omega) (by omega) (by omega) (by omega)
      · rw [e3 a ha ea, e3 b hb' eb]
        exact h.srt a b hab hb ea eb
  · rw [e1]
    by_cases eb : b = m + 1
    · subst eb
      rw [e2]; exact .inl hlt
    · rw [e3 b (by omega) eb]
      exact h.aft b (by omega) h2
  · by_cases ea : a = m + 1
    · subst ea; rw [e2]; exact h.low m (by omega) (by omega)
    · rw [e3 a hne ea]; exact h.low a ha ea
  · rw [e3 a (by omega) (by omega)]; exact h.rst a ha hn
theorem sortI_stop {t : List (Int × Int)} {n i j : Nat} {ord : List Nat} (h : SortI t n i j ord) (hs : j = 0 ∨ ∃ m, j = m + 1 ∧ ¬ dn t n 0 (ord.getD m 0) < dn t n 0 (ord.getD (m + 1) 0)) : SortO t n (i + 1) ord := by
  have hle := h.le
  refine ⟨h.all, fun a b hab hb => ?_, fun a ha => ?_, fun a ha hn => h.rst a (by omega) hn⟩
  · by_cases ea : a = j
    · subst ea; exact h.aft b hab (by omega)
    · by_cases eb : b = j
      · subst eb
        rcases hs with e | ⟨m, rfl, hm⟩
        · omega
        · have hlast : Bef t n (ord.getD m 0) (ord.getD (m + 1) 0) := by
            have := h.low m (by omega) (by omega)
            have := h.its
            unfold Bef
            omega
          by_cases em : a = m
          · subst em; exact hlast
          · exact bef_trans (h.srt a m (by omega) (by omega) ea (by omega)) hlast
      · exact h.srt a b hab (by omega) ea eb
  · by_cases ea : a = j
    · subst ea; rw [h.its]; omega
    · have := h.low a (by omega) ea; omega
theorem range_at (n j : Nat) (h : j < n) : (List.range n).getD j 0 = j := by
  rw [List.getD_eq_getElem?_getD, List.getElem?_range h]; rfl
theorem sortO_start (t : List (Int × Int)) {n : Nat} (hn : 1 ≤ n) : SortO t n 1 (List.range n) where
  all := ⟨by simp, fun j hj => by rw [range_at n j hj]; exact hj, fun i hi => ⟨i, hi, range_at n i hi⟩⟩
  srt j k h1 h2 := by omega
  low j hj := by rw [range_at n j (by omega)]; exact hj
  rst j _ hj := range_at n j hj

def ptrsO (P : Nat → Nat) (ord : List Nat) : List Value := ord.map fun i => ptr (P i)
theorem ptrsO_at (P : Nat → Nat) {ord : List Nat} {j : Nat} (h : j < ord.length) : (ptrsO P ord)[j]? = some (.pointer (some ⟨P (ord.getD j 0), 0, none⟩)) := by
  unfold ptrsO
  rw [List.getElem?_map, List.getD_eq_getElem?_getD, List.getElem?_eq_getElem h]; rfl
theorem ptrsO_sw (P : Nat → Nat) {ord : List Nat} {m : Nat} : ((ptrsO P ord).set (m + 1) (ptr (P (ord.getD m 0)))).set m (ptr (P (ord.getD (m + 1) 0))) = ptrsO P (swO ord m) := by
  unfold ptrsO swO
  rw [List.map_set, List.map_set]

set_option maxHeartbeats 400000 in
theorem cmp_any (Pa Pb : Nat) (da db : Int) (W : World) (ca : W.cell? ⟨Pa, 1, none⟩ = some (.int .i64 da)) (cb : W.cell? ⟨Pb, 1, none⟩ = some (.int .i64 db)) (h1 : 0 ≤ da) (h2 : da ≤ 1000) (h3 : 0 ≤ db) (h4 : db ≤ 1000) :
    Calls Try.prog 111 #[.pointer (some ⟨Pa, 0, none⟩), .pointer (some ⟨Pb, 0, none⟩)] W fun e w' => e = .returned (.int .i64 (db - da)) ∧ ∃ q, w' = W.drewN q := by
  have w1 : IntKind.i64.wrap (db - da) = db - da := IntWalk.i64_in _ (by omega)
  go_enter Try.func111, Try.ntmps111
  go_wp2
  go_quiet (fail)
  go_wp2
  go_ret
  exact ⟨rfl, _, rfl⟩

/-- The row of pointers while it is sorted. -/
structure SRow (w wr : World) (P : Nat → Nat) (g n cap : Nat) (ord : List Nat) : Prop where
  own : wr.ownsRow w.heap.size 65 1 (.slice (some ⟨g, 0, none⟩) n cap) n (ptrsO P ord)
  bel : Below w.heap.size w wr
  ge : w.heap.size ≤ g
theorem SRow.drewN {w wr : World} {P : Nat → Nat} {g n cap : Nat} {ord : List Nat} (h : SRow w wr P g n cap ord) (q : Nat) : SRow w (wr.drewN q) P g n cap ord :=
  ⟨h.own, below_drewN h.bel q, h.ge⟩
theorem SRow.swap {w wr : World} {P : Nat → Nat} {g n cap m : Nat} {ord : List Nat} (h : SRow w wr P g n cap ord) :
    SRow w ((wr.setCell ⟨g, m + 1, none⟩ (ptr (P (ord.getD m 0)))).setCell ⟨g, m, none⟩ (ptr (P (ord.getD (m + 1) 0)))) P g n cap (swO ord m) := by
  have h1 := (h.own.stored (m + 1) (ptr (P (ord.getD m 0)))).1
  have h2 := (World.ownsRow.stored h1 m (ptr (P (ord.getD (m + 1) 0)))).1
  rw [ptrsO_sw] at h2
  exact ⟨h2, (h.bel.setCell (p := ⟨g, m + 1, none⟩) h.ge _).setCell (p := ⟨g, m, none⟩) h.ge _, h.ge⟩
end Go.Proofs.Ytkgomgfhhhdnjab
namespace Go.Proofs.Ytkgomgfhhhdnjab
open Go.ChangeShapes Go.WideShapes Go.ChangeAt Go.RowKit
set_option linter.unusedVariables false
set_option maxRecDepth 4000

theorem SRow.cells {w wr : World} {P : Nat → Nat} {g n cap : Nat} {ord : List Nat} (h : SRow w wr P g n cap ord) (hl : ord.length = n) {j : Nat} (hj : j < n) :
    wr.cell? ⟨g, j, none⟩ = some (.pointer (some ⟨P (ord.getD j 0), 0, none⟩)) ∧ wr.frozen? ⟨g, j, none⟩ = false := by
  refine ⟨?_, h.own.frozenAt j⟩
  rw [h.own.cellAt j (by omega)]
  exact ptrsO_at P (by omega)

set_option maxHeartbeats 1600000 in
theorem insort_any (P : Nat → Nat) (RV : Nat → Value) (B n cap g : Nat) (t : List (Int × Int)) (w wr : World) (ht : Ahead t) (hnt : n ≤ t.length) (hn1 : 1 ≤ n) (hn7 : n ≤ 7) (hcap : n ≤ cap) (hlk : LkN w B n P RV t) (hs : SRow w wr P g n cap (List.range n)) :
    Calls Try.prog 130 #[.slice (some ⟨g, 0, none⟩) n cap, .int .i64 0, .int .i64 n, .func (.func 111) #[] #[]] wr fun e w' => e = .returned (.tuple #[]) ∧
      ∃ ord, SortO t n n ord ∧ SRow w w' P g n cap ord := by
  have Hlk := Lib.hid hlk
  have HS0 := Lib.hid hs
  have HO0 := Lib.hid (sortO_start t hn1)
  clear hlk hs
  go_enter Try.func130, Try.ntmps130
  go_wp2
  go_loopg [8] (n - 1) (fun g1 vi wo => ∃ (i : Nat) (ord : List Nat), vi = .int .i64 i ∧ 1 ≤ i ∧ i ≤ n ∧ n - i ≤ g1 ∧ Hid (SortO t n i ord) ∧ Hid (SRow w wo P g n cap ord))
  case atStart => exact ⟨1, _, by go_num, Nat.le_refl _, hn1, Nat.le_refl _, HO0, HS0⟩
  case round =>
    clear HO0 HS0
    obtain ⟨i, ord, rfl, hi1, hin, hg1, HO, HS⟩ := hrel
    by_cases hlt : i < n
    · have hltz : (i : Int) < (n : Int) := by omega
      go_wp2
      go_loopg [9] i (fun g2 vj wi => ∃ (j : Nat) (ord : List Nat), vj = .int .i64 j ∧ j ≤ i ∧ j ≤ g2 ∧ Hid (SortI t n i j ord) ∧ Hid (SRow w wi P g n cap ord))
      case atStart => exact ⟨i, ord, rfl, Nat.le_refl _, Nat.le_refl _, sortI_start HO.out hlt, HS⟩
      case round =>
        clear HO HS
        obtain ⟨j, ord, rfl, hji, hg2, HI, HS⟩ := hrel
        cases j with
        | zero =>
          have OUT := Lib.hid (sortI_stop HI.out (.inl rfl))
          go_wp2
          go_quiet (fail)
          have HS2 := Lib.hid (HS.out.drewN nq)
          go_wp2
          go_roundg (n - (i + 1))
          case measure => omega
          case rel => exact ⟨i + 1, ord, by go_num, by omega, by omega, Nat.le_refl _, OUT, HS2⟩
        | succ m =>
          have hlen := HI.out.all.1
          obtain ⟨ca, fa⟩ := HS.out.cells hlen (j := m + 1) (by omega)
          obtain ⟨cb, fb⟩ := HS.out.cells hlen (j := m) (by omega)
          have han := HI.out.all.2.1 (m + 1) (by omega)
          have hbn := HI.out.all.2.1 m (by omega)
          have HSTEP := Lib.hid (sortI_step HI.out)
          have HSTOP := Lib.hid (fun h => sortI_stop HI.out (.inr ⟨m, rfl, h⟩))
          have HSW := Lib.hid (SRow.swap (m := m) HS.out)
          have hlk2 := Hlk.out.below (HS.out.bel.mono (Nat.le_refl _))
          obtain ⟨-, da, -, -, -⟩ := hlk2.cells han
          obtain ⟨-, db, -, -, -⟩ := hlk2.cells hbn
          have ba := dn_bd ht n _ 0 hnt han (by omega)
          have bb := dn_bd ht n _ 0 hnt hbn (by omega)
          rw [dn_symm t n 0, dn_symm t n 0] at HSTEP HSTOP
          obtain ⟨DA, HDA⟩ : ∃ x, Hid (dn t n (ord.getD (m + 1) 0) 0 = x) := ⟨_, rfl⟩
          obtain ⟨DB, HDB⟩ : ∃ x, Hid (dn t n (ord.getD m 0) 0 = x) := ⟨_, rfl⟩
          rw [HDA.out] at da ba HSTEP HSTOP
          rw [HDB.out] at db bb HSTEP HSTOP
          obtain ⟨PA, HPA⟩ : ∃ x, Hid (P (ord.getD (m + 1) 0) = x) := ⟨_, rfl⟩
          obtain ⟨PB, HPB⟩ : ∃ x, Hid (P (ord.getD m 0) = x) := ⟨_, rfl⟩
          rw [HPA.out] at ca da HSW
          rw [HPB.out] at cb db HSW
          have hcmp : ∀ q, Calls Try.prog 111 #[.pointer (some ⟨PA, 0, none⟩), .pointer (some ⟨PB, 0, none⟩)] (wr.drewN q) fun e w' => e = .returned (.int .i64 (DB - DA)) ∧ ∃ k, w' = (wr.drewN q).drewN k :=
            fun q => cmp_any PA PB DA DB (wr.drewN q) da db (by omega) (by omega) (by omega) (by omega)
          have HC := Lib.hid hcmp
          have e0 : ((m : Int) + 1).toNat = m + 1 := by omega
          have p0 : (0 : Int) ≤ (m : Int) + 1 := by omega
          have g0 : (0 : Int) < (m : Int) + 1 := by omega
          have jz : (m : Int) + 1 < (n : Int) := by omega
          have jz1 : (m : Int) < (n : Int) := by omega
          have hwp : IntKind.i64.wrap (m : Int) = (m : Int) := IntWalk.i64_in _ (by omega)
          have hwp1 : IntKind.i64.wrap ((m : Int) + 1) = (m : Int) + 1 := IntWalk.i64_in _ (by omega)
          clear hlk2 han hbn hlen hcmp da db
          by_cases hc : DB < DA
          · have hd : decide (DB - DA < 0) = true := decide_eq_true (by omega)
            have hd' : DB - DA < 0 := by omega
            have HI2 := Lib.hid (HSTEP.out hc)
            clear HSTEP HSTOP
            go_wp2_with fail
            go_quiet (exact Calls.quiet_of (HC.out _))
            have ca2 : (wr.drewN nq).cell? ⟨g, m + 1, none⟩ = some (.pointer (some ⟨PA, 0, none⟩)) := ca
            have cb2 : (wr.drewN nq).cell? ⟨g, m, none⟩ = some (.pointer (some ⟨PB, 0, none⟩)) := cb
            have fa2 : (wr.drewN nq).frozen? ⟨g, m + 1, none⟩ = false := fa
            have fb2 : (wr.drewN nq).frozen? ⟨g, m, none⟩ = false := fb
            have hsw : SRow w (((wr.drewN nq).setCell ⟨g, m + 1, none⟩ (.pointer (some ⟨PB, 0, none⟩))).setCell ⟨g, m, none⟩ (.pointer (some ⟨PA, 0, none⟩))) P g n cap (swO ord m) := by
              have := SRow.swap (m := m) (HS.out.drewN nq)
              rw [HPA.out, HPB.out] at this
              exact this
            clear ca cb fa fb HSW HS
            generalize wr.drewN nq = wq at ca2 cb2 fa2 fb2 hsw ⊢
            obtain ⟨j1, hj1⟩ : ∃ j1, j1 = m + 1 := ⟨_, rfl⟩
            rw [← hj1] at ca2 fa2 e0 hsw
            have HSW := Lib.hid hsw
            clear hj1 hsw
            go_wp2_with fail
            go_region
            all_goals
              have HS2 := Lib.hid (HSW.out.drewN 1)
              go_wp2
              go_roundg m
              case measure => omega
              case rel => exact ⟨m, swO ord m, by go_num, by omega, by omega, HI2, HS2⟩
          · have hd : decide (DB - DA < 0) = false := decide_eq_false (by omega)
            have hd' : ¬ DB - DA < 0 := by omega
            have OUT := Lib.hid (HSTOP.out hc)
            clear HSTEP HSTOP HSW
            go_wp2_with fail
            go_quiet (exact Calls.quiet_of (HC.out _))
            have HS2 := Lib.hid (HS.out.drewN nq)
            go_wp2
            go_roundg (n - (i + 1))
            case measure => omega
            case rel => exact ⟨i + 1, ord, by go_num, by omega, by omega, Nat.le_refl _, OUT, HS2⟩
    · have hltz : ¬ (i : Int) < (n : Int) := by omega
      obtain rfl : i = n := by omega
      go_wp2
      go_end0
      exact ⟨rfl, ord, HO.out, HS.out⟩
end Go.Proofs.Ytkgomgfhhhdnjab
namespace Go.Proofs.Ytkgomgfhhhdnjab
open Go.ChangeShapes Go.WideShapes Go.ChangeAt Go.RowKit Go.Shelf
set_option linter.unusedVariables false
set_option maxRecDepth 100000
attribute [local go_sem] Oper.semAt_some

set_option maxHeartbeats 2000000 in
/-- The closure of slices.Values: each pointer to yield, in order. -/
theorem values1_in (F : Fence) (n : Nat) (h7 : F.fn 121) (hro : F.round = none) (hn : 1 ≤ n) (l Bs n₀ b len cap : Nat) (P : Nat → Nat) (hl7 : len ≤ 7) (hb : b < n₀) (J Jx : List Nat → World → Prop)
    (hY : ∀ pre x W, J pre W → pre.length < len → YieldAt F (n - 1) Try.prog l #[.pointer (some ⟨P x, 0, none⟩)] W fun e W' =>
      (e = .returned (.bool true) ∧ J (pre ++ [x]) W' ∧ Below n₀ W W') ∨ (e = .returned (.bool false) ∧ Jx (pre ++ [x]) W'))
    (W : World) (hBs : W.cell? ⟨Bs, 0, none⟩ = some (.slice (some ⟨b, 0, none⟩) len cap)) (hc : ∀ j, j < len → W.cell? ⟨b, j, none⟩ = some (.pointer (some ⟨P j, 0, none⟩))) (h0 : J [] W) :
    CallsIn F n Try.prog 121 #[.func (.yield l) #[] #[], .pointer (some ⟨Bs, 0, none⟩)] W fun e W' => (∃ v, e = .returned v) ∧
      ((∃ ys, ys = List.range len ∧ J ys W') ∨ (∃ pre, (∃ k, k ≤ len ∧ pre = List.range k) ∧ Jx pre W')) := by
  refine callsIn_of_wp Try.func121 rfl h7 ?_ hro
  simp only [Try.ntmps121, List.size_toArray, List.length_cons, List.length_nil, Nat.reduceAdd, Nat.reduceSub, Array.replicate_succ, Array.replicate_zero, List.push_toArray, List.append_toArray, List.nil_append, List.cons_append]
  gi_wp2
  gi_loopw [7] (fun i wr => ∃ k : Nat, k ≤ len ∧ i = .int .i64 k ∧ J (List.range k) wr ∧ Below n₀ W wr)
    (fun i _ => len - (intOf i).toNat)
  case atStart => exact ⟨0, Nat.zero_le _, rfl, h0, Below.refl _ _⟩
  case round =>
    obtain ⟨k, hk, rfl, hJs, hnx⟩ := hrel
    by_cases hlt : k < len
    · have hcx' : wr.cell? ⟨b, k, none⟩ = some (.pointer (some ⟨P k, 0, none⟩)) := (hnx.cell (p := ⟨b, k, none⟩) hb).trans (hc k hlt)
      obtain ⟨fn, tmps, assign, body, hy, hR⟩ := hY _ k wr hJs (by rw [List.length_range]; exact hlt)
      gi_wp2
      refine hR.mono ?_
      rintro e W3 (⟨rfl, hJ3, hk3⟩ | ⟨rfl, hJx3⟩)
      · gi_wp2
        go_roundw
        case rel => exact ⟨k + 1, by omega, by simp, by rw [List.range_succ]; exact hJ3, hnx.trans hk3⟩
        case measure => simp [intOf]; omega
      · gi_wp2
        refine bodyPost_ret (results_none rfl _ _ _) rfl ?_
        exact ⟨⟨_, rfl⟩, .inr ⟨_, ⟨k + 1, by omega, (List.range_succ).symm⟩, hJx3⟩⟩
    · obtain rfl : k = len := by omega
      gi_wp2
      go_end0
      exact ⟨⟨_, rfl⟩, .inl ⟨_, rfl, hJs⟩⟩

set_option maxHeartbeats 1000000 in
/-- slices.Values hands back its closure, which has captured the slice. -/
theorem values_any (a : Option Addr) (len cap : Nat) (w : World) :
    Calls Try.prog 110 #[.slice a len cap] w fun e w' => e = .returned (.func (.func 121) #[] #[.pointer (some ⟨w.heap.size, 0, none⟩)]) ∧ w' = w.alloc (.cells #[.slice a len cap] 63) := by
  go_enter Try.func110, Try.ntmps110
  go_wp2
  go_ret
  exact ⟨rfl, rfl⟩
theorem values_stops (F : Fence) (n : Nat) (h7 : F.fn 121) (hro : F.round = none) (hn : 1 ≤ n) (Bs n₀ b len cap : Nat) (P : Nat → Nat) (hl7 : len ≤ 7) (w : World) (hBs : Bs < w.heap.size) (hn₀ : n₀ ≤ w.heap.size) (hb : b < n₀)
    (hc : w.cell? ⟨Bs, 0, none⟩ = some (.slice (some ⟨b, 0, none⟩) len cap)) (hI : ∀ j, j < len → w.cell? ⟨b, j, none⟩ = some (.pointer (some ⟨P j, 0, none⟩))) :
    SeqStopsK F n Try.prog 121 #[.pointer (some ⟨Bs, 0, none⟩)] (fun x : Nat => #[Value.pointer (some ⟨P x, 0, none⟩)]) (Below n₀) (fun ys => ys = List.range len) (fun pre => ∃ k, k ≤ len ∧ pre = List.range k) len w := fun l J Jx W hW _ _ hY h0 =>
  values1_in F n h7 hro hn l Bs n₀ b len cap P hl7 hb J Jx hY W ((hW.cell (p := ⟨Bs, 0, none⟩) hBs).trans hc) (fun j hj => ((hW.mono hn₀).cell (p := ⟨b, j, none⟩) hb).trans (hI j hj)) h0

set_option maxHeartbeats 2000000 in
/-- slices.AppendSeq of nothing and the iterator: a slice of the call's own with the pointers in their order. -/
theorem appendSeq_in (F : Fence) (n : Nat) (h91 : F.fn 127) (h90 : F.fn 121) (hro : F.round = none) (hn : 3 ≤ n) (Bs b len cap : Nat) (P : Nat → Nat) (hl7 : len ≤ 7) (w : World) (hBs : Bs < w.heap.size) (hb : b < w.heap.size)
    (hc : w.cell? ⟨Bs, 0, none⟩ = some (.slice (some ⟨b, 0, none⟩) len cap)) (hI : ∀ j, j < len → w.cell? ⟨b, j, none⟩ = some (.pointer (some ⟨P j, 0, none⟩))) :
    CallsIn F n Try.prog 127 #[.slice none 0 0, .func (.func 121) #[] #[.pointer (some ⟨Bs, 0, none⟩)]] w fun e W' => ∃ v, e = .returned v ∧
      W'.ownsRow w.heap.size 65 1 v len (ptrsO P (List.range len)) ∧ Below w.heap.size w W' := by
  have h1 : 1 ≤ n := by omega
  obtain ⟨i0, hi, hz0, hz1, hz2⟩ := info_parts nptrInfo
  refine callsIn_of_wp_marks Try.func127 rfl h91 ?_ hro
  simp only [Try.ntmps127, List.size_toArray, List.length_cons, List.length_nil, Nat.reduceAdd, Nat.reduceSub, Array.replicate_succ, Array.replicate_zero, List.push_toArray, List.append_toArray, List.nil_append, List.cons_append]
  gi_wp2
  have bO := Boxed.new w 63 (.slice none 0 0)
  have hB0 : Below w.heap.size w (w.alloc (.cells #[.slice none 0 0] 63)) := (Below.refl _ w).alloc (Nat.le_refl _) _
  refine wpIn_rangeFunc_ownG hro h1 (gf := 121) (lb := #[.pointer (some ⟨Bs, 0, none⟩)]) rfl h90 (enters_of Try.func121 (by kernel_rfl) rfl)
    (values_stops F (n - 1) h90 hro (by omega) Bs w.heap.size b len cap P hl7 _ (by simp; omega) (by simp) hb ((hB0.cell (p := ⟨Bs, 0, none⟩) hBs).trans hc) (fun j hj => (hB0.cell (p := ⟨b, j, none⟩) hb).trans (hI j hj))) belowK_t (belowK_b (by simp)) (Below.refl _ _) (fun _ => rfl)
    (fun pre W => (∃ v, Boxed W w.heap.size 63 v ∧ W.ownsRow w.heap.size 65 1 v pre.length (ptrsO P pre) ∧ True) ∧ Below w.heap.size w W)
    (fun _ _ _ => False)
    (OwnFrom.and (Own.from (holdsRow_own w.heap.size w.heap.size 63 65 1 (fun pre => pre.length) (fun pre => ptrsO P pre) (fun _ _ => True)) _) (ownFrom_below (Nat.le_refl _) (by simp)))
    (fun _ _ _ _ _ hs _ _ => hs)
    ⟨⟨_, bO, World.ownsRow_nil _ _ _ _, trivial⟩, hB0⟩
    (fun x => { tmps := #[.slice none 0 0, .func (.func 121) #[] #[.pointer (some ⟨Bs, 0, none⟩)], .pointer (some ⟨w.heap.size, 0, none⟩), undef, .slice none 0 0, .pointer (some ⟨P x, 0, none⟩), .func (.func 121) #[] #[.pointer (some ⟨Bs, 0, none⟩)], .pointer (some ⟨P x, 0, none⟩), undef, undef, undef, undef, undef], defers := [] }) ?assign ?body ?done ?stop
  case assign =>
    intro l x W K hK
    gi_wp2
    exact hK
  case body =>
    rintro l pre x W ⟨⟨v, hv, hrow, -⟩, hB⟩ hlt
    have hc := hv.cell
    gi_wp2_with (gi_at_builtin; refine wpListIn_append_own _ rfl _ _ 63 rfl w.heap.size 65 i0 (.pointer none) 1 8 Try.underlying63 hi hz0 hz1 hz2 rfl (by decide) _ _ _ rfl (hrow.alloc _) ⟨W.heap.size, 0, none⟩ 1 1 [.pointer (some ⟨P x, 0, none⟩)] rfl rfl (cell_one_new _ _ _) (by simp [Value.oneCell']) (by unfold maxLen; omega) (by omega) (by have := hB.size; simp; omega) ?_; intro v' w1 hown' hgrow _; obtain ⟨g', cap', rfl⟩ := ownsRow_succ hown'; obtain ⟨hv1, hv2, hr2, hk2, hb2⟩ := hv.appended (by decide) hrow hB.size (Nat.le_refl _) hown' hgrow; have hc1 := hv1.cell; have hf1 := hv1.frozen)
    exact ⟨hk2.from _, hb2, ⟨_, hv2, by simpa [ptrsO, ptr] using hr2, trivial⟩, hB.trans hb2⟩
  case done =>
    rintro D ys W hD rfl ⟨⟨v, hv, hrow, -⟩, hB⟩ hK
    have hc := hv.cell
    rw [List.length_range] at hrow
    gi_wp2
    refine ⟨by simp, .inl ⟨_, _, rfl, run_takeDeferred hK, ?_⟩⟩
    exact ⟨_, results_tmp rfl _ _ _, v, rfl, ownsRow_putObj hrow _ hK rfl, hB.trans (belowK_b (w := w) (Nat.le_refl _) W D _ _ (by simp at hD; omega) hK rfl rfl)⟩
  case stop =>
    rintro D c pre W _ _ h _
    exact h.elim
end Go.Proofs.Ytkgomgfhhhdnjab
namespace Go.Proofs.Ytkgomgfhhhdnjab
open Go.ChangeShapes Go.WideShapes Go.ChangeAt Go.RowKit
set_option linter.unusedVariables false
set_option maxRecDepth 4000

set_option maxHeartbeats 800000 in
theorem stable_any (P : Nat → Nat) (RV : Nat → Value) (B n cap g : Nat) (t : List (Int × Int)) (w wr : World) (ht : Ahead t) (hnt : n ≤ t.length) (hn1 : 1 ≤ n) (hn7 : n ≤ 7) (hcap : n ≤ cap) (hlk : LkN w B n P RV t) (hs : SRow w wr P g n cap (List.range n)) :
    Calls Try.prog 128 #[.slice (some ⟨g, 0, none⟩) n cap, .int .i64 n, .func (.func 111) #[] #[]] wr fun e w' => e = .returned (.tuple #[]) ∧
      ∃ ord, SortO t n n ord ∧ SRow w w' P g n cap ord := by
  have HI := Lib.hid (insort_any P RV B n cap g t w wr ht hnt hn1 hn7 hcap hlk hs)
  have h20 : (n : Int) < 20 := by omega
  have h20' : ¬ (20 : Int) ≤ (n : Int) := by omega
  have h20'' : ¬ (20 : Int) < (n : Int) := by omega
  clear hlk hs
  go_enter Try.func128, Try.ntmps128
  go_wp2
  go_loopw [7, 8] (fun a b wq => a = .int .i64 0 ∧ b = .int .i64 20 ∧ wq = wr) (fun _ _ _ => 0)
  case atStart => exact ⟨rfl, rfl, rfl⟩
  case round =>
    obtain ⟨rfl, rfl, rfl⟩ := hrel
    go_wp2_with fail
    refine HI.out.mono ?_
    rintro e w' ⟨rfl, ord, hO, hS⟩
    have HO := Lib.hid hO
    have HS := Lib.hid hS
    clear hO hS
    go_wp2
    go_loopw [6] (fun b wq => b = .int .i64 20 ∧ wq = w') (fun _ _ => 0)
    case atStart => exact ⟨rfl, rfl⟩
    case round =>
      obtain ⟨rfl, rfl⟩ := hrel
      go_wp2
      go_end0
      exact ⟨rfl, ord, HO.out, HS.out⟩

set_option maxHeartbeats 800000 in
theorem sortStable_any (P : Nat → Nat) (RV : Nat → Value) (B n cap g : Nat) (t : List (Int × Int)) (w wr : World) (ht : Ahead t) (hnt : n ≤ t.length) (hn1 : 1 ≤ n) (hn7 : n ≤ 7) (hcap : n ≤ cap) (hlk : LkN w B n P RV t) (hs : SRow w wr P g n cap (List.range n)) :
    Calls Try.prog 120 #[.slice (some ⟨g, 0, none⟩) n cap, .func (.func 111) #[] #[]] wr fun e w' => e = .returned (.tuple #[]) ∧
      ∃ ord, SortO t n n ord ∧ SRow w w' P g n cap ord := by
  have HI := Lib.hid (stable_any P RV B n cap g t w wr ht hnt hn1 hn7 hcap hlk hs)
  clear hlk hs
  go_enter Try.func120, Try.ntmps120
  go_wp2_with fail
  refine HI.out.mono ?_
  rintro e w' ⟨rfl, ord, hO, hS⟩
  have HO := Lib.hid hO
  have HS := Lib.hid hS
  clear hO hS
  go_wp2
  go_end0
  exact ⟨rfl, ord, HO.out, HS.out⟩

set_option maxHeartbeats 800000 in
theorem collect_any (Bs b len cap : Nat) (P : Nat → Nat) (hl7 : len ≤ 7) (w : World) (hBs : Bs < w.heap.size) (hb : b < w.heap.size)
    (hc : w.cell? ⟨Bs, 0, none⟩ = some (.slice (some ⟨b, 0, none⟩) len cap)) (hI : ∀ j, j < len → w.cell? ⟨b, j, none⟩ = some (.pointer (some ⟨P j, 0, none⟩))) :
    Calls Try.prog 119 #[.func (.func 121) #[] #[.pointer (some ⟨Bs, 0, none⟩)]] w fun e W' => ∃ v, e = .returned v ∧
      W'.ownsRow w.heap.size 65 1 v len (ptrsO P (List.range len)) ∧ Below w.heap.size w W' := by
  have HA := Lib.hid (callsIn_wide.1 (appendSeq_in Fence.wide 3 trivial trivial rfl (by decide) Bs b len cap P hl7 w hBs hb hc hI))
  clear hc hI
  go_enter Try.func119, Try.ntmps119
  go_wp2_with fail
  refine HA.out.mono ?_
  rintro e w' ⟨v, rfl, hO, hB⟩
  have HO := Lib.hid hO
  have HB := Lib.hid hB
  clear hO hB
  go_wp2
  go_ret
  exact ⟨v, rfl, HO.out, HB.out⟩

set_option maxHeartbeats 800000 in
/-- slices.SortedStableFunc over the iterator. -/
theorem sortedStable_any (P : Nat → Nat) (RV : Nat → Value) (B n cap Bs b : Nat) (t : List (Int × Int)) (w w1 : World) (ht : Ahead t) (hnt : n ≤ t.length) (hn1 : 1 ≤ n) (hn7 : n ≤ 7) (hlk : LkN w B n P RV t) (hbel : Below w.heap.size w w1)
    (hBs : Bs < w1.heap.size) (hb : b < w1.heap.size)
    (hc : w1.cell? ⟨Bs, 0, none⟩ = some (.slice (some ⟨b, 0, none⟩) n cap)) (hI : ∀ j, j < n → w1.cell? ⟨b, j, none⟩ = some (.pointer (some ⟨P j, 0, none⟩))) :
    Calls Try.prog 109 #[.func (.func 121) #[] #[.pointer (some ⟨Bs, 0, none⟩)], .func (.func 111) #[] #[]] w1 fun e w' =>
      ∃ g cap ord, e = .returned (.slice (some ⟨g, 0, none⟩) n cap) ∧ n ≤ cap ∧ SortO t n n ord ∧ SRow w w' P g n cap ord := by
  have HA := Lib.hid (collect_any Bs b n cap P hn7 w1 hBs hb hc hI)
  have Hlk := Lib.hid hlk
  have Hbel := Lib.hid hbel
  clear hc hI hlk hbel
  go_enter Try.func109, Try.ntmps109
  go_wp2_with fail
  refine HA.out.mono ?_
  rintro e w2 ⟨v, rfl, hO, hB⟩
  obtain ⟨A, cA, rfl, hcA, -, hg⟩ := own_sliceN hO
  obtain ⟨g, rfl, hg1, hg2⟩ := hg (by omega)
  have hO' := hO.mono Hbel.out.size
  have hS : SRow w w2 P g n cA (List.range n) := ⟨hO', Hbel.out.trans (hB.mono Hbel.out.size), Nat.le_trans Hbel.out.size hg1⟩
  have HI := Lib.hid (sortStable_any P RV B n cA g t w w2 ht hnt hn1 hn7 hcA Hlk.out hS)
  clear hO hB hO' hS
  go_wp2_with fail
  refine HI.out.mono ?_
  rintro e w' ⟨rfl, ord, hO, hS⟩
  have HO := Lib.hid hO
  have HS := Lib.hid hS
  clear hO hS
  go_wp2
  go_ret
  exact ⟨g, cA, ord, rfl, hcA, HO.out, HS.out⟩

set_option maxHeartbeats 800000 in
theorem deepest_any (P : Nat → Nat) (RV : Nat → Value) (B n cap b : Nat) (t : List (Int × Int)) (w : World) (ht : Ahead t) (hnt : n ≤ t.length) (hn1 : 1 ≤ n) (hn7 : n ≤ 7) (hlk : LkN w B n P RV t) (hb : b < w.heap.size)
    (hI : ∀ j, j < n → w.cell? ⟨b, j, none⟩ = some (.pointer (some ⟨P j, 0, none⟩))) :
    Calls Try.prog 74 #[.slice (some ⟨b, 0, none⟩) n cap] w fun e w' =>
      ∃ g cap ord, e = .returned (.slice (some ⟨g, 0, none⟩) n cap) ∧ n ≤ cap ∧ SortO t n n ord ∧ SRow w w' P g n cap ord := by
  have HV := Lib.hid (values_any (some ⟨b, 0, none⟩) n cap w)
  have Hbel := Lib.hid ((Below.refl w.heap.size w).alloc (Nat.le_refl _) (.cells #[.slice (some ⟨b, 0, none⟩) n cap] 63))
  have HS := Lib.hid (sortedStable_any P RV B n cap w.heap.size b t w (w.alloc (.cells #[.slice (some ⟨b, 0, none⟩) n cap] 63)) ht hnt hn1 hn7 hlk Hbel.out (by rw [size_alloc1]; omega) (by rw [size_alloc1]; omega)
    (by rw [cell_of_row _ _ _ _ _ _ (heap_alloc_new w _)]; rfl) (fun j hj => (Hbel.out.cell (p := ⟨b, j, none⟩) hb).trans (hI j hj)))
  clear hlk hI
  go_enter Try.func74, Try.ntmps74
  go_wp2_with fail
  refine HV.out.mono ?_
  rintro e w1 ⟨rfl, rfl⟩
  go_wp2_with fail
  refine HS.out.mono ?_
  rintro e w2 ⟨g, cA, ord, rfl, hcA, hO, hS⟩
  have HO := Lib.hid hO
  have HS2 := Lib.hid hS
  clear hO hS
  go_wp2
  go_ret
  exact ⟨g, cA, ord, rfl, hcA, HO.out, HS2.out⟩
end Go.Proofs.Ytkgomgfhhhdnjab
