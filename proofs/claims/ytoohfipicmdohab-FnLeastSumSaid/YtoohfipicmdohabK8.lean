/-
  LeastSum: the program's sums by groups.
  Conditions: as each theorem states.
-/
import Derived.Test.YtoohfipicmdohabK7
import Derived.Test.YtoohfipicmdohabL5
namespace Go.Proofs.Ytoohfipicmdohab
open Go.ChangeShapes Go.WideShapes Go.ChangeAt Go.RowKit Go.Maps
set_option linter.unusedVariables false

def dp (zs : List Int) (n : Nat) : Nat → List Int
  | 0 => (List.replicate (n + 1) 501).set 0 0
  | t + 1 => vrow zs (dp zs n t) (fun _ _ => true) n
def lsum (zs : List Int) (k : Int) : Int := if vh zs = true ∧ vk k = true then (dp zs zs.length k.toNat).getD zs.length 0 else -1
theorem lsum_no {zs : List Int} {k : Int} (h : ¬ (vh zs = true ∧ vk k = true)) : lsum zs k = -1 := by simp [lsum, h]
theorem lsum_yes {zs : List Int} {k : Int} (h : vh zs = true) (h' : vk k = true) : lsum zs k = (dp zs zs.length k.toNat).getD zs.length 0 := by simp [lsum, h, h']
theorem dp_length (zs : List Int) (n t : Nat) : (dp zs n t).length = n + 1 := by
  cases t with
  | zero => simp [dp]
  | succ t => simp [dp, vrow_length]
theorem dp_bd {zs : List Int} {n : Nat} (hz : InBd zs) (hn : zs.length = n) (h10 : n ≤ 1000) : ∀ t i, i ≤ n → 0 ≤ (dp zs n t).getD i 0 ∧ (dp zs n t).getD i 0 ≤ 3000000
  | 0, i, hi => by
    cases i with
    | zero => simp [dp]
    | succ i => simp [dp, List.getD, show i < n by omega]
  | t + 1, i, hi => by
    show 0 ≤ (vrow zs (dp zs n t) (fun _ _ => true) n).getD i 0 ∧ (vrow zs (dp zs n t) (fun _ _ => true) n).getD i 0 ≤ 3000000
    rw [vrow_get _ _ _ hi]
    exact vm_bd hz hn h10 (dp_bd hz hn h10 t) hi (Nat.le_refl _)
theorem vh_inbd {zs : List Int} (h : vh zs = true) : InBd zs := fun x hx => by have := okFrom_mem (vh_ok h) x hx; omega
theorem own_base {w : World} {B B' n : Nat} {v : Value} {xs : List Value} (h : w.ownsRow B 3 1 v n xs) (hB : B' ≤ B) : w.ownsRow B' 3 1 v n xs := by
  obtain ⟨h1, h2⟩ := h
  refine ⟨h1, ?_⟩
  rcases h2 with h2 | ⟨g, cap, cur, hv, hg, r⟩
  · exact .inl h2
  · exact .inr ⟨g, cap, cur, hv, Nat.le_trans hB hg, r⟩
theorem own_get {w : World} {B g n cap : Nat} {zs : List Int} (h : w.ownsRow B 3 1 (.slice (some ⟨g, 0, none⟩) n cap) n (zs.map (Value.int .i64))) (hn : zs.length = n) : ∀ i, i < n → w.cell? ⟨g, i, none⟩ = some (.int .i64 (zs.getD i 0)) := by
  intro i hi
  rw [h.cellAt i (by omega), List.getElem?_map, List.getElem?_eq_getElem (by omega)]
  simp [List.getD, List.getElem?_eq_getElem (show i < zs.length by omega)]

theorem repeat_succ (g n : Nat) (x : Int) (w : World) (hL2 : n ≤ 10) (hg : g < w.heap.size) (hc : w.cell? ⟨g, 0, none⟩ = some (.int .i64 x)) :
    Calls Try.prog 40 #[.slice (some ⟨g, 0, none⟩) 1 1, .int .i64 ((n : Int) + 1)] w (OwnedList w (List.replicate (n + 1) x)) := by
  have h := repeat_any g (n + 1) x w (by omega) (by omega) hg hc
  rw [show (((n + 1 : Nat)) : Int) = (n : Int) + 1 by omega] at h
  exact h
theorem map_below {w w' : World} {mb cnt : Nat} {D : MapD} (h : w.ownsMap Try.prog 52 (plainElem Try.prog 3) mb cnt D) (hb : Below w.heap.size w w') :
    w'.ownsMap Try.prog 52 (plainElem Try.prog 3) mb cnt D := by
  have hlt := h.lt
  obtain ⟨es, clock, h1, h2⟩ := h
  exact ⟨es, clock, (hb.block mb hlt).trans h1, h2⟩

set_option maxHeartbeats 1000000 in
theorem iLeastSum_any (A : Option Addr) (c n : Nat) (zs : List Int) (k : Int) (w : World) (B : Nat) (hr : RdI w B A zs) (hB : B ≤ w.heap.size) (hn : zs.length = n) (hcap : n ≤ c) (hc63 : c ≤ 9223372036854775807) (hb : n ≤ 1048576) :
    Calls Try.prog 16 #[.slice A n c, .int .i64 k] w fun e w' => e = .returned (.int .i64 (lsum zs k)) ∧ Below w.heap.size w w' := by
  have Hn := Lib.hid hn
  clear hn
  by_cases hv : vh zs = true
  · by_cases hf : k < 1 ∨ 4 < k
    · have Hs := Lib.hid (lsum_no (zs := zs) (k := k) (fun h => by have := vk_no hf; rw [h.2] at this; cases this))
      go_enter Try.func16, Try.ntmps16
      go_wp2_with fail
      refine (iValid_any A c n zs w B hr Hn.out (by omega)).mono ?_
      rintro e w' ⟨rfl, rfl⟩
      go_wp2_with (go_at_call 38; refine (validHelpers_no _ _ hf).mono ?_; rintro e w' ⟨rfl, rfl⟩)
      go_ret
      exact ⟨ret_int Hs.out.symm, Below.refl _ _⟩
    · have h1 : 1 ≤ k := by omega
      have h2 : k ≤ 4 := by omega
      clear hf
      have Hs := Lib.hid (lsum_yes hv (vk_yes h1 h2))
      have Hl := vh_len hv
      rw [Hn.out] at Hl
      have Hbd := Lib.hid (vh_inbd hv)
      go_enter Try.func16, Try.ntmps16
      go_wp2_with fail
      refine (iValid_any A c n zs w B hr Hn.out (by omega)).mono ?_
      rintro e w' ⟨rfl, rfl⟩
      have Hv := Lib.hid hv
      go_wp2_with (go_at_call 38; refine (validHelpers_yes _ _ h1 h2).mono ?_; rintro e w' ⟨rfl, rfl⟩)
      clear hv
      refine (groupCosts_any A c n zs w B hr hB Hn.out Hl hcap hc63 Hbd.out).mono ?_
      rintro e w1 ⟨mb, cnt, D, rfl, hmb, hmap, hcnt, HF, hnx1⟩
      have HF' := Lib.hid HF
      have Hmap := Lib.hid hmap
      have hmlt := hmap.lt
      clear HF hmap
      go_wp2_with fail
      refine (repeat_succ w1.heap.size n 501 (w1.alloc (.cells #[.int .i64 501] 3)) Hl (by simp) (cell_of_row _ _ 0 _ _ (0, 0) (heap_alloc_new w1 _))).mono ?_
      rintro e w2 ⟨v, rfl, hown2, hnx2'⟩
      rw [List.length_replicate] at hown2
      have hnx2 : Below w.heap.size w w2 := (hnx1.alloc hnx1.size _).trans (hnx2'.mono (by have := hnx1.size; simp; omega))
      have hmap2 : w2.ownsMap Try.prog 52 (plainElem Try.prog 3) mb cnt D := map_below (Hmap.out.alloc _) hnx2'
      have hown2' := own_base hown2 (B' := w.heap.size) (by have := hnx1.size; simp; omega)
      obtain ⟨g, cap, rfl, hg1, hg2⟩ := hown2'.form (by omega)
      have hst := (hown2'.stored 0 (.int .i64 0)).1
      have hgs := (hown2'.stored 0 (.int .i64 0)).2
      have hc0 : w2.cell? ⟨g, 0, none⟩ = some (.int .i64 501) := by
        rw [hown2'.cellAt 0 (by omega)]; simp
      have hf0 := hown2'.frozenAt 0
      have hnx3 : Below w.heap.size w (w2.setCell ⟨g, 0, none⟩ (.int .i64 0)) := hnx2.setCell hg1 _
      have hgm : g ≠ mb := by
        intro e
        subst e
        obtain ⟨es, clock, h1, _⟩ := hmap2
        rw [World.cell?, h1] at hc0
        cases hc0
      have hmap3 := hmap2.kept hgs (by intro h; injection h with h; exact hgm h.symm)
      have hdp0 : (dp zs n 0).map (Value.int .i64) = ((List.replicate (n + 1) 501).map (Value.int .i64)).set 0 (.int .i64 0) := by
        show ((List.replicate (n + 1) (501 : Int)).set 0 0).map (Value.int .i64) = _
        rw [List.map_set]
      rw [← hdp0] at hst
      have Hst := Lib.hid hst
      have Hmap3 := Lib.hid hmap3
      have Hown2 := Lib.hid hown2'
      clear hst hmap3 hmap2 hown2' hown2 hdp0 hnx2' hgs Hmap hgm
      go_wp2
      obtain ⟨K, rfl⟩ := Int.eq_ofNat_of_zero_le (show 0 ≤ k by omega)
      go_loopw [6, 25] (fun v i wr => ∃ t : Nat, t ≤ K ∧ i = .int .i64 t ∧ wr.ownsRow w.heap.size 3 1 v (n + 1) ((dp zs n t).map (Value.int .i64)) ∧ wr.ownsMap Try.prog 52 (plainElem Try.prog 3) mb cnt D ∧ Below w.heap.size w wr)
        (fun _ i _ => K - (intOf i).toNat)
      case atStart => exact ⟨0, Nat.zero_le _, rfl, Hst.out, Hmap3.out, hnx3⟩
      case round =>
        clear Hst Hmap3 hnx3 Hown2
        obtain ⟨t, ht, rfl, hown, hmap, hnx⟩ := hrel
        obtain ⟨g', cap', rfl, hg3, hg4⟩ := hown.form (by omega)
        have Hget := Lib.hid (own_get hown (dp_length zs n t))
        by_cases hlt : t < K
        · have Hcall := Lib.hid (withOne_any g' 0 cap' n mb cnt zs (dp zs n t) D wr hg4 (dp_length zs n t) Hn.out Hl Hbd.out (dp_bd Hbd.out Hn.out (by omega) t) (fun i hi => by rw [Nat.zero_add]; exact Hget.out i hi) hmap HF'.out)
          have Hmap := Lib.hid hmap
          clear hown hmap
          go_wp2_with fail
          refine Hcall.out.mono ?_
          rintro e w4 ⟨v4, rfl, hown4, hnx4⟩
          rw [vrow_length] at hown4
          have hown5 := own_base hown4 hnx.size
          have hmap5 := map_below Hmap.out hnx4
          have hnx5 := hnx.trans (hnx4.mono hnx.size)
          clear hown4
          go_wp2
          go_roundw
          case rel => exact ⟨t + 1, by omega, by go_num, hown5, hmap5, hnx5⟩
          case measure => simp [intOf]; omega
        · obtain rfl : t = K := by omega
          have hcn := Hget.out n (by omega)
          have Hown := Lib.hid hown
          have Hmap := Lib.hid hmap
          clear hown hmap
          go_wp2
          go_ret
          exact ⟨ret_int (by rw [Hs.out, Hn.out]; rfl), hnx⟩
  · have hv' : vh zs = false := by simpa using hv
    have Hs := Lib.hid (lsum_no (zs := zs) (k := k) (fun h => hv h.1))
    clear hv
    go_enter Try.func16, Try.ntmps16
    go_wp2_with fail
    refine (iValid_any A c n zs w B hr Hn.out (by omega)).mono ?_
    rintro e w' ⟨rfl, rfl⟩
    go_wp2
    go_ret
    exact ⟨ret_int Hs.out.symm, Below.refl _ _⟩
end Go.Proofs.Ytoohfipicmdohab
