/-
  The law on the least work.
  Conditions: none.
-/
import Derived.Test.YthgllpiclaihjaaJR
import Derived.Deep.RegionHeld3
namespace Go.Proofs.Ythgllpiclaihjaa
open Go.ChangeShapes Go.WideShapes Go.ChangeAt Go.RowKit
set_option linter.unusedVariables false
set_option maxRecDepth 4000

/-- The least so far, of the rows ahead and of the places ahead in this row; -1 for none. -/
structure BestSo (v : Int) (V : Nat → Nat → Int) (N i k : Nat) (best : Int) : Prop where
  old : ∀ i' k', k' < N → (i' < i ∨ (i' = i ∧ k' < k)) → 0 ≤ best ∧ best ≤ V i' k'
  low : 0 ≤ best → v ≤ best
  bd : -1 ≤ best ∧ best ≤ 500
theorem BestSo.start (v : Int) (V : Nat → Nat → Int) (N : Nat) : BestSo v V N 0 0 (-1) := ⟨fun i' k' _ h => by omega, fun h => by omega, by omega⟩
theorem BestSo.less {v best u : Int} {V : Nat → Nat → Int} {N i k : Nat} (h : BestSo v V N i k best) (hu : V i k = u) (hv : 0 ≤ v ∧ v ≤ u ∧ u ≤ 500) (hl : best < 0 ∨ u < best) : BestSo v V N i (k + 1) u := by
  refine ⟨fun i' k' hk ho => ?_, fun _ => hv.2.1, by omega⟩
  by_cases e : i' = i ∧ k' = k
  · rw [e.1, e.2, hu]; omega
  · have := h.old i' k' hk (by omega)
    omega
theorem BestSo.more {v best u : Int} {V : Nat → Nat → Int} {N i k : Nat} (h : BestSo v V N i k best) (hu : V i k = u) (hl : ¬ best < 0 ∧ ¬ u < best) : BestSo v V N i (k + 1) best := by
  refine ⟨fun i' k' hk ho => ?_, h.low, h.bd⟩
  by_cases e : i' = i ∧ k' = k
  · rw [e.1, e.2, hu]; omega
  · exact h.old i' k' hk (by omega)
theorem BestSo.row {v best : Int} {V : Nat → Nat → Int} {N i k : Nat} (h : BestSo v V N i k best) (hk : N ≤ k) : BestSo v V N (i + 1) 0 best :=
  ⟨fun i' k' hk' ho => h.old i' k' hk' (by omega), h.low, h.bd⟩
theorem BestSo.done {v best : Int} {V : Nat → Nat → Int} {N i : Nat} (h : BestSo v V N i 0 best) (hi : N ≤ i) (hx : ∃ i' k', i' < N ∧ k' < N ∧ V i' k' ≤ v) : best = v := by
  obtain ⟨i', k', h1, h2, h3⟩ := hx
  have h4 := h.old i' k' h2 (by omega)
  have h5 := h.low h4.1
  omega
/-- Where the loops are. -/
def RowsJ (v : Int) (V : Nat → Nat → Int) (N n : Nat) (w6 : World) (t i : Value) (wr : World) : Prop :=
  ∃ k : Nat, ∃ best : Int, k ≤ n + 2 ∧ i = .int .i64 k ∧ t = .int .i64 best ∧ Hid (BestSo v V N k 0 best) ∧ Hid (Below w6.heap.size w6 wr)
def RowJ (v : Int) (V : Nat → Nat → Int) (N n i : Nat) (w6 : World) (t j : Value) (wr : World) : Prop :=
  ∃ k : Nat, ∃ best : Int, k ≤ n + 2 ∧ j = .int .i64 k ∧ t = .int .i64 best ∧ Hid (BestSo v V N i k best) ∧ Hid (Below w6.heap.size w6 wr)
/-- The places where calls were, and where both stood. -/
def spotsJ (zs : List Int) (a b : Int) : List Int := zs ++ [a, b]
def vJ (a b : Int) (zs : List Int) (i k : Nat) : Int := wkv a b zs (min ((spotsJ zs a b).getD i 0) ((spotsJ zs a b).getD k 0)) (max ((spotsJ zs a b).getD i 0) ((spotsJ zs a b).getD k 0))
theorem cell_two_new (w : World) (x y : Value) (t : TypeId) : ∀ j u, [x, y][j]? = some u → (w.alloc (.cells #[x, y] t)).cell? ((⟨w.heap.size, 0, none⟩ : Addr).add j) = some u := by
  intro j u hu
  have hj : j < 2 := by
    rcases Nat.lt_or_ge j 2 with h1 | h1
    · exact h1
    · rw [List.getElem?_eq_none (by simpa using h1)] at hu; cases hu
  rw [addr_add0, cell_of_row _ _ _ _ _ _ (heap_alloc_new w _), ← hu]
  simp
theorem spots_on {a b : Int} {zs : List Int} (h : vcl a b zs = true) {i : Nat} (hi : i < (spotsJ zs a b).length) : 0 ≤ (spotsJ zs a b).getD i 0 ∧ (spotsJ zs a b).getD i 0 ≤ 50 := by
  obtain ⟨h1, h2, h3⟩ := vcl_iff.1 h
  have hm : (spotsJ zs a b).getD i 0 ∈ spotsJ zs a b := by simp [List.getD, List.getElem?_eq_getElem hi]
  unfold spotsJ at hm
  rcases List.mem_append.1 hm with h4 | h4
  · exact h3 _ h4
  · simp only [List.mem_cons, List.not_mem_nil, or_false] at h4
    unfold spotsJ
    rcases h4 with h4 | h4 <;> rw [h4] <;> omega
theorem vJ_bd {a b : Int} {zs : List Int} (h : vcl a b zs = true) {i k : Nat} (hi : i < (spotsJ zs a b).length) (hk : k < (spotsJ zs a b).length) : 0 ≤ wav a b zs ∧ wav a b zs ≤ vJ a b zs i k ∧ vJ a b zs i k ≤ 500 := by
  have p1 := spots_on h hi
  have p2 := spots_on h hk
  have hx : vst (min ((spotsJ zs a b).getD i 0) ((spotsJ zs a b).getD k 0)) (max ((spotsJ zs a b).getD i 0) ((spotsJ zs a b).getD k 0)) = true := vst_iff.2 (by omega)
  refine ⟨?_, ?_, wkv_bd.2⟩
  · rw [wav_is h]; exact lw_nonneg (fun _ _ => Int.le_refl _) zs a b
  · unfold vJ
    rw [wav_is h, wkv_is h hx]
    exact lw_mono (toB_nonneg _ _) zs a b
theorem mem_spot {zs : List Int} {a b x : Int} (h : x ∈ zs ∨ x = a ∨ x = b) : ∃ i, i < (spotsJ zs a b).length ∧ (spotsJ zs a b).getD i 0 = x := by
  have hm : x ∈ spotsJ zs a b := by
    unfold spotsJ
    rcases h with h | h | h
    · exact List.mem_append.2 (.inl h)
    · exact List.mem_append.2 (.inr (by simp [h]))
    · exact List.mem_append.2 (.inr (by simp [h]))
  obtain ⟨i, hi, e⟩ := List.getElem_of_mem hm
  exact ⟨i, hi, by simp [List.getD, List.getElem?_eq_getElem hi, e]⟩
theorem vJ_ends {a b : Int} {zs : List Int} (h : vcl a b zs = true) : ∃ i k, i < (spotsJ zs a b).length ∧ k < (spotsJ zs a b).length ∧ vJ a b zs i k ≤ wav a b zs := by
  obtain ⟨x, y, hx, hy, hl⟩ := lw_ends zs a b
  obtain ⟨i, hi, ei⟩ := mem_spot hx
  obtain ⟨k, hk, ek⟩ := mem_spot hy
  have p1 := spots_on h hi
  have p2 := spots_on h hk
  refine ⟨i, k, hi, hk, ?_⟩
  unfold vJ
  rw [ei, ek] at *
  rw [wav_is h, wkv_is h (vst_iff.2 (by omega))]
  by_cases e : x ≤ y
  · rw [Int.min_eq_left e, Int.max_eq_right e]; exact hl
  · rw [Int.min_eq_right (by omega), Int.max_eq_left (by omega), toB_swap]; exact hl

set_option maxHeartbeats 1600000 in
theorem lawWorkIsLeast_walk (A : Option Addr) (c : Nat) (bs : List Int) (w : World) (hr : RdB w w.heap.size A bs) (hcap : bs.length ≤ c) (hm : c ≤ maxLen) :
    Calls Try.prog 10 #[.slice A bs.length c] w fun e w' => e = .returned (.bool true) ∧ Below w.heap.size w w' := by
  unfold maxLen at hm
  by_cases hb : 1048576 < bs.length
  · go_enter Try.func10, Try.ntmps10
    go_wp2
    go_ret
    exact ⟨rfl, Below.refl _ _⟩
  · have HD := Lib.hid (drawWorkOf_any A c bs.length bs w hr rfl hcap hm)
    have HWI := Lib.hid iWorkOf_ok
    have HWS := Lib.hid sWorkOf_ok
    have HAI := Lib.hid iWayAhead_ok
    go_enter Try.func10, Try.ntmps10
    go_wp2_with fail
    refine HD.out.mono ?_
    rintro e w1 ⟨a, b, A1, c1, n, x, y, zs, rfl, h9, N1, HA1, HB1⟩
    clear HD hr hb hcap hm
    have hcw := N1.out.cap
    have hbe : ∀ x : Int, (x == x) = true := fun x => by simp
    have hbn : ∀ x : Int, (x != x) = false := fun x => by simp
    obtain ⟨o, Ho⟩ : ∃ o, Hid (wkv a b zs x y = o) := ⟨_, rfl⟩
    obtain ⟨i0, hi0, hz0, hz1, hz2⟩ := info_parts intInfo
    have Hva : Hid (¬ o < 0 → vcl a b zs = true) := fun h => (wkv_valid (x := x) (y := y) (by rw [Ho.out]; exact h)).1
    go_wp2_with fail
    refine (HWI.out a b x y _ _ _ zs w1 N1.out).mono ?_
    rintro e w2 ⟨rfl, hq⟩
    rw [Ho.out]
    have N2 := Lib.hid (N1.out.later hq)
    have HB2 := Lib.hid (HB1.out.trans (hq.mono HB1.out.size))
    clear hq
    go_wp2_with fail
    refine (HWS.out a b x y _ _ _ zs w2 N2.out).mono ?_
    rintro e w3 ⟨rfl, hq⟩
    rw [Ho.out]
    have N3 := Lib.hid (N2.out.later hq)
    have HB3 := Lib.hid (HB2.out.trans (hq.mono HB2.out.size))
    clear hq
    go_wp2_with fail
    refine (HWI.out a b x y _ _ _ zs w3 N3.out).mono ?_
    rintro e w4 ⟨rfl, hq⟩
    rw [Ho.out]
    have N4 := Lib.hid (N3.out.later hq)
    have HB4 := Lib.hid (HB3.out.trans (hq.mono HB3.out.size))
    clear hq
    by_cases ha : o < 0
    · clear Hva
      go_wp2
      go_ret
      exact ⟨rfl, HB4.out⟩
    · have hv := Hva.out (by omega)
      have HV := Lib.hid hv
      obtain ⟨N, HN⟩ : ∃ N, Hid ((spotsJ zs a b).length = N) := ⟨_, rfl⟩
      have hN : N = n + 2 := by rw [← HN.out, ← N1.out.len]; simp [spotsJ]
      obtain ⟨v, Hv⟩ : ∃ v, Hid (wav a b zs = v) := ⟨_, rfl⟩
      obtain ⟨V, HVd⟩ : ∃ V : Nat → Nat → Int, Hid (vJ a b zs = V) := ⟨_, rfl⟩
      have Hbd : Hid (∀ i k, i < N → k < N → 0 ≤ v ∧ v ≤ V i k ∧ V i k ≤ 500) := fun i k hi hk => by
        rw [← Hv.out, ← HVd.out]
        exact vJ_bd hv (by rw [HN.out]; exact hi) (by rw [HN.out]; exact hk)
      have Hends : Hid (∃ i k, i < N ∧ k < N ∧ V i k ≤ v) := by
        show ∃ i k, _
        rw [← Hv.out, ← HVd.out, ← HN.out]
        exact vJ_ends hv
      obtain ⟨g0, hg0⟩ := HA1.out
      subst hg0
      have Hnews : Hid (∀ j u, (zs.map (Value.int .i64))[j]? = some u → w4.cell? ((⟨g0, 0, none⟩ : Addr).add j) = some u) := fun j u hu => by
        have hj : j < zs.length := by
          rcases Nat.lt_or_ge j zs.length with h1 | h1
          · exact h1
          · rw [List.getElem?_eq_none (by simpa using h1)] at hu; cases hu
        obtain ⟨bx, ox, z, he, -, Hz, hc⟩ := N4.out.rd.x hj
        injection he with he
        injection he with he1 he2
        subst he1 he2
        have hc' : w4.cell? ⟨g0, j, none⟩ = some (.int .i64 z) := by rw [← hc, Nat.zero_add]
        rw [addr_add0, hc']
        rw [List.getElem?_map, List.getElem?_eq_getElem hj] at hu
        have e : zs.getD j 0 = zs[j] := by simp [List.getD, List.getElem?_eq_getElem hj]
        have e2 : zs[j] = z := e.symm.trans Hz.out
        rw [← hu, e2]; rfl
      have hg0 : zs.length ≠ 0 → g0 < w4.heap.size := fun h => by
        obtain ⟨bx, ox, z, he, hb, -, -⟩ := N4.out.rd.x (k := 0) (by omega)
        injection he with he
        injection he with he1 he2
        omega
      have Hnews2 : Hid (∀ j u, (zs.map (Value.int .i64))[j]? = some u → (w4.alloc (.cells #[] 3)).cell? ((⟨g0, 0, none⟩ : Addr).add j) = some u) := fun j u hu => by
        have h1 := Hnews.out j u hu
        have h2 := World.block_lt_of_cell? w4 _ h1
        exact (((Below.refl w4.heap.size w4).alloc (Nat.le_refl _) (.cells #[] 3)).cell h2).trans h1
      have Hone : Hid (∀ u ∈ zs.map (Value.int .i64), u.oneCell' = true) := fun u hu => by
        obtain ⟨z, -, rfl⟩ := List.mem_map.1 hu
        rfl
      have HO0 : Hid ((w4.alloc (.cells #[] 3)).ownsRow w4.heap.size 3 1 (.slice (some ⟨w4.heap.size, 0, none⟩) 0 0) 0 []) := World.ownsRow_lit w4 #[] 0 (Nat.le_refl _) (by decide) rfl
      have HB0 : Hid (Below w4.heap.size w4 (w4.alloc (.cells #[] 3))) := (Below.refl _ w4).alloc (Nat.le_refl _) _
      have Hlen : Hid ((zs.map (Value.int .i64)).length = n * 1) := by show _ = _; rw [List.length_map, N1.out.len]; omega
      clear Hva hv Hnews hg0 N1 N2 N3 HB1 HB2 HB3
      have hs0 : w4.heap.size ≤ (w4.alloc (.cells #[] 3)).heap.size := by rw [size_alloc1]; omega
      have hm0 : 0 + n ≤ maxLen := by unfold maxLen; omega
      have hm1 : (0 + n) * 8 ≤ 140737488355328 := by omega
      have hs1 : ∀ W : World, (w4.alloc (.cells #[] 3)).grownBy W (Value.slice (some ⟨w4.heap.size, 0, none⟩) 0 0).ownBlock → Below w4.heap.size w4 W := fun W h => HB0.out.grown h hs0 (fun g e => by simp [Value.ownBlock] at e; omega)
      have Hs1 := Lib.hid hs1
      have hm2 : 0 + n + 2 ≤ maxLen := by unfold maxLen; omega
      have hm3 : (0 + n + 2) * 8 ≤ 140737488355328 := by omega
      have Hone2 : Hid (∀ u ∈ [Value.int .i64 a, Value.int .i64 b], u.oneCell' = true) := fun u hu => by
        simp at hu
        rcases hu with rfl | rfl <;> rfl
      clear hs1
      go_wp2_with (first
        | (at_builtin; refine wpList_append_own _ rfl _ _ 23 rfl w4.heap.size 3 i0 (.int .i64 0) 1 8 Try.underlying23 hi0 hz0 hz1 hz2 rfl (by decide) _ _ _ rfl HO0.out ⟨g0, 0, none⟩ n c1 (zs.map (Value.int .i64)) rfl Hlen.out Hnews2.out Hone.out hm0 hm1 hs0 ?_; intro v5 w5 hown5 hgrow5 _; have Hown5 := Lib.hid hown5; have HB5 := Lib.hid (Hs1.out w5 hgrow5); have hs5 : w4.heap.size ≤ (w5.alloc (.cells #[.int .i64 a, .int .i64 b] 3)).heap.size := Nat.le_trans HB5.out.size (by rw [size_alloc1]; omega); clear hown5 hgrow5)
        | (at_builtin; refine wpList_append_lies _ rfl _ _ 23 rfl w4.heap.size 3 i0 (.int .i64 0) 1 8 Try.underlying23 hi0 hz0 hz1 hz2 rfl (by decide) _ _ _ rfl (Hown5.out.alloc _) ⟨w5.heap.size, 0, none⟩ 2 2 [.int .i64 a, .int .i64 b] rfl rfl (cell_two_new _ _ _ _) Hone2.out (by decide) hm2 hm3 hs5 _ rfl ?_; intro g6 c6 w6 hown6 hgrow6 hat6 hlt6; have Hown6 := Lib.hid hown6; have Hgrow6 := Lib.hid hgrow6; clear hown6 hgrow6 hat6 hlt6))
      have hsp : [] ++ zs.map (Value.int .i64) ++ [Value.int .i64 a, Value.int .i64 b] = (spotsJ zs a b).map (Value.int .i64) := by simp [spotsJ]
      have hown := Hown6.out
      rw [hsp] at hown
      have HRs := Lib.hid (rdI_of_own hown (by rw [HN.out, hN]; omega))
      have HB6 : Hid (Below w4.heap.size w4 w6) := ((HB5.out.alloc HB5.out.size _).grown Hgrow6.out hs5 (fun g e => (Hown5.out.lt g e).1))
      have N6 := Lib.hid (N4.out.later HB6.out)
      have HBw6 := Lib.hid (HB4.out.trans (HB6.out.mono HB4.out.size))
      have hcap6 : 0 + n + 2 ≤ c6 := by
        obtain ⟨A', c', he, h1, -, -⟩ := own_sliceN hown
        injection he with _ _ he3
        omega
      have HS0 : Hid (BestSo v V N 0 0 (-1)) := BestSo.start v V N
      have HBl0 : Hid (Below w6.heap.size w6 w6) := Below.refl _ _
      clear hsp hown Hown6 Hown5 Hgrow6 HB5 HB6 hs5 HO0 HB0 Hs1 Hnews2 Hone Hone2 Hlen hs0 hm0 hm1 hm2 hm3 N4 HB4
      have HN2 := Lib.hid hN
      clear hN
      go_loopw [9, 10] (fun t i wr => RowsJ v V N n w6 t i wr) (fun _ i _ => n + 2 - (intOf i).toNat)
      case atStart => exact ⟨0, -1, by omega, rfl, rfl, HS0, HBl0⟩
      case round =>
        clear HS0 HBl0
        obtain ⟨i, best, hi, rfl, rfl, HS, HBl⟩ := hrel
        by_cases hlt : i < n + 2
        · have i2 : (i : Int) < (n : Int) + 2 := by omega
          go_wp2
          go_loopw [9, 11] (fun t j wr => RowJ v V N n i w6 t j wr) (fun _ j _ => n + 2 - (intOf j).toNat)
          case atStart => exact ⟨0, best, by omega, rfl, rfl, HS, HBl⟩
          case round =>
            clear HS HBl
            obtain ⟨k, bst, hk, rfl, rfl, HS, HBl⟩ := hrel
            by_cases hlk : k < n + 2
            · obtain ⟨b1, o1, p, e1, hb1, Hp, hcp0⟩ := HRs.out.x (k := i) (by have := HN2.out; rw [HN.out]; omega)
              obtain ⟨b2, o2, q, e2, hb2, Hq, hcq0⟩ := HRs.out.x (k := k) (by have := HN2.out; rw [HN.out]; omega)
              injection e1 with e1
              injection e1 with e11 e12
              injection e2 with e2
              injection e2 with e21 e22
              subst e11 e12 e21 e22
              rw [Nat.zero_add] at hcp0 hcq0
              have hcp : wr.cell? ⟨g6, i, none⟩ = some (.int .i64 p) := (HBl.out.cell (p := ⟨g6, i, none⟩) hb1).trans hcp0
              have hcq : wr.cell? ⟨g6, k, none⟩ = some (.int .i64 q) := (HBl.out.cell (p := ⟨g6, k, none⟩) hb2).trans hcq0
              have Hu0 : ∃ u, Hid (V i k = u) := ⟨_, rfl⟩
              obtain ⟨u, Hu⟩ := Hu0
              have hvb := Hbd.out i k (by have := HN2.out; omega) (by have := HN2.out; omega)
              rw [Hu.out] at hvb
              have lp := World.block_lt_of_cell? wr _ hcp
              have K : Hid (∀ W, Below wr.heap.size wr W → W.cell? ⟨g6, i, none⟩ = some (.int .i64 p) ∧ W.cell? ⟨g6, k, none⟩ = some (.int .i64 q)) := fun W h => ⟨(h.cell (p := ⟨g6, i, none⟩) lp).trans hcp, (h.cell (p := ⟨g6, k, none⟩) lp).trans hcq⟩
              have i1 : (0 : Int) ≤ (i : Int) := by omega
              have i3 : (0 : Int) ≤ (k : Int) := by omega
              have i4 : (k : Int) < (n : Int) + 2 := by omega
              clear hcp0 hcq0
              have Hu2 : Hid (wkv a b zs (min p q) (max p q) = u) := by show _ = _; rw [← Hu.out, ← HVd.out]; unfold vJ; rw [Hp.out, Hq.out]
              have HW : Hid (∀ (W : World) (m M : Int), Below w6.heap.size w6 W → m = min p q → M = max p q → Calls Try.prog 34 #[.int .i64 a, .int .i64 b, .slice (some ⟨g0, 0, none⟩) n c1, .int .i64 m, .int .i64 M] W fun e w' => e = .returned (.int .i64 u) ∧ Below W.heap.size W w') := fun W m M h hm hM => by
                have := HWI.out a b m M _ _ _ zs W (N6.out.later h)
                rw [hm, hM, Hu2.out] at this
                rw [hm, hM]
                exact this
              clear Hu2
              go_wp2
              go_region_held3 (fun w' => w'.cell? ⟨g6, i, none⟩ = some (.int .i64 p) ∧ w'.cell? ⟨g6, k, none⟩ = some (.int .i64 q))
                (first
                  | exact K.out _ (Below.drew (Below.refl _ _))
                  | exact K.out _ hbz)
                (first
                  | (go_at_call 34
                     generalize hgm : (if q < p then q else p) = m
                     generalize hgM : (if p < q then q else p) = M
                     refine (HW.out _ m M (Below.drew HBl.out) (by rw [← hgm, Int.min_def]; (repeat' split) <;> omega) (by rw [← hgM, Int.max_def]; (repeat' split) <;> omega)).mono ?_
                     clear hgm hgM
                     rintro e wz ⟨rfl, hqz⟩
                     have hbz : Below wr.heap.size wr wz := belowJ hqz))
              all_goals
                have HBz := Lib.hid (HBl.out.trans (hbz.mono HBl.out.size))
                by_cases hl1 : bst < 0
                · have HS2 := Lib.hid (HS.out.less Hu.out hvb (.inl hl1))
                  clear HS HBl
                  go_wp2
                  go_roundw
                  case rel => exact ⟨k + 1, u, by omega, by go_num, rfl, HS2, HBz⟩
                  case measure => simp [intOf]; omega
                · by_cases hl2 : u < bst
                  · have HS2 := Lib.hid (HS.out.less Hu.out hvb (.inr hl2))
                    clear HS HBl
                    go_wp2
                    go_roundw
                    case rel => exact ⟨k + 1, u, by omega, by go_num, rfl, HS2, HBz⟩
                    case measure => simp [intOf]; omega
                  · have HS2 := Lib.hid (HS.out.more Hu.out ⟨hl1, hl2⟩)
                    clear HS HBl
                    go_wp2
                    go_roundw
                    case rel => exact ⟨k + 1, bst, by omega, by go_num, rfl, HS2, HBz⟩
                    case measure => simp [intOf]; omega
            · have HS2 := Lib.hid (HS.out.row (by have := HN2.out; omega))
              clear HS
              go_wp2
              go_roundw
              case rel => exact ⟨i + 1, bst, by omega, by go_num, rfl, HS2, HBl⟩
              case measure => simp [intOf]; omega
        · have hdone := HS.out.done (by have := HN2.out; omega) Hends.out
          have N7 := Lib.hid (N6.out.later HBl.out)
          have HB7 := Lib.hid (HBw6.out.trans (HBl.out.mono HBw6.out.size))
          have hbe2 : (v == v) = true := by simp
          subst hdone
          clear HS HBl N6 HBw6
          go_wp2_with fail
          refine (HAI.out a b _ _ _ zs wr N7.out).mono ?_
          rintro e w8 ⟨rfl, hq⟩
          rw [Hv.out]
          have HB8 := Lib.hid (HB7.out.trans (hq.mono HB7.out.size))
          clear hq
          go_wp2
          go_ret
          exact ⟨rfl, HB8.out⟩
end Go.Proofs.Ythgllpiclaihjaa
