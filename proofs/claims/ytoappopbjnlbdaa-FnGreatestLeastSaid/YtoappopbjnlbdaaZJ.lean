/-
  slices.Backward and lastDistricts as iterators.
  Conditions: at most ten streets.
-/
import Derived.Test.YtoappopbjnlbdaaZI
namespace Go.Proofs.Ytoappopbjnlbdaa
open Go.ChangeShapes Go.WideShapes Go.ChangeAt Go.RowKit Go.Shelf
set_option linter.unusedVariables false
set_option maxRecDepth 100000
attribute [local go_sem] Oper.semAt_some

/-- The street looked at in round j, from the last one on. -/
def lastEnc (ys : List Int) (n j : Nat) : Array Value := #[.int .i64 ((n : Int) - 1 - j), .int .i64 (ys.getD (n - 1 - j) 0)]

set_option maxHeartbeats 4000000 in
theorem backward1_iter (Bs n₀ B₀ n c : Nat) (A : Option Addr) (ys : List Int) (w : World) (hlen : ys.length = n) (hn : n ≤ 10) (hB : B₀ ≤ Bs) (hBs : Bs < w.heap.size) (hn₀ : n₀ ≤ w.heap.size)
    (hc : w.cell? ⟨Bs, 0, none⟩ = some (.slice A n c)) (hr : RdI w n₀ A ys) :
    IterZ 73 #[.pointer (some ⟨Bs, 0, none⟩)] (lastEnc ys n) n n₀ B₀ 0 w := by
  intro l J W hW hJ hY h0
  refine (callsIn_wide (n := 5)).1 ?_
  refine callsIn_of_wp Try.func73 rfl trivial ?_ rfl
  simp only [Try.ntmps73, List.size_toArray, List.length_cons, List.length_nil, Nat.reduceAdd, Nat.reduceSub, Array.replicate_succ, Array.replicate_zero, List.push_toArray, List.append_toArray, List.nil_append, List.cons_append]
  have hcW := (hW.cell (p := ⟨Bs, 0, none⟩) hBs).trans hc
  have hrW := hr.below (hW.mono hn₀)
  have hBW : Bs < W.heap.size := Nat.lt_of_lt_of_le hBs hW.size
  have hw : IntKind.i64.wrap ((n : Int) - 1) = (n : Int) - 1 := IntWalk.i64_in _ (by omega)
  have Hlen := Lib.hid hlen
  clear hlen
  gi_wp2
  gi_loopw [3] (fun i wr => ∃ j : Nat, ∃ q : Int, j ≤ n ∧ i = .int .i64 q ∧ Hid (q = (n : Int) - 1 - j) ∧ J j wr ∧ W.heap.size ≤ wr.heap.size ∧ Hid (Kz n₀ B₀ W wr)) (fun i _ => (intOf i + 1).toNat)
  case atStart => exact ⟨0, _, Nat.zero_le _, rfl, by show _ = _; simp, h0, Nat.le_refl _, Kz.refl _ _ _⟩
  case round =>
    obtain ⟨j, q, hj, rfl, Hq, hJj, hsz, HK⟩ := hrel
    have hcr : wr.cell? ⟨Bs, 0, none⟩ = some (.slice A n c) := (HK.out.cell (p := ⟨Bs, 0, none⟩) hB hBW).trans hcW
    by_cases hlt : j < n
    · obtain ⟨s, Hs⟩ : ∃ s : Nat, Hid (n - 1 - j = s) := ⟨_, rfl⟩
      have hqs : q = (s : Int) := by have := Hq.out; have := Hs.out; omega
      subst hqs
      have hsn : s < n := by have := Hs.out; omega
      have hsj : (n : Int) - 1 - (j : Int) = (s : Int) := by have := Hs.out; omega
      obtain ⟨b, off, x, rfl, -, Hx, hcx⟩ := (hrW.below HK.out.bel).x (k := s) (by rw [Hlen.out]; exact hsn)
      obtain ⟨fn, tmps, assign, body, hy, hR⟩ := hY j wr hlt hJj (by omega) 4
      unfold lastEnc at hy
      rw [Hs.out, Hx.out, hsj] at hy
      have Hsj := Lib.hid hsj
      clear hsj
      have hw2 : IntKind.i64.wrap ((s : Int) - 1) = (s : Int) - 1 := IntWalk.i64_in _ (by omega)
      clear Hq
      gi_wp2
      refine hR.mono ?_
      rintro e W3 ⟨rfl, hJ3, hk3⟩
      have HK3 := Lib.hid (HK.out.trans hk3)
      have hsz3 : W.heap.size ≤ W3.heap.size := Nat.le_trans hsz hk3.bel.size
      clear hk3
      gi_wp2
      go_roundw
      case rel => exact ⟨j + 1, _, by omega, rfl, by show _ = _; have := Hsj.out; omega, hJ3, hsz3, HK3⟩
      case measure => simp [intOf]; try omega
    · obtain rfl : j = n := by omega
      have hq1 : q = -1 := by have := Hq.out; omega
      subst hq1
      gi_wp2
      go_end0
      exact ⟨⟨_, rfl⟩, hJj⟩

set_option maxHeartbeats 1000000 in
theorem backward_any (A : Option Addr) (n c : Nat) (w : World) :
    Calls Try.prog 72 #[.slice A n c] w fun e w' => e = .returned (.func (.func 73) #[] #[.pointer (some ⟨w.heap.size, 0, none⟩)]) ∧ w' = w.alloc (.cells #[.slice A n c] 23) := by
  go_enter Try.func72, Try.ntmps72
  go_wp2
  go_ret
  exact ⟨rfl, rfl⟩
set_option maxHeartbeats 1000000 in
theorem lastDistricts_any (A : Option Addr) (n c : Nat) (w : World) :
    Calls Try.prog 69 #[.slice A n c] w fun e w' => e = .returned (.func (.func 71) #[] #[.pointer (some ⟨w.heap.size, 0, none⟩)]) ∧ w' = w.alloc (.cells #[.slice A n c] 23) := by
  go_enter Try.func69, Try.ntmps69
  go_wp2
  go_ret
  exact ⟨rfl, rfl⟩

/-- The last district found in round j: where it begins, and how many people it has. -/
def distEnc (ys : List Int) (n j : Nat) : Array Value := #[.int .i64 ((n : Int) - 1 - j), .int .i64 (sm (ys.drop (n - 1 - j)))]

theorem sm_bdZ {ys : List Int} (hz : ∀ x, x ∈ ys → 0 ≤ x ∧ x ≤ 20) {n : Nat} (hlen : ys.length = n) (hn : n ≤ 10) {i : Nat} : 0 ≤ sm (ys.drop i) ∧ sm (ys.drop i) ≤ 200 := by
  have h0 : Ge0 (ys.drop i) := fun x hx => (hz x (List.mem_of_mem_drop hx)).1
  refine ⟨sm_ge0 h0, ?_⟩
  have h1 := sm_le_mul (ds := ys.drop i) (u := 20) fun x hx => (hz x (List.mem_of_mem_drop hx)).2
  have h2 : (ys.drop i).length ≤ 10 := by rw [List.length_drop]; omega
  omega
set_option maxHeartbeats 4000000 in
theorem lastD1_iter (Bs n₀ B₀ n c : Nat) (A : Option Addr) (ys : List Int) (w : World) (hlen : ys.length = n) (hn : n ≤ 10) (hz : ∀ x, x ∈ ys → 0 ≤ x ∧ x ≤ 20) (hB : B₀ ≤ Bs) (hBs : Bs < w.heap.size) (hn₀ : n₀ ≤ w.heap.size)
    (hc : w.cell? ⟨Bs, 0, none⟩ = some (.slice A n c)) (hr : RdI w n₀ A ys) :
    IterZ 71 #[.pointer (some ⟨Bs, 0, none⟩)] (distEnc ys n) n n₀ B₀ 5 w := by
  intro l J W hW hJ hY h0
  refine (callsIn_wide (n := 9)).1 ?_
  refine callsIn_of_wp_marks Try.func71 rfl trivial ?_ rfl
  simp only [Try.ntmps71, List.size_toArray, List.length_cons, List.length_nil, Nat.reduceAdd, Nat.reduceSub, Array.replicate_succ, Array.replicate_zero, List.push_toArray, List.append_toArray, List.nil_append, List.cons_append]
  have hcW := (hW.cell (p := ⟨Bs, 0, none⟩) hBs).trans hc
  have hrW := hr.below (hW.mono hn₀)
  have hBW : Bs < W.heap.size := Nat.lt_of_lt_of_le hBs hW.size
  gi_wp2_with fail
  refine ⟨trivial, (callsIn_wide.2 (backward_any A n c _)).mono ?_⟩
  rintro e w' ⟨rfl, rfl⟩
  gi_wp2
  have bY := ((Boxed.new W 59 (.func (.yield l) #[] #[])).alloc (.cells #[.int .i64 0] 3)).alloc (.cells #[.slice A n c] 23)
  have bP := (Boxed.new (W.alloc (.cells #[.func (.yield l) #[] #[]] 59)) 3 (.int .i64 0)).alloc (.cells #[.slice A n c] 23)
  have bK := Boxed.new ((W.alloc (.cells #[.func (.yield l) #[] #[]] 59)).alloc (.cells #[.int .i64 0] 3)) 23 (.slice A n c)
  have hbut : But W.heap.size (W.heap.size + 5) W (((W.alloc (.cells #[.func (.yield l) #[] #[]] 59)).alloc (.cells #[.int .i64 0] 3)).alloc (.cells #[.slice A n c] 23)) := ((But.alloc _ _ _ _).trans (But.alloc _ _ _ _)).trans (But.alloc _ _ _ _)
  have hsz : (((W.alloc (.cells #[.func (.yield l) #[] #[]] 59)).alloc (.cells #[.int .i64 0] 3)).alloc (.cells #[.slice A n c] 23)).heap.size = W.heap.size + 3 := by simp
  simp only [World.size_alloc] at bP bK
  generalize ((W.alloc (.cells #[.func (.yield l) #[] #[]] 59)).alloc (.cells #[.int .i64 0] 3)).alloc (.cells #[.slice A n c] 23) = W0 at bY bP bK hbut hsz ⊢
  have hn0W : n₀ ≤ W.heap.size := Nat.le_trans hn₀ hW.size
  have hr0 := hrW.below (hbut.below (Nat.le_refl _) (Nat.le_refl _) |>.mono hn0W)
  have hJ0 := hJ 0 W W0 h0 hbut
  refine rangeZ (gf := 73) (lb := #[.pointer (some ⟨W.heap.size + 1 + 1, 0, none⟩)]) (N := n) (n₀ := n₀) (B₀ := W.heap.size + 1 + 1) (c := 0) (encs := lastEnc ys n) rfl (enters_of Try.func73 (by kernel_rfl) rfl) (by omega) (by omega)
    (backward1_iter (W.heap.size + 1 + 1) n₀ (W.heap.size + 1 + 1) n c A ys W0 hlen hn (Nat.le_refl _) (by omega) (by omega) bK.cell hr0) (fun _ => rfl)
    (fun j V => J j V ∧ Boxed V W.heap.size 59 (.func (.yield l) #[] #[]) ∧ Boxed V (W.heap.size + 1) 3 (.int .i64 (sm (ys.drop (n - j)))))
    (fun j X Y h hXY => ⟨hJ j X Y h.1 (hXY.mono (by omega) (by omega)), hXY.box h.2.1 (.inl (by omega)), hXY.box h.2.2 (.inl (by omega))⟩)
    ⟨hJ0, bY, by rw [Nat.sub_zero, List.drop_eq_nil_of_le (by omega)]; exact bP⟩
    (fun j => { tmps := #[.func (.yield l) #[] #[], .pointer (some ⟨Bs, 0, none⟩), .pointer (some ⟨W.heap.size, 0, none⟩), .pointer (some ⟨W.heap.size + 1, 0, none⟩), .int .i64 ((n : Int) - 1 - j), .int .i64 (ys.getD (n - 1 - j) 0), .slice A n c, .func (.func 73) #[] #[.pointer (some ⟨W.heap.size + 1 + 1, 0, none⟩)], .int .i64 ((n : Int) - 1 - j), .int .i64 (ys.getD (n - 1 - j) 0), undef, undef, undef, undef, undef, undef, undef, undef], defers := [] }) ?assign ?body ?done
  case assign =>
    intro l' m j V K hK
    unfold lastEnc
    gi_wp2
    exact hK
  case body =>
    rintro l' m j V hj ⟨hJj, bYj, bPj⟩ hszV
    obtain ⟨p, Hp⟩ : ∃ p, Hid (sm (ys.drop (n - j)) = p) := ⟨_, rfl⟩
    obtain ⟨x, Hx⟩ : ∃ x, Hid (ys.getD (n - 1 - j) 0 = x) := ⟨_, rfl⟩
    obtain ⟨q, Hq⟩ : ∃ q, Hid (sm (ys.drop (n - (j + 1))) = q) := ⟨_, rfl⟩
    have hstep : q = p + x := by
      rw [← Hq.out, ← Hp.out, ← Hx.out]
      have hk : n - (j + 1) < ys.length := by omega
      rw [List.drop_eq_getElem_cons hk, show n - (j + 1) + 1 = n - j by omega, show n - 1 - j = n - (j + 1) by omega]
      simp only [sm, List.getD, List.getElem?_eq_getElem hk, Option.getD_some]
      omega
    have hqb := sm_bdZ hz hlen hn (i := n - (j + 1))
    rw [Hq.out] at hqb
    have hw : IntKind.i64.wrap (p + x) = q := by rw [hstep]; exact IntWalk.i64_in _ (by omega)
    rw [Hp.out] at bPj
    have hcY := bYj.cell
    have hcP := bPj.cell
    have hfP := bPj.frozen
    have hbs : But W.heap.size (W.heap.size + 5) V (V.setCell ⟨W.heap.size + 1, 0, none⟩ (.int .i64 q)) := But.setCell V (by show _ ≤ W.heap.size + 1; omega) (by show W.heap.size + 1 < _; omega) _
    have hY1 := hY j (V.setCell ⟨W.heap.size + 1, 0, none⟩ (.int .i64 q)) hj (hJ _ _ _ hJj hbs) (by have := hbs.size; omega) (m - 1)
    obtain ⟨fn, tmps, assign, body, hy, hR⟩ := hY1
    unfold distEnc at hy
    rw [show n - 1 - j = n - (j + 1) by omega, Hq.out] at hy
    have bY2 := bYj.other (B' := W.heap.size + 1) (by omega) (.int .i64 q)
    have bP2 := bPj.set (.int .i64 q)
    have hcY2 := bY2.cell
    have hcP2 := bP2.cell
    rw [Hx.out]
    have Hst := Lib.hid hstep
    clear hstep
    gi_wp2
    refine ⟨fun h => (by cases h), RoundIn.mono (F := Fence.wide.inRound l') hR ?_⟩
    rintro e W3 ⟨rfl, hJ3, hk3⟩
    have bY3 := hk3.box bY2 (by omega)
    have bP3 := hk3.box bP2 (by omega)
    have HK3 := Lib.hid hk3
    have HJ3 := Lib.hid hJ3
    clear hk3 hJ3 hbs hqb hw
    gi_wp2
    refine ⟨⟨HJ3.out, bY3, by rw [Hq.out]; exact bP3⟩, ?_, fun k h1 h2 => ?_⟩
    · exact ((Below.refl n₀ V).setCell (p := ⟨W.heap.size + 1, 0, none⟩) (by show _ ≤ W.heap.size + 1; omega) _).trans HK3.out.bel
    · exact (HK3.out.keep k (by omega) (by simpa [World.setCell] using h2)).trans (Below.heap_setCell _ _ _ _ (by show k ≠ W.heap.size + 1; omega))
  case done =>
    rintro V ⟨hJn, -, -⟩ hd
    gi_wp2
    refine ⟨by simp, .inl ⟨_, _, rfl, run_takeDeferred hd, ?_⟩⟩
    exact ⟨_, results_none rfl _ _ _, ⟨_, rfl⟩, hJ _ _ _ hJn (But.putObj V (by omega) (by omega) _)⟩
end Go.Proofs.Ytoappopbjnlbdaa
