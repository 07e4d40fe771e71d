/-
  Small steps that the exact laws share.
  Conditions: none beyond what each theorem states.
  Grids of the program: the small functions, walked.
  Conditions: at most ten columns and rows.
  Tables that are made whole first and filled row by row; a row's element changed.
  Conditions: none beyond what each theorem states.
  Lists of cells of the program: those that a function tells of, those near a cell, slanting ones.
  Conditions: at most ten columns and rows.
  The cells near a cell, and slanting cells, of the program, walked.
  Conditions: at most ten columns and rows.
  OnesCount of a set of at most seven homes.
  Conditions: the set is below 128.
  OnesCount of a set of at most ten.
  Conditions: at most ten nodes, sets below 1024.
-/
import Derived.Test.YtkgomgfhhhdnjaaZ2
import Derived.Test.YtkgomgfhhhdnjaaZ1
import Derived.BigQuiet
import Derived.Deep.RegionWith
import Derived.OneCell
import Derived.Deep.RegionHeld3
namespace Go.Proofs.Ytkgomgfhhhdnjaa
open Go.ChangeShapes Go.WideShapes Go.ChangeAt Go.RowKit
set_option linter.unusedVariables false

theorem eqInt_same (A A' : Option Addr) (c c' n n' : Nat) (zs : List Int) (w : World) (B B' : Nat) (hr : RdI w B A zs) (hn : zs.length = n) (hr' : RdI w B' A' zs) (hn' : zs.length = n') (hb : n ≤ 1048576) :
    Calls Try.prog 36 #[.slice A n c, .slice A' n' c'] w fun e w' => e = .returned (.bool true) ∧ ∃ q, w' = w.drewN q :=
  (eqInt_any A A' c c' n n' zs zs w B B' hr hn hr' hn' hb).mono fun _ _ ⟨he, hw⟩ => ⟨by rw [he]; simp, hw⟩

/-- A contract whose call only draws, as one that keeps what is below. -/
theorem calls_drawn {P : Program} {f : FuncId} {args : Array Value} {w : World} {v : Value}
    (h : Calls P f args w fun e w' => e = .returned v ∧ ∃ q, w' = w.drewN q) : Calls P f args w fun e w' => e = .returned v ∧ Below w.heap.size w w' :=
  h.mono fun _ _ ⟨he, q, hq⟩ => ⟨he, by rw [hq]; exact below_drewN (Below.refl _ _) _⟩
theorem calls_same {P : Program} {f : FuncId} {args : Array Value} {w : World} {v : Value}
    (h : Calls P f args w fun e w' => e = .returned v ∧ w = w') : Calls P f args w fun e w' => e = .returned v ∧ Below w.heap.size w w' :=
  h.mono fun _ _ ⟨he, hq⟩ => ⟨he, by rw [← hq]; exact Below.refl _ _⟩
end Go.Proofs.Ytkgomgfhhhdnjaa
namespace Go.Proofs.Ytkgomgfhhhdnjaa
open Go.ChangeShapes Go.WideShapes Go.ChangeAt Go.RowKit
set_option linter.unusedVariables false
set_option maxRecDepth 4000

theorem iOpen_any (w h : Int) (W : World) : Calls Try.prog 47 #[.int .i64 w, .int .i64 h] W fun e W' => e = .returned (.agg #[.int .i64 w, .int .i64 h, .bool false]) ∧ Below W.heap.size W W' := by
  go_enter Try.func47, Try.ntmps47
  go_wp2
  exact bodyPost_ret (v := .agg #[.int .i64 w, .int .i64 h, .bool false]) (by simp [results, Try.results47, go_sem]) rfl ⟨rfl, (Below.refl _ _).alloc (Nat.le_refl _) _⟩
theorem iClosed_any (w h : Int) (W : World) : Calls Try.prog 60 #[.int .i64 w, .int .i64 h] W fun e W' => e = .returned (.agg #[.int .i64 w, .int .i64 h, .bool true]) ∧ Below W.heap.size W W' := by
  go_enter Try.func60, Try.ntmps60
  go_wp2
  exact bodyPost_ret (v := .agg #[.int .i64 w, .int .i64 h, .bool true]) (by simp [results, Try.results60, go_sem]) rfl ⟨rfl, (Below.refl _ _).alloc (Nat.le_refl _) _⟩
theorem iCells_any (w h : Nat) (cl : Bool) (W : World) (hw : w ≤ 10) (hh : h ≤ 10) {n : Nat} (hn : w * h = n) : Calls Try.prog 75 #[.agg #[.int .i64 w, .int .i64 h, .bool cl]] W fun e W' => e = .returned (.int .i64 n) ∧ Below W.heap.size W W' := by
  have hm : ((w : Int) * (h : Int)) = (n : Int) := by rw [← hn, Int.natCast_mul]
  have hb : n ≤ 100 := by rw [← hn]; exact Nat.mul_le_mul hw hh
  clear hn
  go_enter Try.func75, Try.ntmps75
  go_wp2
  go_ret
  exact ⟨rfl, (Below.refl _ _).alloc (Nat.le_refl _) _⟩
theorem iCellAt_any (w h k : Nat) (cl : Bool) (W : World) (hw1 : 1 ≤ w) (hw : w ≤ 10) (hk : k < 100) : Calls Try.prog 69 #[.agg #[.int .i64 w, .int .i64 h, .bool cl], .int .i64 k] W fun e W' => e = .returned (.agg #[.int .i64 (k % w : Nat), .int .i64 (k / w : Nat)]) ∧ Below W.heap.size W W' := by
  have e1 : (k : Int).tmod (w : Int) = ((k % w : Nat) : Int) := (Int.ofNat_tmod k w).symm
  have e2 : (k : Int).tdiv (w : Int) = ((k / w : Nat) : Int) := (Int.ofNat_tdiv k w).symm
  have b1 := Nat.mod_lt k hw1
  have b2 : k / w ≤ k := Nat.div_le_self _ _
  obtain ⟨x, Hx⟩ : ∃ x, Hid (k % w = x) := ⟨_, rfl⟩
  obtain ⟨y, Hy⟩ : ∃ y, Hid (k / w = y) := ⟨_, rfl⟩
  rw [Hx.out] at e1 b1 ⊢
  rw [Hy.out] at e2 b2 ⊢
  have hne : ¬ (w : Int) = 0 := by omega
  have hz : ((w : Int) == 0) = false := by rw [beq_eq_false_iff_ne]; exact hne
  go_enter Try.func69, Try.ntmps69
  go_wp2
  go_region
  go_wp2
  exact bodyPost_ret (v := .agg #[.int .i64 x, .int .i64 y]) (by simp [results, Try.results69, go_sem]) rfl ⟨rfl, (((Below.refl _ _).alloc (Nat.le_refl _) _).alloc (by simp [go_sem]) _).drew⟩
theorem iSmall_any (w h : Int) (W : World) : Calls Try.prog 45 #[.int .i64 w, .int .i64 h] W fun e W' => e = .returned (.bool (decide (gok w h))) ∧ W = W' := by
  by_cases h1 : 1 ≤ w
  · by_cases h2 : w ≤ 5
    · by_cases h3 : 1 ≤ h
      · by_cases h4 : h ≤ 5
        · obtain ⟨a, rfl⟩ := Int.eq_ofNat_of_zero_le (show 0 ≤ w by omega)
          obtain ⟨b, rfl⟩ := Int.eq_ofNat_of_zero_le (show 0 ≤ h by omega)
          have hb : a * b ≤ 25 := Nat.mul_le_mul (show a ≤ 5 by omega) (show b ≤ 5 by omega)
          have Hg : Hid (decide (gok (a : Int) (b : Int)) = decide (((a * b : Nat) : Int) ≤ 10)) := by
            show _ = _
            rw [decide_eq_decide]; unfold gok; rw [← Int.natCast_mul]; omega
          rw [Hg.out]
          have hm : (a : Int) * (b : Int) = ((a * b : Nat) : Int) := (Int.natCast_mul a b).symm
          obtain ⟨n, Hn⟩ : ∃ n, Hid (a * b = n) := ⟨_, rfl⟩
          rw [Hn.out] at hm hb ⊢
          by_cases h5 : (n : Int) ≤ 10
          · go_enter Try.func45, Try.ntmps45
            go_wp2
            go_ret
            exact ⟨ret_bool (by rw [decide_eq_true h5]), rfl⟩
          · go_enter Try.func45, Try.ntmps45
            go_wp2
            go_ret
            exact ⟨ret_bool (by rw [decide_eq_false (show ¬ (n : Int) ≤ 10 by omega)]), rfl⟩
        · have Hg : Hid (decide (gok w h) = false) := decide_eq_false (by unfold gok; omega)
          rw [Hg.out]
          go_enter Try.func45, Try.ntmps45
          go_wp2
          go_ret
          exact ⟨rfl, rfl⟩
      · have Hg : Hid (decide (gok w h) = false) := decide_eq_false (by unfold gok; omega)
        rw [Hg.out]
        go_enter Try.func45, Try.ntmps45
        go_wp2
        go_ret
        exact ⟨rfl, rfl⟩
    · have Hg : Hid (decide (gok w h) = false) := decide_eq_false (by unfold gok; omega)
      rw [Hg.out]
      go_enter Try.func45, Try.ntmps45
      go_wp2
      go_ret
      exact ⟨rfl, rfl⟩
  · have Hg : Hid (decide (gok w h) = false) := decide_eq_false (by unfold gok; omega)
    rw [Hg.out]
    go_enter Try.func45, Try.ntmps45
    go_wp2
    go_ret
    exact ⟨rfl, rfl⟩
theorem iRing_any (w h : Int) (W : World) : Calls Try.prog 58 #[.int .i64 w, .int .i64 h] W fun e W' => e = .returned (.bool (decide (rok w h))) ∧ W = W' := by
  have Hg : Hid (decide (rok w h) = (decide (1 ≤ w) && (decide (w ≤ 10) && (decide (1 ≤ h) && decide (h ≤ 10))))) := by
    show _ = _
    by_cases h1 : 1 ≤ w <;> by_cases h2 : w ≤ 10 <;> by_cases h3 : 1 ≤ h <;> by_cases h4 : h ≤ 10 <;> simp [rok, h1, h2, h3, h4]
  rw [Hg.out]
  by_cases h1 : 1 ≤ w <;> by_cases h2 : w ≤ 10 <;> by_cases h3 : 1 ≤ h <;> by_cases h4 : h ≤ 10
  all_goals
    go_enter Try.func58, Try.ntmps58
    go_wp2
    go_ret
    exact ⟨ret_bool (by simp [h1, h2, h3, h4]), rfl⟩

/-- How far two numbers of columns or rows are apart, round the end where the grid is closed. -/
def axN (cl : Bool) (n a b : Nat) : Nat := if cl then rsN n a b else gpN a b
def stA (cl : Bool) (w h fx fy tx ty : Nat) : Nat := axN cl w fx tx + axN cl h fy ty
def StRel (cl : Bool) (w h fx fy tx ty : Nat) (W0 : World) (s i : Value) (wr : World) : Prop :=
  ∃ k q : Nat, k ≤ 2 ∧ i = .int .i64 k ∧ s = .int .i64 ((if k = 0 then 0 else if k = 1 then axN cl w fx tx else stA cl w h fx fy tx ty : Nat) : Int) ∧ wr = W0.drewN q
theorem gapI_gpN {a b x y : Nat} (h1 : a = x) (h2 : b = y) : gapI (a : Int) (b : Int) = (gpN x y : Nat) := by subst h1; subst h2; unfold gapI gpN; split <;> omega
theorem axN_lt {cl : Bool} {n a b : Nat} (ha : a < n) (hb : b < n) : axN cl n a b < n := by
  unfold axN rsN gpN; split <;> omega
theorem idx_0 (x y : Int) (W : World) : (Instr.index 55 (.agg #[.int .i64 x, .int .i64 y]) (.int .i64 0)).run Try.prog W = .ok (.int .i64 x) W := by
  simp [Instr.index, run_underlying Try.underlying55, asIntOf, go_sem]
theorem idx_1 (x y : Int) (W : World) : (Instr.index 55 (.agg #[.int .i64 x, .int .i64 y]) (.int .i64 1)).run Try.prog W = .ok (.int .i64 y) W := by
  simp [Instr.index, run_underlying Try.underlying55, asIntOf, go_sem]
theorem quietS9 {P : Program} {f : FuncId} {args : Array Value} {w : World} {v : Value} {a m : Nat}
    (h : Calls P f args (w.drewN (a + m)) fun e w' => e = .returned v ∧ w.drewN (a + m) = w') : Calls P f args (w.drewN (a + m)) fun e w'' => e = .returned v ∧ ∃ m, w'' = w.drewN (a + m) :=
  h.mono fun _ _ ⟨he, hq⟩ => ⟨he, m, hq.symm⟩
structure StW (W W0 : World) (w h fx fy tx ty : Nat) (cl : Bool) : Prop where
  g : ∀ q, (W0.drewN q).cell? ⟨W.heap.size, 2, none⟩ = some (.bool cl)
  f0 : ∀ q, (W0.drewN q).cell? ⟨W.heap.size + 1, 0, none⟩ = some (.int .i64 fx)
  f1 : ∀ q, (W0.drewN q).cell? ⟨W.heap.size + 1, 1, none⟩ = some (.int .i64 fy)
  t0 : ∀ q, (W0.drewN q).cell? ⟨W.heap.size + 2, 0, none⟩ = some (.int .i64 tx)
  t1 : ∀ q, (W0.drewN q).cell? ⟨W.heap.size + 2, 1, none⟩ = some (.int .i64 ty)
  b : Below W.heap.size W W0
theorem stW_is (W : World) (w h fx fy tx ty : Nat) (cl : Bool) : StW W (((W.alloc (.cells #[.int .i64 w, .int .i64 h, .bool cl] 57)).alloc (.cells #[.int .i64 fx, .int .i64 fy] 75)).alloc (.cells #[.int .i64 tx, .int .i64 ty] 75)) w h fx fy tx ty cl := by
  have e1 : (((W.alloc (.cells #[.int .i64 w, .int .i64 h, .bool cl] 57)).alloc (.cells #[.int .i64 fx, .int .i64 fy] 75)).alloc (.cells #[.int .i64 tx, .int .i64 ty] 75)).heap[W.heap.size]? = some (.cells #[.int .i64 w, .int .i64 h, .bool cl] 57) := by
    rw [heap_alloc_old _ _ (by simp; omega), heap_alloc_old _ _ (by simp), heap_alloc_new]
  have e2 : (((W.alloc (.cells #[.int .i64 w, .int .i64 h, .bool cl] 57)).alloc (.cells #[.int .i64 fx, .int .i64 fy] 75)).alloc (.cells #[.int .i64 tx, .int .i64 ty] 75)).heap[W.heap.size + 1]? = some (.cells #[.int .i64 fx, .int .i64 fy] 75) := by
    rw [heap_alloc_old _ _ (by simp)]
    have := heap_alloc_new (W.alloc (.cells #[.int .i64 w, .int .i64 h, .bool cl] 57)) (.cells #[.int .i64 fx, .int .i64 fy] 75)
    rwa [size_alloc1] at this
  have e3 : (((W.alloc (.cells #[.int .i64 w, .int .i64 h, .bool cl] 57)).alloc (.cells #[.int .i64 fx, .int .i64 fy] 75)).alloc (.cells #[.int .i64 tx, .int .i64 ty] 75)).heap[W.heap.size + 2]? = some (.cells #[.int .i64 tx, .int .i64 ty] 75) := by
    have := heap_alloc_new ((W.alloc (.cells #[.int .i64 w, .int .i64 h, .bool cl] 57)).alloc (.cells #[.int .i64 fx, .int .i64 fy] 75)) (.cells #[.int .i64 tx, .int .i64 ty] 75)
    rwa [size_alloc1, size_alloc1] at this
  refine ⟨fun q => ?_, fun q => ?_, fun q => ?_, fun q => ?_, fun q => ?_, (((Below.refl _ _).alloc (Nat.le_refl _) _).alloc (by simp) _).alloc (by simp; omega) _⟩
  · exact (cell_of_row _ _ _ _ _ _ e1).trans rfl
  · exact (cell_of_row _ _ _ _ _ _ e2).trans rfl
  · exact (cell_of_row _ _ _ _ _ _ e2).trans rfl
  · exact (cell_of_row _ _ _ _ _ _ e3).trans rfl
  · exact (cell_of_row _ _ _ _ _ _ e3).trans rfl
set_option maxHeartbeats 1600000 in
theorem iSteps_any (w h fx fy tx ty : Nat) (cl : Bool) (W : World) (hw : w ≤ 10) (hh : h ≤ 10) (h1 : fx < w) (h2 : fy < h) (h3 : tx < w) (h4 : ty < h) : Calls Try.prog 71 #[.agg #[.int .i64 w, .int .i64 h, .bool cl], .agg #[.int .i64 fx, .int .i64 fy], .agg #[.int .i64 tx, .int .i64 ty]] W fun e W' => e = .returned (.int .i64 (stA cl w h fx fy tx ty : Nat)) ∧ Below W.heap.size W W' := by
  have HD := Lib.hid (fun (a b g : Nat) (V : World) (ha : a < 10) (hb : b < 10) (hg : gpN a b = g) => (distance_any (a : Int) (b : Int) V (by omega) (by omega) (by omega) (by omega)).mono (R' := fun e w' => e = .returned (.int .i64 (g : Nat)) ∧ V = w') (fun e w' h => ⟨by rw [h.1, gapI_gpN rfl rfl, hg], h.2⟩))
  have HS := Lib.hid (stW_is W w h fx fy tx ty cl)
  obtain ⟨W0, HW0⟩ : ∃ W0, Hid ((((W.alloc (.cells #[.int .i64 w, .int .i64 h, .bool cl] 57)).alloc (.cells #[.int .i64 fx, .int .i64 fy] 75)).alloc (.cells #[.int .i64 tx, .int .i64 ty] 75)) = W0) := ⟨_, rfl⟩
  rw [HW0.out] at HS
  go_enter Try.func71, Try.ntmps71
  go_wp2
  rw [HW0.out]
  go_loopw [7, 13] (fun s i wr => StRel cl w h fx fy tx ty W0 s i wr) (fun _ i _ => 2 - (intOf i).toNat)
  case atStart => exact ⟨0, 0, by omega, rfl, rfl, rfl⟩
  case round =>
    obtain ⟨k, q, hk, rfl, rfl, rfl⟩ := hrel
    have hk3 : k = 0 ∨ k = 1 ∨ k = 2 := by omega
    rcases hk3 with rfl | rfl | rfl
    · obtain ⟨g, Hg⟩ : ∃ g, Hid (gpN fx tx = g) := ⟨_, rfl⟩
      have hgw : g < w := by rw [← Hg.out]; unfold gpN; omega
      have Hd := Lib.hid (fun V => HD.out fx tx g V (by omega) (by omega) Hg.out)
      have cg := HS.out.g
      have cf := HS.out.f0
      have ct := HS.out.t0
      have i0 := fun W => idx_0 w h W
      cases cl with
      | false =>
        have HX : Hid (axN false w fx tx = g) := by show _ = _; unfold axN; rw [if_neg (by decide)]; exact Hg.out
        go_wp2
        go_quiet ((go_at_call 84; exact quietS9 (Hd.out _)))
        go_wp2
        go_roundw
        case rel => exact ⟨1, _, by omega, by go_num, by rw [if_neg (by decide), if_pos rfl, HX.out]; try (first | rw [e9] | go_num), rfl⟩
        case measure => simp [intOf]
      | true =>
        have HX0 : Hid (axN true w fx tx = min g (w - g)) := by show _ = _; unfold axN rsN; rw [if_pos rfl, Hg.out]
        by_cases hm : g ≤ w - g
        · have HX : Hid (axN true w fx tx = g) := by show _ = _; rw [HX0.out]; omega
          go_wp2
          go_quiet ((go_at_call 84; exact quietS9 (Hd.out _)))
          go_wp2
          go_roundw
          case rel => exact ⟨1, _, by omega, by go_num, by rw [if_neg (by decide), if_pos rfl, HX.out]; try (first | rw [e9] | go_num), rfl⟩
          case measure => simp [intOf]
        · have HX : Hid (axN true w fx tx = w - g) := by show _ = _; rw [HX0.out]; omega
          have e9 : ((w - g : Nat) : Int) = (w : Int) - (g : Int) := by omega
          have hm2 : (w : Int) - (g : Int) < (g : Int) := by omega
          go_wp2
          go_quiet ((go_at_call 84; exact quietS9 (Hd.out _)))
          go_wp2
          go_roundw
          case rel => exact ⟨1, _, by omega, by go_num, by rw [if_neg (by decide), if_pos rfl, HX.out]; try (first | rw [e9] | go_num), rfl⟩
          case measure => simp [intOf]
    · obtain ⟨g, Hg⟩ : ∃ g, Hid (gpN fy ty = g) := ⟨_, rfl⟩
      have hgw : g < h := by rw [← Hg.out]; unfold gpN; omega
      have Hd := Lib.hid (fun V => HD.out fy ty g V (by omega) (by omega) Hg.out)
      have cg := HS.out.g
      have cf := HS.out.f1
      have ct := HS.out.t1
      obtain ⟨A, HA⟩ : ∃ A, Hid (axN cl w fx tx = A) := ⟨_, rfl⟩
      have hA : A < w := by rw [← HA.out]; exact axN_lt h1 h3
      rw [if_neg (by decide), if_pos rfl, HA.out]
      have i0 := fun W => idx_1 w h W
      cases cl with
      | false =>
        have HX : Hid (axN false h fy ty = g) := by show _ = _; unfold axN; rw [if_neg (by decide)]; exact Hg.out
        go_wp2
        go_quiet ((go_at_call 84; exact quietS9 (Hd.out _)))
        go_wp2
        go_roundw
        case rel => exact ⟨2, _, by omega, by go_num, by rw [if_neg (by decide), if_neg (by decide)]; unfold stA; rw [HA.out, HX.out]; try (first | (rw [Int.natCast_add, e9]; done) | go_num), rfl⟩
        case measure => simp [intOf]
      | true =>
        have HX0 : Hid (axN true h fy ty = min g (h - g)) := by show _ = _; unfold axN rsN; rw [if_pos rfl, Hg.out]
        by_cases hm : g ≤ h - g
        · have HX : Hid (axN true h fy ty = g) := by show _ = _; rw [HX0.out]; omega
          go_wp2
          go_quiet ((go_at_call 84; exact quietS9 (Hd.out _)))
          go_wp2
          go_roundw
          case rel => exact ⟨2, _, by omega, by go_num, by rw [if_neg (by decide), if_neg (by decide)]; unfold stA; rw [HA.out, HX.out]; try (first | (rw [Int.natCast_add, e9]; done) | go_num), rfl⟩
          case measure => simp [intOf]
        · have HX : Hid (axN true h fy ty = h - g) := by show _ = _; rw [HX0.out]; omega
          have e9 : ((h - g : Nat) : Int) = (h : Int) - (g : Int) := by omega
          have hm2 : (h : Int) - (g : Int) < (g : Int) := by omega
          go_wp2
          go_quiet ((go_at_call 84; exact quietS9 (Hd.out _)))
          go_wp2
          go_roundw
          case rel => exact ⟨2, _, by omega, by go_num, by rw [if_neg (by decide), if_neg (by decide)]; unfold stA; rw [HA.out, HX.out]; try (first | (rw [Int.natCast_add, e9]; done) | go_num), rfl⟩
          case measure => simp [intOf]
    · go_wp2
      go_ret
      exact ⟨rfl, below_drewN HS.out.b q⟩
end Go.Proofs.Ytkgomgfhhhdnjaa
namespace Go.Proofs.Ytkgomgfhhhdnjaa
open Go.ChangeShapes Go.WideShapes Go.ChangeAt Go.RowKit
set_option linter.unusedVariables false
set_option maxRecDepth 4000

def half (VR : Nat → Value) (k n : Nat) : List Value := (List.range n).map fun j => if j < k then VR j else .slice none 0 0
theorem half_get {VR : Nat → Value} {k n : Nat} {v : Value} (h : k < n) : (half VR k n).set k v = half (upd VR k v) (k + 1) n := by
  unfold half
  apply List.ext_getElem?
  intro i
  rw [List.getElem?_set]
  by_cases hi : i < n
  · by_cases e : k = i
    · subst e; simp [hi, upd_at]
    · by_cases hik : i < k
      · simp [hi, e, hik, upd_other VR v (fun h => e h.symm), show i < k + 1 by omega]
      · simp [hi, e, hik, show ¬ i < k + 1 by omega]
  · simp [hi]; omega
theorem half_all (VR : Nat → Value) (n : Nat) : half VR n n = (List.range n).map VR := List.map_congr_left fun i hi => if_pos (List.mem_range.1 hi)
theorem half_none (n : Nat) : (madeCells (Value.slice none 0 0).cells n).toList = half (fun _ => .slice none 0 0) 0 n := by
  rw [show (Value.slice none 0 0).cells = #[Value.slice none 0 0] from rfl, toList_madeCells_one]
  unfold half
  apply List.ext_getElem?
  intro i
  by_cases hi : i < n <;> simp [hi]
theorem ownN_base {w : World} {B B' n : Nat} {v : Value} {xs : List Value} (h : w.ownsRow B 3 1 v n xs) (hB : B' ≤ B) : w.ownsRow B' 3 1 v n xs := by
  obtain ⟨h1, h2⟩ := h
  refine ⟨h1, ?_⟩
  rcases h2 with h2 | ⟨g, cap, cur, hv, hg, r⟩
  · exact .inl h2
  · exact .inr ⟨g, cap, cur, hv, Nat.le_trans hB hg, r⟩
theorem ownG_base {w : World} {B B' n s : Nat} {e : TypeId} {v : Value} {xs : List Value} (h : w.ownsRow B e s v n xs) (hB : B' ≤ B) : w.ownsRow B' e s v n xs := by
  obtain ⟨h1, h2⟩ := h
  refine ⟨h1, ?_⟩
  rcases h2 with h2 | ⟨g, cap, cur, hv, hg, r⟩
  · exact .inl h2
  · exact .inr ⟨g, cap, cur, hv, Nat.le_trans hB hg, r⟩
theorem TT.base {w : World} {B B' m : Nat} {VR : Nat → Value} {ls : Nat → List Int} (h : TT w B m VR ls) (hB : B' ≤ B) : TT w B' m VR ls :=
  ⟨fun j hj => ownG_base (h.own j hj) hB, h.dis⟩
/-- A row stored into the table. -/
theorem tabH_step {wr wC : World} {B n k g : Nat} {VR : Nat → Value} {ls : Nat → List Int} {v : Value} (hk : k < n) (hB : B ≤ wr.heap.size) (hT : TT wr B k VR ls) (hO : wr.ownsRow B 25 1 (.slice (some ⟨g, 0, none⟩) n n) n (half VR k n))
    (hb : Below wr.heap.size wr wC) (hrow : wC.ownsRow wr.heap.size 3 1 v (ls k).length ((ls k).map (Value.int .i64))) :
    (∃ x, wC.cell? ⟨g, k, none⟩ = some x) ∧ wC.frozen? ⟨g, k, none⟩ = false ∧ (wC.setCell ⟨g, k, none⟩ v).ownsRow B 25 1 (.slice (some ⟨g, 0, none⟩) n n) n (half (upd VR k v) (k + 1) n) ∧
      TT (wC.setCell ⟨g, k, none⟩ v) B (k + 1) (upd VR k v) ls ∧ B ≤ g := by
  have hOC := ownN_below hO hb
  have hTC := hT.below hb
  obtain ⟨x, hx⟩ := own_cell hOC (j := k) (by omega) (by simp [half])
  obtain ⟨⟨cs, hc⟩, hgB, _⟩ := own_heap hOC (g := g) rfl
  have hst := (hOC.stored k v).1
  rw [half_get hk] at hst
  have hrow2 : (wC.setCell ⟨g, k, none⟩ v).ownsRow B 3 1 v (ls k).length ((ls k).map (Value.int .i64)) := ownN_base (ownsRow_setCell_other hrow (fun e => by
    obtain ⟨⟨cs', hc'⟩, _⟩ := own_heap hrow e
    exact types_apart hc hc' (by decide) rfl) _) hB
  refine ⟨⟨x, hx⟩, hOC.frozenAt k, hst, ⟨fun j hj => ?_, fun i j g' hi hj h1 h2 => ?_⟩, hgB⟩
  · by_cases e : j = k
    · subst e
      rw [upd_at]
      exact hrow2
    · rw [upd_other _ _ e]
      exact (hTC.store (g := g) (k := k) (v := v) hc (by decide)).own j (by omega)
  · have hlt : ∀ {i}, i < k → (VR i).ownBlock = some g' → g' < wr.heap.size := fun hi e => (own_heap (hT.own _ hi) e).2.2
    by_cases e1 : i = k <;> by_cases e2 : j = k
    · omega
    · rw [e1, upd_at] at h1; rw [upd_other _ _ e2] at h2
      have := (own_heap hrow h1).2.1
      have := hlt (by omega) h2; omega
    · rw [e2, upd_at] at h2; rw [upd_other _ _ e1] at h1
      have := (own_heap hrow h2).2.1
      have := hlt (by omega) h1; omega
    · rw [upd_other _ _ e1] at h1; rw [upd_other _ _ e2] at h2
      exact hT.dis i j g' (by omega) (by omega) h1 h2
/-- A row's element changed. -/
theorem TT.setAt {w : World} {B m R c n j : Nat} {VR : Nat → Value} {ls : Nat → List Int} (hT : TT w B m VR ls) (hj : j < m) (hl : (ls j).length = n) (he : VR j = .slice (some ⟨R, 0, none⟩) n c) (b : Nat) (x : Int) :
    TT (w.setCell ⟨R, b, none⟩ (.int .i64 x)) B m VR (upd ls j ((ls j).set b x)) ∧ B ≤ R := by
  have h1 := hT.own j hj
  rw [he, hl] at h1
  obtain ⟨⟨cs, hcs⟩, hB, -⟩ := own_heap h1 (g := R) rfl
  refine ⟨⟨fun i hi => ?_, hT.dis⟩, hB⟩
  by_cases e : i = j
  · subst e
    have h2 := (World.ownsRow.stored h1 b (.int .i64 x)).1
    rw [upd_at, he, List.length_set, hl]
    rw [← List.map_set] at h2
    exact h2
  · rw [upd_other _ _ e]
    exact ownsRow_setCell_other (hT.own i hi) (fun e' => e (hT.dis i j R hi hj e' (by rw [he]; rfl))) _
/-- The table itself is not touched by that. -/
theorem outer_setInt {w : World} {B n R b : Nat} {v : Value} {xs : List Value} {u : Value} (hO : w.ownsRow B 25 1 v n xs) {cs : Array Value} {z : Nat × Nat} (hR : w.heap[R]? = some (.cells cs 3 z)) : (w.setCell ⟨R, b, none⟩ u).ownsRow B 25 1 v n xs :=
  ownsRow_setCell_other hO (fun e => by
    obtain ⟨⟨cs', hc'⟩, _⟩ := own_heap hO e
    exact types_apart hR hc' (by decide) rfl) _
end Go.Proofs.Ytkgomgfhhhdnjaa
namespace Go.Proofs.Ytkgomgfhhhdnjaa
open Go.ChangeShapes Go.WideShapes Go.ChangeAt Go.RowKit
set_option linter.unusedVariables false
set_option maxRecDepth 4000

/-- A row of ints of the call's own. -/
def RowG (xs : List Int) (w : World) (e : Ending) (w' : World) : Prop :=
  ∃ A' c', e = .returned (.slice A' xs.length c') ∧ Hid (w'.ownsRow w.heap.size 3 1 (.slice A' xs.length c') xs.length (xs.map (Value.int .i64))) ∧ Hid (Below w.heap.size w w')
/-- A row of ints of the call's own, of length L. -/
def OwnG (wr : World) (B : Nat) (g c L : Nat) (xs : List Int) : Prop := xs.length = L ∧ wr.ownsRow B 3 1 (.slice (some ⟨g, 0, none⟩) L c) L (xs.map (Value.int .i64))
theorem ownG_push {w3 : World} {B g3 c3 L : Nat} {xs : List Int} {x : Int} (h : xs.length = L) (ho : w3.ownsRow B 3 1 (.slice (some ⟨g3, 0, none⟩) (L + 1) c3) (L + 1) (xs.map (Value.int .i64) ++ [Value.int .i64 x])) : OwnG w3 B g3 c3 (L + 1) (xs ++ [x]) :=
  ⟨by simp [h], by rw [List.map_append]; exact ho⟩
theorem OwnG.row {w wr : World} {g c L : Nat} {xs : List Int} (h : OwnG wr w.heap.size g c L xs) (hB : Below w.heap.size w wr) : RowG xs w (.returned (.slice (some ⟨g, 0, none⟩) L c)) wr := by
  obtain ⟨h1, h2⟩ := h
  subst h1
  exact ⟨_, _, rfl, h2, hB⟩
/-- The cells below k that a test tells of. -/
def cwL (p : Nat → Nat → Bool) (w k : Nat) : List Int := ((List.range k).filter fun i => p (i % w) (i / w)).map fun i : Nat => (i : Int)
theorem cwL_yes {p : Nat → Nat → Bool} {w k : Nat} (h : p (k % w) (k / w) = true) : cwL p w (k + 1) = cwL p w k ++ [(k : Int)] := by
  unfold cwL; rw [List.range_succ, List.filter_append, List.map_append]; simp [h]
theorem cwL_no {p : Nat → Nat → Bool} {w k : Nat} (h : p (k % w) (k / w) = false) : cwL p w (k + 1) = cwL p w k := by
  unfold cwL; rw [List.range_succ, List.filter_append, List.map_append]; simp [h]
def CwRel (p : Nat → Nat → Bool) (w n B : Nat) (W : World) (o i : Value) (wr : World) : Prop :=
  ∃ k g c L : Nat, k ≤ n ∧ L ≤ k ∧ o = .slice (some ⟨g, 0, none⟩) L c ∧ i = .int .i64 k ∧ Hid (OwnG wr B g c L (cwL p w k)) ∧ Hid (Below W.heap.size W wr)
theorem div_lt9 {w h k n : Nat} (hn : w * h = n) (hk : k < n) : k / w < h := by
  rw [← hn] at hk
  exact Nat.div_lt_of_lt_mul hk

set_option maxHeartbeats 1600000 in
theorem cwBall_any (p : Nat → Nat → Bool) (w h n : Nat) (cl : Bool) (pa pb pc : Nat) (W : World) (hw1 : 1 ≤ w) (hw : w ≤ 10) (hh : h ≤ 10) (hn : w * h = n) (HSo : ∀ (x y : Nat) (V : World), x < w → y < h → Below W.heap.size W V → Calls Try.prog 70 #[.agg #[.int .i64 x, .int .i64 y], .pointer (some ⟨pa, 0, none⟩), .pointer (some ⟨pb, 0, none⟩), .pointer (some ⟨pc, 0, none⟩)] V fun e V' => e = .returned (.bool (p x y)) ∧ Below V.heap.size V V') :
    Calls Try.prog 64 #[.agg #[.int .i64 w, .int .i64 h, .bool cl], .func (.func 70) #[] #[.pointer (some ⟨pa, 0, none⟩), .pointer (some ⟨pb, 0, none⟩), .pointer (some ⟨pc, 0, none⟩)]] W (RowG (cwL p w n) W) := by
  obtain ⟨i0, hi0, hz0, hz1, hz2⟩ := info_parts intInfo
  have hn100 : n ≤ 100 := by rw [← hn]; exact Nat.mul_le_mul hw hh
  have HN := Lib.hid (fun V => iCells_any w h cl V hw hh hn)
  have HA := Lib.hid (fun (k : Nat) (V : World) (hk : k < n) => iCellAt_any w h k cl V hw1 hw (by omega))
  have Hso := Lib.hid (fun (k : Nat) (V : World) (hk : k < n) => HSo (k % w) (k / w) V (Nat.mod_lt k hw1) (div_lt9 hn hk))
  have hW1 : Below W.heap.size W (W.alloc (.cells #[.int .i64 w, .int .i64 h, .bool cl] 57)) := (Below.refl _ _).alloc (Nat.le_refl _) _
  have hg0 : (W.alloc (.cells #[.int .i64 w, .int .i64 h, .bool cl] 57)).heap[W.heap.size]? = some (.cells #[.int .i64 w, .int .i64 h, .bool cl] 57) := heap_alloc_new _ _
  have hs1 : (W.alloc (.cells #[.int .i64 w, .int .i64 h, .bool cl] 57)).heap.size = W.heap.size + 1 := size_alloc1 _ _
  obtain ⟨W1, HW1⟩ : ∃ W1, Hid (W.alloc (.cells #[.int .i64 w, .int .i64 h, .bool cl] 57) = W1) := ⟨_, rfl⟩
  rw [HW1.out] at hW1 hg0 hs1
  have g0 : W1.cell? ⟨W.heap.size, 0, none⟩ = some (.int .i64 w) := (cell_of_row _ _ _ _ _ _ hg0).trans rfl
  have g1 : W1.cell? ⟨W.heap.size, 1, none⟩ = some (.int .i64 h) := (cell_of_row _ _ _ _ _ _ hg0).trans rfl
  have g2 : W1.cell? ⟨W.heap.size, 2, none⟩ = some (.bool cl) := (cell_of_row _ _ _ _ _ _ hg0).trans rfl
  have HG : Hid (∀ V, Below W1.heap.size W1 V → V.cell? ⟨W.heap.size, 0, none⟩ = some (.int .i64 w) ∧ V.cell? ⟨W.heap.size, 1, none⟩ = some (.int .i64 h) ∧ V.cell? ⟨W.heap.size, 2, none⟩ = some (.bool cl)) := fun V hb =>
    ⟨(hb.cell (p := ⟨W.heap.size, 0, none⟩) (by show W.heap.size < _; omega)).trans g0, (hb.cell (p := ⟨W.heap.size, 1, none⟩) (by show W.heap.size < _; omega)).trans g1, (hb.cell (p := ⟨W.heap.size, 2, none⟩) (by show W.heap.size < _; omega)).trans g2⟩
  have HB1 := Lib.hid hW1
  have HS1 := Lib.hid hs1
  have HO0 : Hid (OwnG (W1.alloc (.cells #[] 3)) W1.heap.size W1.heap.size 0 0 (cwL p w 0)) := ⟨rfl, World.ownsRow_lit W1 #[] 0 (Nat.le_refl _) (by decide) rfl⟩
  have HB0 : Hid (Below W1.heap.size W1 (W1.alloc (.cells #[] 3))) := (Below.refl _ _).alloc (Nat.le_refl _) _
  have l0 := (HG.out _ HB0.out).1
  have l1 := (HG.out _ HB0.out).2.1
  have l2 := (HG.out _ HB0.out).2.2
  clear hn HSo hW1 hg0 hs1 g0 g1 g2
  go_enter Try.func64, Try.ntmps64
  go_wp2_with fail
  rw [HW1.out]
  refine (HN.out _).mono ?_
  rintro e V ⟨rfl, hV⟩
  have HO1 : Hid (OwnG V W1.heap.size W1.heap.size 0 0 (cwL p w 0)) := ⟨HO0.out.1, ownN_below HO0.out.2 hV⟩
  have HBV := Lib.hid (HB0.out.trans (hV.mono HB0.out.size))
  clear HO0 HB0 hV l0 l1 l2
  go_wp2
  go_loopw [5, 10] (fun o i wr => CwRel p w n W1.heap.size W1 o i wr) (fun _ i _ => n - (intOf i).toNat)
  case atStart => exact ⟨0, _, 0, 0, by omega, by omega, rfl, rfl, by rw [← HS1.out]; exact HO1, HBV⟩
  case round =>
    clear HO1 HBV
    obtain ⟨k, g, c, L, hk, hLk, rfl, rfl, HO, HB⟩ := hrel
    by_cases hlt : k < n
    · have l0 := (HG.out _ HB.out).1
      have l1 := (HG.out _ HB.out).2.1
      have l2 := (HG.out _ HB.out).2.2
      go_wp2_with fail
      refine (HA.out k _ hlt).mono ?_
      rintro e w2 ⟨rfl, hb2⟩
      have HO2 : Hid (OwnG w2 W1.heap.size g c L (cwL p w k)) := ⟨HO.out.1, ownN_below HO.out.2 hb2⟩
      have HB2 := Lib.hid (HB.out.trans (hb2.mono HB.out.size))
      clear HO HB hb2 l0 l1 l2
      go_wp2_with fail
      refine (Hso.out k _ hlt (HB1.out.trans (HB2.out.mono HB1.out.size))).mono ?_
      rintro e w3 ⟨rfl, hb3⟩
      have HO3 : Hid (OwnG w3 W1.heap.size g c L (cwL p w k)) := ⟨HO2.out.1, ownN_below HO2.out.2 hb3⟩
      have HB3 := Lib.hid (HB2.out.trans (hb3.mono HB2.out.size))
      clear HO2 HB2 hb3
      cases hp : p (k % w) (k / w) with
      | false =>
        have HO4 : Hid (OwnG w3 W1.heap.size g c L (cwL p w (k + 1))) := by show OwnG _ _ _ _ _ _; rw [cwL_no hp]; exact HO3.out
        clear hp
        go_wp2
        go_roundw
        case rel => exact ⟨k + 1, g, c, L, by omega, by omega, rfl, by go_num, HO4, HB3⟩
        case measure => simp [intOf]; omega
      | true =>
        have HT : Hid (cwL p w (k + 1) = cwL p w k ++ [(k : Int)]) := cwL_yes hp
        have Hlen := Lib.hid HO3.out.1
        have Hown := Lib.hid HO3.out.2
        have hsz : L + 1 ≤ maxLen := by unfold maxLen; omega
        have hsz2 : (L + 1) * 8 ≤ 140737488355328 := by omega
        have hsz3 : W1.heap.size ≤ (w3.alloc (.cells #[.int .i64 k] 3)).heap.size := by rw [size_alloc1]; have := HB3.out.size; omega
        clear hp
        go_wp2_with (at_builtin; refine wpList_append_lies _ rfl _ _ 25 rfl W1.heap.size 3 i0 _ 1 8 Try.underlying25 hi0 hz0 hz1 hz2 rfl (by decide) _ _ _ rfl (Hown.out.alloc _) ⟨w3.heap.size, 0, none⟩ 1 1 [.int .i64 k] rfl rfl (cell_one_new _ _ _) (by intro u hu; simp at hu; subst hu; rfl) (by decide) hsz hsz2 hsz3 _ rfl ?_; intro g3 c3 w4 hown4 hgrow4 hat4 hlt4)
        have HO4 : Hid (OwnG w4 W1.heap.size g3 c3 (L + 1) (cwL p w (k + 1))) := by show OwnG _ _ _ _ _ _; rw [HT.out]; exact ownG_push Hlen.out hown4
        have HB4 : Hid (Below W1.heap.size W1 w4) := (HB3.out.alloc HB3.out.size _).grown hgrow4 hsz3 (fun q hq => (Hown.out.lt q hq).1)
        clear hown4 hgrow4 hat4 hlt4 Hown HO3 hsz hsz2 hsz3
        go_wp2
        go_roundw
        case rel => exact ⟨k + 1, g3, c3, L + 1, by omega, by omega, rfl, by go_num, HO4, HB4⟩
        case measure => simp [intOf]; omega
    · obtain rfl : k = n := by omega
      have HD := Lib.hid (OwnG.row ⟨HO.out.1, ownG_base HO.out.2 HB1.out.size⟩ (HB1.out.trans (HB.out.mono HB1.out.size)))
      go_wp2
      go_ret
      exact HD.out

set_option maxHeartbeats 1600000 in
theorem cwSlant_any (p : Nat → Nat → Bool) (w h n : Nat) (cl : Bool) (pa : Nat) (W : World) (hw1 : 1 ≤ w) (hw : w ≤ 10) (hh : h ≤ 10) (hn : w * h = n) (HSo : ∀ (x y : Nat) (V : World), x < w → y < h → Below W.heap.size W V → Calls Try.prog 65 #[.agg #[.int .i64 x, .int .i64 y], .pointer (some ⟨pa, 0, none⟩)] V fun e V' => e = .returned (.bool (p x y)) ∧ Below V.heap.size V V') :
    Calls Try.prog 64 #[.agg #[.int .i64 w, .int .i64 h, .bool cl], .func (.func 65) #[] #[.pointer (some ⟨pa, 0, none⟩)]] W (RowG (cwL p w n) W) := by
  obtain ⟨i0, hi0, hz0, hz1, hz2⟩ := info_parts intInfo
  have hn100 : n ≤ 100 := by rw [← hn]; exact Nat.mul_le_mul hw hh
  have HN := Lib.hid (fun V => iCells_any w h cl V hw hh hn)
  have HA := Lib.hid (fun (k : Nat) (V : World) (hk : k < n) => iCellAt_any w h k cl V hw1 hw (by omega))
  have Hso := Lib.hid (fun (k : Nat) (V : World) (hk : k < n) => HSo (k % w) (k / w) V (Nat.mod_lt k hw1) (div_lt9 hn hk))
  have hW1 : Below W.heap.size W (W.alloc (.cells #[.int .i64 w, .int .i64 h, .bool cl] 57)) := (Below.refl _ _).alloc (Nat.le_refl _) _
  have hg0 : (W.alloc (.cells #[.int .i64 w, .int .i64 h, .bool cl] 57)).heap[W.heap.size]? = some (.cells #[.int .i64 w, .int .i64 h, .bool cl] 57) := heap_alloc_new _ _
  have hs1 : (W.alloc (.cells #[.int .i64 w, .int .i64 h, .bool cl] 57)).heap.size = W.heap.size + 1 := size_alloc1 _ _
  obtain ⟨W1, HW1⟩ : ∃ W1, Hid (W.alloc (.cells #[.int .i64 w, .int .i64 h, .bool cl] 57) = W1) := ⟨_, rfl⟩
  rw [HW1.out] at hW1 hg0 hs1
  have g0 : W1.cell? ⟨W.heap.size, 0, none⟩ = some (.int .i64 w) := (cell_of_row _ _ _ _ _ _ hg0).trans rfl
  have g1 : W1.cell? ⟨W.heap.size, 1, none⟩ = some (.int .i64 h) := (cell_of_row _ _ _ _ _ _ hg0).trans rfl
  have g2 : W1.cell? ⟨W.heap.size, 2, none⟩ = some (.bool cl) := (cell_of_row _ _ _ _ _ _ hg0).trans rfl
  have HG : Hid (∀ V, Below W1.heap.size W1 V → V.cell? ⟨W.heap.size, 0, none⟩ = some (.int .i64 w) ∧ V.cell? ⟨W.heap.size, 1, none⟩ = some (.int .i64 h) ∧ V.cell? ⟨W.heap.size, 2, none⟩ = some (.bool cl)) := fun V hb =>
    ⟨(hb.cell (p := ⟨W.heap.size, 0, none⟩) (by show W.heap.size < _; omega)).trans g0, (hb.cell (p := ⟨W.heap.size, 1, none⟩) (by show W.heap.size < _; omega)).trans g1, (hb.cell (p := ⟨W.heap.size, 2, none⟩) (by show W.heap.size < _; omega)).trans g2⟩
  have HB1 := Lib.hid hW1
  have HS1 := Lib.hid hs1
  have HO0 : Hid (OwnG (W1.alloc (.cells #[] 3)) W1.heap.size W1.heap.size 0 0 (cwL p w 0)) := ⟨rfl, World.ownsRow_lit W1 #[] 0 (Nat.le_refl _) (by decide) rfl⟩
  have HB0 : Hid (Below W1.heap.size W1 (W1.alloc (.cells #[] 3))) := (Below.refl _ _).alloc (Nat.le_refl _) _
  have l0 := (HG.out _ HB0.out).1
  have l1 := (HG.out _ HB0.out).2.1
  have l2 := (HG.out _ HB0.out).2.2
  clear hn HSo hW1 hg0 hs1 g0 g1 g2
  go_enter Try.func64, Try.ntmps64
  go_wp2_with fail
  rw [HW1.out]
  refine (HN.out _).mono ?_
  rintro e V ⟨rfl, hV⟩
  have HO1 : Hid (OwnG V W1.heap.size W1.heap.size 0 0 (cwL p w 0)) := ⟨HO0.out.1, ownN_below HO0.out.2 hV⟩
  have HBV := Lib.hid (HB0.out.trans (hV.mono HB0.out.size))
  clear HO0 HB0 hV l0 l1 l2
  go_wp2
  go_loopw [5, 10] (fun o i wr => CwRel p w n W1.heap.size W1 o i wr) (fun _ i _ => n - (intOf i).toNat)
  case atStart => exact ⟨0, _, 0, 0, by omega, by omega, rfl, rfl, by rw [← HS1.out]; exact HO1, HBV⟩
  case round =>
    clear HO1 HBV
    obtain ⟨k, g, c, L, hk, hLk, rfl, rfl, HO, HB⟩ := hrel
    by_cases hlt : k < n
    · have l0 := (HG.out _ HB.out).1
      have l1 := (HG.out _ HB.out).2.1
      have l2 := (HG.out _ HB.out).2.2
      go_wp2_with fail
      refine (HA.out k _ hlt).mono ?_
      rintro e w2 ⟨rfl, hb2⟩
      have HO2 : Hid (OwnG w2 W1.heap.size g c L (cwL p w k)) := ⟨HO.out.1, ownN_below HO.out.2 hb2⟩
      have HB2 := Lib.hid (HB.out.trans (hb2.mono HB.out.size))
      clear HO HB hb2 l0 l1 l2
      go_wp2_with fail
      refine (Hso.out k _ hlt (HB1.out.trans (HB2.out.mono HB1.out.size))).mono ?_
      rintro e w3 ⟨rfl, hb3⟩
      have HO3 : Hid (OwnG w3 W1.heap.size g c L (cwL p w k)) := ⟨HO2.out.1, ownN_below HO2.out.2 hb3⟩
      have HB3 := Lib.hid (HB2.out.trans (hb3.mono HB2.out.size))
      clear HO2 HB2 hb3
      cases hp : p (k % w) (k / w) with
      | false =>
        have HO4 : Hid (OwnG w3 W1.heap.size g c L (cwL p w (k + 1))) := by show OwnG _ _ _ _ _ _; rw [cwL_no hp]; exact HO3.out
        clear hp
        go_wp2
        go_roundw
        case rel => exact ⟨k + 1, g, c, L, by omega, by omega, rfl, by go_num, HO4, HB3⟩
        case measure => simp [intOf]; omega
      | true =>
        have HT : Hid (cwL p w (k + 1) = cwL p w k ++ [(k : Int)]) := cwL_yes hp
        have Hlen := Lib.hid HO3.out.1
        have Hown := Lib.hid HO3.out.2
        have hsz : L + 1 ≤ maxLen := by unfold maxLen; omega
        have hsz2 : (L + 1) * 8 ≤ 140737488355328 := by omega
        have hsz3 : W1.heap.size ≤ (w3.alloc (.cells #[.int .i64 k] 3)).heap.size := by rw [size_alloc1]; have := HB3.out.size; omega
        clear hp
        go_wp2_with (at_builtin; refine wpList_append_lies _ rfl _ _ 25 rfl W1.heap.size 3 i0 _ 1 8 Try.underlying25 hi0 hz0 hz1 hz2 rfl (by decide) _ _ _ rfl (Hown.out.alloc _) ⟨w3.heap.size, 0, none⟩ 1 1 [.int .i64 k] rfl rfl (cell_one_new _ _ _) (by intro u hu; simp at hu; subst hu; rfl) (by decide) hsz hsz2 hsz3 _ rfl ?_; intro g3 c3 w4 hown4 hgrow4 hat4 hlt4)
        have HO4 : Hid (OwnG w4 W1.heap.size g3 c3 (L + 1) (cwL p w (k + 1))) := by show OwnG _ _ _ _ _ _; rw [HT.out]; exact ownG_push Hlen.out hown4
        have HB4 : Hid (Below W1.heap.size W1 w4) := (HB3.out.alloc HB3.out.size _).grown hgrow4 hsz3 (fun q hq => (Hown.out.lt q hq).1)
        clear hown4 hgrow4 hat4 hlt4 Hown HO3 hsz hsz2 hsz3
        go_wp2
        go_roundw
        case rel => exact ⟨k + 1, g3, c3, L + 1, by omega, by omega, rfl, by go_num, HO4, HB4⟩
        case measure => simp [intOf]; omega
    · obtain rfl : k = n := by omega
      have HD := Lib.hid (OwnG.row ⟨HO.out.1, ownG_base HO.out.2 HB1.out.size⟩ (HB1.out.trans (HB.out.mono HB1.out.size)))
      go_wp2
      go_ret
      exact HD.out
end Go.Proofs.Ytkgomgfhhhdnjaa
namespace Go.Proofs.Ytkgomgfhhhdnjaa
open Go.ChangeShapes Go.WideShapes Go.ChangeAt Go.RowKit
set_option linter.unusedVariables false
set_option maxRecDepth 4000

/-- The grid, the cell in the middle and how far, in memory. -/
structure BallM (V : World) (pa pb pc : Nat) (w h mx my : Nat) (cl : Bool) (far : Int) : Prop where
  a0 : V.cell? ⟨pa, 0, none⟩ = some (.int .i64 w)
  a1 : V.cell? ⟨pa, 1, none⟩ = some (.int .i64 h)
  a2 : V.cell? ⟨pa, 2, none⟩ = some (.bool cl)
  b0 : V.cell? ⟨pb, 0, none⟩ = some (.int .i64 mx)
  b1 : V.cell? ⟨pb, 1, none⟩ = some (.int .i64 my)
  c0 : V.cell? ⟨pc, 0, none⟩ = some (.int .i64 far)
theorem BallM.below {V V' : World} {pa pb pc w h mx my : Nat} {cl : Bool} {far : Int} (m : BallM V pa pb pc w h mx my cl far) (hb : Below V.heap.size V V') : BallM V' pa pb pc w h mx my cl far :=
  ⟨(hb.cell (p := ⟨pa, 0, none⟩) (World.block_lt_of_cell? V _ m.a0)).trans m.a0, (hb.cell (p := ⟨pa, 1, none⟩) (World.block_lt_of_cell? V _ m.a1)).trans m.a1, (hb.cell (p := ⟨pa, 2, none⟩) (World.block_lt_of_cell? V _ m.a2)).trans m.a2,
   (hb.cell (p := ⟨pb, 0, none⟩) (World.block_lt_of_cell? V _ m.b0)).trans m.b0, (hb.cell (p := ⟨pb, 1, none⟩) (World.block_lt_of_cell? V _ m.b1)).trans m.b1, (hb.cell (p := ⟨pc, 0, none⟩) (World.block_lt_of_cell? V _ m.c0)).trans m.c0⟩
theorem below9 {a w : World} (h : Below a.drew.heap.size a.drew w) : Below a.heap.size a w := ⟨h.os, h.tape, h.output, h.size, h.block⟩
set_option maxHeartbeats 1600000 in
theorem ballFn_any (w h mx my x y pa pb pc : Nat) (cl : Bool) (far : Int) (V : World) (hw : w ≤ 10) (hh : h ≤ 10) (h1 : mx < w) (h2 : my < h) (h3 : x < w) (h4 : y < h) (m : BallM V pa pb pc w h mx my cl far) :
    Calls Try.prog 70 #[.agg #[.int .i64 x, .int .i64 y], .pointer (some ⟨pa, 0, none⟩), .pointer (some ⟨pb, 0, none⟩), .pointer (some ⟨pc, 0, none⟩)] V fun e V' => e = .returned (.bool (decide (((stA cl w h mx my x y : Nat) : Int) ≤ far))) ∧ Below V.heap.size V V' := by
  have hV1 : Below V.heap.size V (V.alloc (.cells #[.int .i64 x, .int .i64 y] 75)) := (Below.refl _ _).alloc (Nat.le_refl _) _
  have hg0 : (V.alloc (.cells #[.int .i64 x, .int .i64 y] 75)).heap[V.heap.size]? = some (.cells #[.int .i64 x, .int .i64 y] 75) := heap_alloc_new _ _
  have hs1 : (V.alloc (.cells #[.int .i64 x, .int .i64 y] 75)).heap.size = V.heap.size + 1 := size_alloc1 _ _
  obtain ⟨V1, HV1⟩ : ∃ V1, Hid (V.alloc (.cells #[.int .i64 x, .int .i64 y] 75) = V1) := ⟨_, rfl⟩
  rw [HV1.out] at hV1 hg0 hs1
  obtain ⟨B, HB⟩ : ∃ B, Hid (V.heap.size = B) := ⟨_, rfl⟩
  have HM1 := Lib.hid (m.below hV1)
  rw [HB.out] at hV1 hg0 hs1
  have x0 : V1.cell? ⟨B, 0, none⟩ = some (.int .i64 x) := (cell_of_row _ _ _ _ _ _ hg0).trans rfl
  have x1 : V1.cell? ⟨B, 1, none⟩ = some (.int .i64 y) := (cell_of_row _ _ _ _ _ _ hg0).trans rfl
  have K : Hid (∀ W', Below V1.heap.size V1 W' → W'.cell? ⟨pa, 0, none⟩ = some (.int .i64 w) ∧ W'.cell? ⟨pa, 1, none⟩ = some (.int .i64 h) ∧ W'.cell? ⟨pa, 2, none⟩ = some (.bool cl) ∧ W'.cell? ⟨pb, 0, none⟩ = some (.int .i64 mx) ∧ W'.cell? ⟨pb, 1, none⟩ = some (.int .i64 my) ∧ W'.cell? ⟨B, 0, none⟩ = some (.int .i64 x) ∧ W'.cell? ⟨B, 1, none⟩ = some (.int .i64 y) ∧ W'.cell? ⟨pc, 0, none⟩ = some (.int .i64 far)) := fun W' hb =>
    have m' := HM1.out.below hb
    ⟨m'.a0, m'.a1, m'.a2, m'.b0, m'.b1, (hb.cell (p := ⟨B, 0, none⟩) (World.block_lt_of_cell? V1 _ x0)).trans x0, (hb.cell (p := ⟨B, 1, none⟩) (World.block_lt_of_cell? V1 _ x1)).trans x1, m'.c0⟩
  have HST := Lib.hid (fun W' => iSteps_any w h mx my x y cl W' hw hh h1 h2 h3 h4)
  obtain ⟨S, HS⟩ : ∃ S, Hid (stA cl w h mx my x y = S) := ⟨_, rfl⟩
  rw [HS.out] at HST ⊢
  have hBV := Lib.hid hV1
  obtain ⟨k0, k1, k2, k3, k4, k5, k6, k7⟩ := K.out V1 (Below.refl _ _)
  clear hV1 hg0 hs1 x0 x1
  go_enter Try.func70, Try.ntmps70
  go_wp2
  rw [HV1.out]
  rw [HB.out]
  go_region_held3 (fun W' => W'.cell? ⟨pa, 0, none⟩ = some (.int .i64 w) ∧ W'.cell? ⟨pa, 1, none⟩ = some (.int .i64 h) ∧ W'.cell? ⟨pa, 2, none⟩ = some (.bool cl) ∧ W'.cell? ⟨pb, 0, none⟩ = some (.int .i64 mx) ∧ W'.cell? ⟨pb, 1, none⟩ = some (.int .i64 my) ∧ W'.cell? ⟨B, 0, none⟩ = some (.int .i64 x) ∧ W'.cell? ⟨B, 1, none⟩ = some (.int .i64 y) ∧ W'.cell? ⟨pc, 0, none⟩ = some (.int .i64 far))
    (first
      | go_keep
      | exact K.out _ hb9)
    (first
      | (go_at_call 71
         refine (HST.out _).mono ?_
         rintro e w9 ⟨rfl, hq9⟩
         have hb9 : Below V1.heap.size V1 w9 := below9 hq9))
  all_goals
    have hfin : Below V.heap.size V w9 := by rw [HB.out]; exact hBV.out.trans (hb9.mono (by rw [← HB.out]; exact hBV.out.size))
    go_wp2
    go_ret
    exact ⟨rfl, hfin⟩
theorem ballM_made {W V : World} {w h mx my : Nat} {cl : Bool} {far : Int} (hV : Below ((W.alloc (.cells #[.int .i64 w, .int .i64 h, .bool cl] 57)).alloc (.cells #[.int .i64 far] 3)).heap.size ((W.alloc (.cells #[.int .i64 w, .int .i64 h, .bool cl] 57)).alloc (.cells #[.int .i64 far] 3)) V) :
    BallM (V.alloc (.cells #[.int .i64 mx, .int .i64 my] 75)) W.heap.size V.heap.size (W.heap.size + 1) w h mx my cl far := by
  have e1 := heap_alloc2_old W (.cells #[.int .i64 w, .int .i64 h, .bool cl] 57) (.cells #[.int .i64 far] 3)
  have e2 := heap_alloc2_new W (.cells #[.int .i64 w, .int .i64 h, .bool cl] 57) (.cells #[.int .i64 far] 3)
  have hsz : ((W.alloc (.cells #[.int .i64 w, .int .i64 h, .bool cl] 57)).alloc (.cells #[.int .i64 far] 3)).heap.size = W.heap.size + 2 := by rw [size_alloc1, size_alloc1]
  have e3 := heap_alloc_new V (.cells #[.int .i64 mx, .int .i64 my] 75)
  generalize ((W.alloc (.cells #[.int .i64 w, .int .i64 h, .bool cl] 57)).alloc (.cells #[.int .i64 far] 3)) = W2 at hV e1 e2 hsz
  have hB : Below W2.heap.size W2 (V.alloc (.cells #[.int .i64 mx, .int .i64 my] 75)) := hV.alloc hV.size _
  have old : ∀ (b o : Nat) (v : Value), b < W.heap.size + 2 → W2.cell? ⟨b, o, none⟩ = some v → (V.alloc (.cells #[.int .i64 mx, .int .i64 my] 75)).cell? ⟨b, o, none⟩ = some v := fun b o v hb hv => (hB.cell (p := ⟨b, o, none⟩) (by show b < _; omega)).trans hv
  exact ⟨old _ _ _ (by omega) ((cell_of_row _ _ _ _ _ _ e1).trans rfl), old _ _ _ (by omega) ((cell_of_row _ _ _ _ _ _ e1).trans rfl), old _ _ _ (by omega) ((cell_of_row _ _ _ _ _ _ e1).trans rfl), (cell_of_row _ _ _ _ _ _ e3).trans rfl, (cell_of_row _ _ _ _ _ _ e3).trans rfl, old _ _ _ (by omega) ((cell_of_row _ _ _ _ _ _ e2).trans rfl)⟩
set_option maxHeartbeats 1600000 in
theorem iBall_any (w h n k : Nat) (cl : Bool) (far : Int) (W : World) (hw1 : 1 ≤ w) (hw : w ≤ 10) (hh : h ≤ 10) (hn : w * h = n) (hk : k < n) :
    Calls Try.prog 48 #[.agg #[.int .i64 w, .int .i64 h, .bool cl], .int .i64 k, .int .i64 far] W (RowG (cwL (fun x y => decide (((stA cl w h (k % w) (k / w) x y : Nat) : Int) ≤ far)) w n) W) := by
  have hn100 : n ≤ 100 := by rw [← hn]; exact Nat.mul_le_mul hw hh
  have hx := Nat.mod_lt k hw1
  have hy := div_lt9 hn hk
  have HA := Lib.hid (fun V => iCellAt_any w h k cl V hw1 hw (by omega))
  obtain ⟨mx, Hmx⟩ : ∃ mx, Hid (k % w = mx) := ⟨_, rfl⟩
  obtain ⟨my, Hmy⟩ : ∃ my, Hid (k / w = my) := ⟨_, rfl⟩
  rw [Hmx.out] at hx HA ⊢
  rw [Hmy.out] at hy HA ⊢
  have HCW := Lib.hid (fun (pa pb pc : Nat) (V : World) (m : BallM V pa pb pc w h mx my cl far) => cwBall_any (fun x y => decide (((stA cl w h mx my x y : Nat) : Int) ≤ far)) w h n cl pa pb pc V hw1 hw hh hn fun x y V' hx' hy' hb => ballFn_any w h mx my x y pa pb pc cl far V' hw hh hx hy hx' hy' (m.below hb))
  obtain ⟨xs, Hxs⟩ : ∃ xs, Hid (cwL (fun x y => decide (((stA cl w h mx my x y : Nat) : Int) ≤ far)) w n = xs) := ⟨_, rfl⟩
  rw [Hxs.out] at HCW ⊢
  go_enter Try.func48, Try.ntmps48
  go_wp2_with fail
  refine (HA.out _).mono ?_
  rintro e V ⟨rfl, hV⟩
  have hm := Lib.hid (ballM_made (mx := mx) (my := my) hV)
  have hBV := Lib.hid ((((Below.refl W.heap.size W).alloc (Nat.le_refl _) (.cells #[.int .i64 w, .int .i64 h, .bool cl] 57)).alloc (by simp) (.cells #[.int .i64 far] 3)).trans (hV.mono (by simp; omega)))
  have hBV2 := Lib.hid (hBV.out.alloc hBV.out.size (.cells #[.int .i64 mx, .int .i64 my] 75))
  have l0 := hm.out.a0
  have l1 := hm.out.a1
  have l2 := hm.out.a2
  clear hV
  go_wp2_with fail
  refine (HCW.out _ _ _ _ hm.out).mono ?_
  rintro e w3 ⟨A', c', rfl, hO, hB⟩
  have HD : Hid (RowG xs W (.returned (.slice A' xs.length c')) w3) := ⟨_, _, rfl, ownG_base hO.out hBV2.out.size, hBV2.out.trans (hB.out.mono hBV2.out.size)⟩
  clear hO hB l0 l1 l2
  go_wp2
  go_ret
  exact HD.out
end Go.Proofs.Ytkgomgfhhhdnjaa
namespace Go.Proofs.Ytkgomgfhhhdnjaa
open Go.ChangeShapes Go.WideShapes Go.ChangeAt Go.RowKit
set_option linter.unusedVariables false

def oc1 (x : Int) : Int := IntKind.u64.wrap (bits BinOp.and IntKind.u64 (x / 2) 6148914691236517205 + bits BinOp.and IntKind.u64 x 6148914691236517205)
def oc2 (x : Int) : Int := IntKind.u64.wrap (bits BinOp.and IntKind.u64 (x / 4) 3689348814741910323 + bits BinOp.and IntKind.u64 x 3689348814741910323)
def oc3 (x : Int) : Int := bits BinOp.and IntKind.u64 (IntKind.u64.wrap (x / 16 + x)) 1085102592571150095
def oc4 (x : Int) : Int := IntKind.u64.wrap (x + x / 256)
def oc5 (x : Int) : Int := IntKind.u64.wrap (x + x / 65536)
def oc6 (x : Int) : Int := IntKind.u64.wrap (x + x / 4294967296)
def oc (x : Int) : Int := bits BinOp.and IntKind.i64 (wrap64 (oc6 (oc5 (oc4 (oc3 (oc2 (oc1 x))))))) 127
/-- The homes of a set, in order. -/
def bitsOf (s : Nat) : List Nat := (List.range 7).filter (fun i => s.testBit i)
theorem oc_all : ∀ s : Fin 128, oc (s.val : Int) = ((bitsOf s.val).length : Int) := by decide +kernel
theorem oc_small {s : Nat} (h : s < 128) : oc (s : Int) = ((bitsOf s).length : Int) := oc_all ⟨s, h⟩

set_option maxHeartbeats 1000000 in
theorem ones64_small (s : Nat) (hs : s < 128) (w : World) :
    Calls Try.prog 88 #[.int .u64 s] w fun e w' => e = .returned (.int .i64 ((bitsOf s).length : Int)) ∧ w = w' := by
  have H := Lib.hid (oc_small hs)
  go_enter Try.func88, Try.ntmps88
  go_wp2
  go_ret
  refine ⟨?_, rfl⟩
  rw [← H.out]
  rfl
theorem ones_small (s : Nat) (hs : s < 128) (w : World) :
    Calls Try.prog 74 #[.int .u64 s] w fun e w' => e = .returned (.int .i64 ((bitsOf s).length : Int)) ∧ w = w' := by
  have H := Lib.hid (ones64_small s hs w)
  go_enter Try.func74, Try.ntmps74
  go_wp2_with fail
  refine H.out.mono ?_
  rintro e w' ⟨rfl, rfl⟩
  go_wp2
  go_ret
  exact ⟨rfl, rfl⟩
end Go.Proofs.Ytkgomgfhhhdnjaa
namespace Go.Proofs.Ytkgomgfhhhdnjaa
open Go.ChangeShapes Go.WideShapes Go.ChangeAt Go.RowKit
set_option linter.unusedVariables false
set_option maxRecDepth 4000

/-- The homes of a set, in order. -/
def bitsOfT (s : Nat) : List Nat := (List.range 10).filter (fun i => s.testBit i)
theorem oc_allT : ∀ s : Fin 1024, oc (s.val : Int) = ((bitsOfT s.val).length : Int) := by decide +kernel
theorem oc_smallT {s : Nat} (h : s < 1024) : oc (s : Int) = ((bitsOfT s).length : Int) := oc_allT ⟨s, h⟩
set_option maxHeartbeats 1000000 in
theorem ones64_smallT (s : Nat) (hs : s < 1024) (w : World) :
    Calls Try.prog 88 #[.int .u64 s] w fun e w' => e = .returned (.int .i64 ((bitsOfT s).length : Int)) ∧ w = w' := by
  have H := Lib.hid (oc_smallT hs)
  go_enter Try.func88, Try.ntmps88
  go_wp2
  go_ret
  refine ⟨?_, rfl⟩
  rw [← H.out]
  rfl
theorem ones_smallT (s : Nat) (hs : s < 1024) (w : World) :
    Calls Try.prog 74 #[.int .u64 s] w fun e w' => e = .returned (.int .i64 ((bitsOfT s).length : Int)) ∧ w = w' := by
  have H := Lib.hid (ones64_smallT s hs w)
  go_enter Try.func74, Try.ntmps74
  go_wp2_with fail
  refine H.out.mono ?_
  rintro e w' ⟨rfl, rfl⟩
  go_wp2
  go_ret
  exact ⟨rfl, rfl⟩
end Go.Proofs.Ytkgomgfhhhdnjaa
