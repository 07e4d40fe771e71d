/-
  Where both stand behind a going, and who goes, walked.
  Conditions: places in 0..50.
-/
import Derived.Test.YthgllpiclaihjaaJB
namespace Go.Proofs.Ythgllpiclaihjaa
open Go.ChangeShapes Go.WideShapes Go.ChangeAt Go.RowKit
set_option linter.unusedVariables false
set_option maxRecDepth 4000

theorem as_ll (v : Value) (w : World) : (Instr.typeAssert (.iface 65 v) 60 65 true).run Try.prog w = .ok (.tuple #[v, .bool true]) w := by kernel_rfl
theorem as_hh (v : Value) (w : World) : (Instr.typeAssert (.iface 66 v) 60 66 true).run Try.prog w = .ok (.tuple #[v, .bool true]) w := by kernel_rfl
theorem as_bb (v : Value) (w : World) : (Instr.typeAssert (.iface 68 v) 60 68 true).run Try.prog w = .ok (.tuple #[v, .bool true]) w := by kernel_rfl
theorem as_hl (v : Value) (w : World) : (Instr.typeAssert (.iface 66 v) 60 65 true).run Try.prog w = .ok (.tuple #[.agg #[.int .i64 0, .int .i64 0], .bool false]) w := by kernel_rfl
theorem as_bl (v : Value) (w : World) : (Instr.typeAssert (.iface 68 v) 60 65 true).run Try.prog w = .ok (.tuple #[.agg #[.int .i64 0, .int .i64 0], .bool false]) w := by kernel_rfl
theorem as_bh (v : Value) (w : World) : (Instr.typeAssert (.iface 68 v) 60 66 true).run Try.prog w = .ok (.tuple #[.agg #[.int .i64 0, .int .i64 0], .bool false]) w := by kernel_rfl

set_option maxHeartbeats 800000 in
theorem behindLow_any (a b f c : Int) (w : World) :
    Calls Try.prog 62 #[.agg #[.int .i64 a, .int .i64 b], .iface 65 (.agg #[.int .i64 f, .int .i64 c])] w fun e w' => e = .returned (.agg #[.int .i64 (min c b), .int .i64 (max c b)]) ∧ Below w.heap.size w w' := by
  have f_as_ll := as_ll
  rcases Int.lt_trichotomy c b with h | h | h
  · rw [Int.min_eq_left (Int.le_of_lt h), Int.max_eq_right (Int.le_of_lt h)]
    go_enter Try.func62, Try.ntmps62
    go_wp2
    exact bodyPost_ret (v := .agg #[.int .i64 c, .int .i64 b]) (by simp [results, Try.results62, go_sem]) rfl ⟨rfl, (((Below.refl _ _).alloc (Nat.le_refl _) _).alloc (by simp [go_sem]) _).alloc (by simp [go_sem]; omega) _⟩
  · subst h
    rw [Int.min_self, Int.max_self]
    go_enter Try.func62, Try.ntmps62
    go_wp2
    all_goals exact bodyPost_ret (v := .agg #[.int .i64 c, .int .i64 c]) (by simp [results, Try.results62, go_sem]) rfl ⟨rfl, (((Below.refl _ _).alloc (Nat.le_refl _) _).alloc (by simp [go_sem]) _).alloc (by simp [go_sem]; omega) _⟩
  · rw [Int.min_eq_right (Int.le_of_lt h), Int.max_eq_left (Int.le_of_lt h)]
    go_enter Try.func62, Try.ntmps62
    go_wp2
    exact bodyPost_ret (v := .agg #[.int .i64 b, .int .i64 c]) (by simp [results, Try.results62, go_sem]) rfl ⟨rfl, (((Below.refl _ _).alloc (Nat.le_refl _) _).alloc (by simp [go_sem]) _).alloc (by simp [go_sem]; omega) _⟩

set_option maxHeartbeats 800000 in
theorem behindHigh_any (a b f c : Int) (w : World) :
    Calls Try.prog 62 #[.agg #[.int .i64 a, .int .i64 b], .iface 66 (.agg #[.int .i64 f, .int .i64 c])] w fun e w' => e = .returned (.agg #[.int .i64 (min a c), .int .i64 (max a c)]) ∧ Below w.heap.size w w' := by
  have f_as_hl := as_hl
  have f_as_hh := as_hh
  rcases Int.lt_trichotomy a c with h | h | h
  · rw [Int.min_eq_left (Int.le_of_lt h), Int.max_eq_right (Int.le_of_lt h)]
    go_enter Try.func62, Try.ntmps62
    go_wp2
    exact bodyPost_ret (v := .agg #[.int .i64 a, .int .i64 c]) (by simp [results, Try.results62, go_sem]) rfl ⟨rfl, (((Below.refl _ _).alloc (Nat.le_refl _) _).alloc (by simp [go_sem]) _).alloc (by simp [go_sem]; omega) _⟩
  · subst h
    rw [Int.min_self, Int.max_self]
    go_enter Try.func62, Try.ntmps62
    go_wp2
    all_goals exact bodyPost_ret (v := .agg #[.int .i64 a, .int .i64 a]) (by simp [results, Try.results62, go_sem]) rfl ⟨rfl, (((Below.refl _ _).alloc (Nat.le_refl _) _).alloc (by simp [go_sem]) _).alloc (by simp [go_sem]; omega) _⟩
  · rw [Int.min_eq_right (Int.le_of_lt h), Int.max_eq_left (Int.le_of_lt h)]
    go_enter Try.func62, Try.ntmps62
    go_wp2
    exact bodyPost_ret (v := .agg #[.int .i64 c, .int .i64 a]) (by simp [results, Try.results62, go_sem]) rfl ⟨rfl, (((Below.refl _ _).alloc (Nat.le_refl _) _).alloc (by simp [go_sem]) _).alloc (by simp [go_sem]; omega) _⟩

set_option maxHeartbeats 800000 in
theorem behindBoth_any (a b d : Int) (w : World) (h1 : -1000 ≤ a) (h2 : a ≤ 1000) (h3 : -1000 ≤ b) (h4 : b ≤ 1000) (h5 : 0 ≤ d) (h6 : d ≤ 1000) :
    Calls Try.prog 62 #[.agg #[.int .i64 a, .int .i64 b], .iface 68 (.agg #[.int .i64 d])] w fun e w' => e = .returned (.agg #[.int .i64 (a + d), .int .i64 (b - d)]) ∧ Below w.heap.size w w' := by
  have f1 := as_bl
  have f2 := as_bh
  have f3 := as_bb
  go_enter Try.func62, Try.ntmps62
  go_wp2
  exact bodyPost_ret (v := .agg #[.int .i64 (a + d), .int .i64 (b - d)]) (by simp [results, Try.results62, go_sem]) rfl ⟨rfl, (((Below.refl _ _).alloc (Nat.le_refl _) _).alloc (by simp [go_sem]) _).alloc (by simp [go_sem]; omega) _⟩

set_option maxHeartbeats 800000 in
theorem nearer_any (a b c : Int) (w : World) (ha : P50 a) (hb : P50 b) (hc : P50 c) :
    Calls Try.prog 50 #[.agg #[.int .i64 a, .int .i64 b], .int .i64 c] w fun e w' => e = .returned (if gapI a c ≤ gapI b c then .iface 65 (.agg #[.int .i64 a, .int .i64 c]) else .iface 66 (.agg #[.int .i64 b, .int .i64 c])) ∧ Below w.heap.size w w' := by
  have HB := Lib.hid ((Below.refl w.heap.size w).alloc (Nat.le_refl _) (.cells #[.int .i64 a, .int .i64 b] 45))
  have HD := Lib.hid (fun u v W (hu : P50 u) (hv : P50 v) => distance_any u v W (by have := hu.1; omega) (by have := hu.2; omega) (by have := hv.1; omega) (by have := hv.2; omega))
  obtain ⟨W, HW⟩ : ∃ W, Hid (w.alloc (.cells #[.int .i64 a, .int .i64 b] 45) = W) := ⟨_, rfl⟩
  have c0 : W.cell? ⟨w.heap.size, 0, none⟩ = some (.int .i64 a) := by rw [← HW.out, cell_of_row _ _ _ _ _ _ (heap_alloc_new w _)]; rfl
  have c1 : W.cell? ⟨w.heap.size, 1, none⟩ = some (.int .i64 b) := by rw [← HW.out, cell_of_row _ _ _ _ _ _ (heap_alloc_new w _)]; rfl
  rw [HW.out] at HB
  by_cases h : gapI a c ≤ gapI b c
  · rw [if_pos h]
    go_enter Try.func50, Try.ntmps50
    go_wp2
    rw [HW.out]
    go_quiet ((go_at_call 57; exact quiet_gen (HD.out _ _ _ (by assumption) (by assumption)) ⟨_, rfl⟩))
    go_wp2
    go_ret
    exact ⟨rfl, below_drewN HB.out _⟩
  · rw [if_neg h]
    go_enter Try.func50, Try.ntmps50
    go_wp2
    rw [HW.out]
    go_quiet ((go_at_call 57; exact quiet_gen (HD.out _ _ _ (by assumption) (by assumption)) ⟨_, rfl⟩))
    go_wp2
    go_ret
    exact ⟨rfl, below_drewN HB.out _⟩

set_option maxHeartbeats 800000 in
theorem workLeft_any (a b x y : Int) (g k : Nat) (w : World) (ha : P50 a) (hb : P50 b) (hx : P50 x) (hy : P50 y) (hg : w.cell? ⟨g, 0, none⟩ = some (.int .i64 x)) (hk : w.cell? ⟨k, 0, none⟩ = some (.int .i64 y)) :
    Calls Try.prog 56 #[.agg #[.int .i64 a, .int .i64 b], .pointer (some ⟨g, 0, none⟩), .pointer (some ⟨k, 0, none⟩)] w fun e w' => e = .returned (.int .i64 (gapI a x + gapI b y)) ∧ Below w.heap.size w w' := by
  have HB := Lib.hid ((Below.refl w.heap.size w).alloc (Nat.le_refl _) (.cells #[.int .i64 a, .int .i64 b] 45))
  have HD := Lib.hid (fun u v W (hu : P50 u) (hv : P50 v) => distance_any u v W (by have := hu.1; omega) (by have := hu.2; omega) (by have := hv.1; omega) (by have := hv.2; omega))
  obtain ⟨W, HW⟩ : ∃ W, Hid (w.alloc (.cells #[.int .i64 a, .int .i64 b] 45) = W) := ⟨_, rfl⟩
  have c0 : W.cell? ⟨w.heap.size, 0, none⟩ = some (.int .i64 a) := by rw [← HW.out, cell_of_row _ _ _ _ _ _ (heap_alloc_new w _)]; rfl
  have c1 : W.cell? ⟨w.heap.size, 1, none⟩ = some (.int .i64 b) := by rw [← HW.out, cell_of_row _ _ _ _ _ _ (heap_alloc_new w _)]; rfl
  rw [HW.out] at HB
  have hgl : g < w.heap.size := World.block_lt_of_cell? w _ hg
  have hkl : k < w.heap.size := World.block_lt_of_cell? w _ hk
  have cg : W.cell? ⟨g, 0, none⟩ = some (.int .i64 x) := (HB.out.cell hgl).trans hg
  have ck : W.cell? ⟨k, 0, none⟩ = some (.int .i64 y) := (HB.out.cell hkl).trans hk
  have hu := gapI_in50 ha.1 ha.2 hx.1 hx.2
  have hv := gapI_in50 hb.1 hb.2 hy.1 hy.2
  have hu0 := gapI_nonneg a x
  have hv0 := gapI_nonneg b y
  have hw : IntKind.i64.wrap (gapI a x + gapI b y) = gapI a x + gapI b y := IntWalk.i64_in _ (by omega)
  go_enter Try.func56, Try.ntmps56
  go_wp2
  rw [HW.out]
  go_quiet ((go_at_call 57; exact quiet_gen (HD.out _ _ _ (by assumption) (by assumption)) ⟨_, rfl⟩))
  go_wp2
  go_ret
  exact ⟨rfl, below_drewN HB.out _⟩
end Go.Proofs.Ythgllpiclaihjaa
