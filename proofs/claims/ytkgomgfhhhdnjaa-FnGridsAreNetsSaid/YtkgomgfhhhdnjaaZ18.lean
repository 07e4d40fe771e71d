/-
  addStreet of the program, walked.
  Conditions: a table with the net's bounds, a street of the net.
  The library's Mul at small numbers; Clone and Repeat of a slice of ints.
  Conditions: as each theorem states.
  Repeat of a slice of ints.
  Conditions: as each theorem states.
  tableWithoutStreets of the program, walked.
  Conditions: one to seven nodes.
  ValidNet of the program, walked: the search for a street that is no street of a net.
  Conditions: fewer than 2^60 streets.
  NetTable of the program, walked: street by street until nothing changes.
  Conditions: at most 2^20 streets.
  NetCover and NetApart of the program, walked.
  Conditions: at most 2^20 streets.
-/
import Derived.Test.YtkgomgfhhhdnjaaZ17
import Derived.Test.YtkgomgfhhhdnjaaZ2
import Derived.Test.YtkgomgfhhhdnjaaZ3
import Derived.Test.YtkgomgfhhhdnjaaZ4
import Derived.Test.YtkgomgfhhhdnjaaZ5
import Derived.Test.YtkgomgfhhhdnjaaZ7
import Derived.Deep.RegionWith
import Derived.StillTailTactics
import Derived.Shelf.Bits.Mul64
import Derived.Laws.CopyOwn
import Derived.WalkSpells
import Derived.Deep.AppendLies
import Derived.Deep.LoopGhost
namespace Go.Proofs.Ytkgomgfhhhdnjaa
open Go.ChangeShapes Go.WideShapes Go.ChangeAt Go.RowKit
set_option linter.unusedVariables false
set_option maxRecDepth 4000

set_option maxHeartbeats 1600000 in
theorem addStreet_any (w : World) (B n g c u v : Nat) (VR : Nat → Value) (ss : List Str) (X0 : Nat → Nat → Int) (L : Int) (hn7 : n ≤ 7) (hX : Rlx ss n X0) (hO : Outer w B n (.slice (some ⟨g, 0, none⟩) n c) VR) (hT : TT w B n VR (rowX X0 n))
    (hBw : B ≤ w.heap.size) (hu : u < n) (hv : v < n) (hL : 1 ≤ L ∧ L ≤ 9) (he : SE ss u v L) :
    Calls Try.prog 83 #[.slice (some ⟨g, 0, none⟩) n c, .agg #[.int .i64 u, .int .i64 v, .int .i64 L]] w (StepT w B n g c VR ss X0 (∀ a, a < n → Cz X0 a u v L ∧ Cz X0 a v u L)) := by
  have HX := Lib.hid hX
  have HO := Lib.hid hO
  have HT := Lib.hid hT
  have He := Lib.hid he
  have hb0 := (Below.refl B w).alloc hBw (.cells #[.int .i64 u, .int .i64 v, .int .i64 L] 40)
  have hbs := (Below.refl w.heap.size w).alloc (Nat.le_refl _) (.cells #[.int .i64 u, .int .i64 v, .int .i64 L] 40)
  have hcs : (w.alloc (.cells #[.int .i64 u, .int .i64 v, .int .i64 L] 40)).heap[w.heap.size]? = some (.cells #[.int .i64 u, .int .i64 v, .int .i64 L] 40) := heap_alloc_new w _
  have hk0 := (KeepI.refl w).alloc (.cells #[.int .i64 u, .int .i64 v, .int .i64 L] 40)
  have HO0 := Lib.hid (ownN_below hO hbs)
  have HT0 := Lib.hid (hT.below hbs)
  have HB0 := Lib.hid hb0
  have HK0 := Lib.hid hk0
  have HS0 := Lib.hid hcs
  clear hX hO hT he hb0 hbs hcs hk0
  go_enter Try.func83, Try.ntmps83
  go_wp2
  go_loopw [5, 12] (fun b i wr => ∃ a : Nat, ∃ X t, a ≤ n ∧ i = .int .i64 a ∧ b = .bool t ∧ Hid (Rlx ss n X) ∧ Hid (Chg X0 X n t (∀ k, k < a → Cz X0 k u v L ∧ Cz X0 k v u L)) ∧ Hid (Outer wr B n (.slice (some ⟨g, 0, none⟩) n c) VR) ∧ Hid (TT wr B n VR (rowX X n)) ∧ Hid (Below B w wr) ∧ Hid (KeepI w wr) ∧ Hid (wr.heap[w.heap.size]? = some (.cells #[.int .i64 u, .int .i64 v, .int .i64 L] 40))) (fun _ i _ => n - (intOf i).toNat)
  case atStart => exact ⟨0, X0, false, by omega, rfl, rfl, HX, .inr ⟨rfl, rfl, fun k hk => by omega⟩, HO0, HT0, HB0, HK0, HS0⟩
  case round =>
    clear HO0 HT0 HB0 HK0 HS0
    obtain ⟨a, X, t, ha, rfl, rfl, HX1, HC1, HO1, HT1, HB1, HK1, HS1⟩ := hrel
    by_cases hlt : a < n
    · obtain ⟨gr, cr, hVR, cg, cu, -⟩ := tab_cells HO1.out HT1.out hlt hu
      obtain ⟨gr', cr', hVR', -, cv, -⟩ := tab_cells HO1.out HT1.out hlt hv
      have hsame := hVR.symm.trans hVR'
      injection hsame with e1 e2 e3
      injection e1 with e1
      injection e1 with e1
      subst e1 e3
      have s0 : wr.cell? ⟨w.heap.size, 0, none⟩ = some (.int .i64 u) := by rw [cell_of_row _ _ _ _ _ _ HS1.out]; rfl
      have s1 : wr.cell? ⟨w.heap.size, 1, none⟩ = some (.int .i64 v) := by rw [cell_of_row _ _ _ _ _ _ HS1.out]; rfl
      have s2 : wr.cell? ⟨w.heap.size, 2, none⟩ = some (.int .i64 L) := by rw [cell_of_row _ _ _ _ _ _ HS1.out]; rfl
      have hbu := HX1.out.le hn7 hlt hu
      obtain ⟨xu, Hxu⟩ : ∃ x, Hid (X a u = x) := ⟨_, rfl⟩
      rw [Hxu.out] at cu hbu
      have Hj : Hid (∀ W, Calls Try.prog 92 #[.int .i64 xu, .int .i64 L] W fun e w' => e = .returned (.int .i64 (jn xu L)) ∧ w' = W) := fun W => (joined_any xu L W (by omega) (by omega)).mono fun _ _ ⟨h1, h2⟩ => ⟨h1, h2.symm⟩
      go_wp2
      refine wp_region_still_tail 11 (by kernel_rfl) (by kernel_rfl) ?_
      simp only [List.take_succ_cons, List.take_zero, List.drop_succ_cons, List.drop_zero]
      obtain ⟨wd, HWD⟩ : ∃ W, Hid (wr.drewN 1 = W) := ⟨_, rfl⟩
      have HO2 := Lib.hid (HO1.out.drewN 1)
      have HT2 := Lib.hid (HT1.out.drewN 1)
      have HB2 := Lib.hid (below_drewN HB1.out 1)
      have HK2 := Lib.hid (HK1.out.drewN 1)
      have HS2 : Hid ((wr.drewN 1).heap[w.heap.size]? = some (.cells #[.int .i64 u, .int .i64 v, .int .i64 L] 40)) := HS1.out
      have cu2 : (wr.drewN 1).cell? ⟨gr, u, none⟩ = some (.int .i64 xu) := cu
      have s02 : (wr.drewN 1).cell? ⟨w.heap.size, 0, none⟩ = some (.int .i64 u) := s0
      have s12 : (wr.drewN 1).cell? ⟨w.heap.size, 1, none⟩ = some (.int .i64 v) := s1
      have s22 : (wr.drewN 1).cell? ⟨w.heap.size, 2, none⟩ = some (.int .i64 L) := s2
      clear cu s0 s1 s2 cv cg
      show wpStill Try.prog _ (wr.drewN 1) (fun a' => wpList Try.prog _ _ _ a' (wr.drewN 1)) _ _
      rw [HWD.out] at HO2 HT2 HB2 HK2 HS2 cu2 s02 s12 s22 ⊢
      repeat still_step
      still_call (Hj.out wd)
      repeat still_step
      try refine wpStill_nil ?_
      have Hsh := Lib.hid (shortenT_any wd B n g c a u v gr cr VR ss X L hn7 HX1.out HO2.out HT2.out hVR hlt hu hv hL He.out)
      rw [Hxu.out] at Hsh
      clear cu2 s02 s12 s22 Hxu Hj hbu
      go_wp2_with fail
      refine Hsh.out.mono ?_
      rintro e w2 ⟨X1, t1, rfl, hX1, hC1, hO1, hT1, hB1, hK1⟩
      have hS3 := hK1 _ _ _ _ (by decide) HS2.out
      have s0 : w2.cell? ⟨w.heap.size, 0, none⟩ = some (.int .i64 u) := by rw [cell_of_row _ _ _ _ _ _ hS3]; rfl
      have s1 : w2.cell? ⟨w.heap.size, 1, none⟩ = some (.int .i64 v) := by rw [cell_of_row _ _ _ _ _ _ hS3]; rfl
      have s2 : w2.cell? ⟨w.heap.size, 2, none⟩ = some (.int .i64 L) := by rw [cell_of_row _ _ _ _ _ _ hS3]; rfl
      obtain ⟨gr', cr', hVR', -, cv, -⟩ := tab_cells hO1 hT1 hlt hv
      have hsame := hVR.symm.trans hVR'
      injection hsame with e1 e2 e3
      injection e1 with e1
      injection e1 with e1
      subst e1 e3
      have hbu := hX1.le hn7 hlt hv
      obtain ⟨xv, Hxv⟩ : ∃ x, Hid (X1 a v = x) := ⟨_, rfl⟩
      rw [Hxv.out] at cv hbu
      have Hj : Hid (∀ W, Calls Try.prog 92 #[.int .i64 xv, .int .i64 L] W fun e w' => e = .returned (.int .i64 (jn xv L)) ∧ w' = W) := fun W => (joined_any xv L W (by omega) (by omega)).mono fun _ _ ⟨h1, h2⟩ => ⟨h1, h2.symm⟩
      have HX4 := Lib.hid hX1
      have HC4 := Lib.hid (HC1.out.two hC1 (E := ∀ k, k < a + 1 → (k < a → Cz X0 k v u L) ∧ Cz X0 k u v L) (fun h1 h2 h3 h4 k hk => by
        by_cases e : k = a
        · subst e; exact ⟨fun h => by omega, by rw [h1]; exact h4⟩
        · exact ⟨fun _ => (h3 k (by omega)).2, (h3 k (by omega)).1⟩))
      have HO5 := Lib.hid (hO1.drewN 1)
      have HT5 := Lib.hid (hT1.drewN 1)
      have HB5 := Lib.hid (below_drewN (HB2.out.trans hB1) 1)
      have HK5 := Lib.hid ((HK2.out.trans hK1).drewN 1)
      have HS5 : Hid ((w2.drewN 1).heap[w.heap.size]? = some (.cells #[.int .i64 u, .int .i64 v, .int .i64 L] 40)) := hS3
      clear hX1 hC1 hO1 hT1 hB1 hK1 hS3 HC1 HO1 HT1 HB1 HK1 HS1 HO2 HT2 HB2 HK2 HS2 HX1
      go_wp2
      refine wp_region_still_tail 11 (by kernel_rfl) (by kernel_rfl) ?_
      simp only [List.take_succ_cons, List.take_zero, List.drop_succ_cons, List.drop_zero]
      obtain ⟨wz, HWZ⟩ : ∃ W, Hid (w2.drewN 1 = W) := ⟨_, rfl⟩
      have cv2 : (w2.drewN 1).cell? ⟨gr, v, none⟩ = some (.int .i64 xv) := cv
      have s02 : (w2.drewN 1).cell? ⟨w.heap.size, 0, none⟩ = some (.int .i64 u) := s0
      have s12 : (w2.drewN 1).cell? ⟨w.heap.size, 1, none⟩ = some (.int .i64 v) := s1
      have s22 : (w2.drewN 1).cell? ⟨w.heap.size, 2, none⟩ = some (.int .i64 L) := s2
      clear cv s0 s1 s2
      show wpStill Try.prog _ (w2.drewN 1) (fun a' => wpList Try.prog _ _ _ a' (w2.drewN 1)) _ _
      rw [HWZ.out] at HO5 HT5 HB5 HK5 HS5 cv2 s02 s12 s22 ⊢
      repeat still_step
      still_call (Hj.out wz)
      repeat still_step
      try refine wpStill_nil ?_
      have Hsh2 := Lib.hid (shortenT_any wz B n g c a v u gr cr VR ss X1 L hn7 HX4.out HO5.out HT5.out hVR hlt hv hu hL He.out.symm)
      rw [Hxv.out] at Hsh2
      clear cv2 s02 s12 s22 Hxv Hj hbu
      go_wp2_with fail
      refine Hsh2.out.mono ?_
      rintro e w3 ⟨X2, t2, rfl, hX2, hC2, hO2, hT2, hB2, hK2⟩
      have HC6 := Lib.hid (HC4.out.two hC2 (E := ∀ k, k < a + 1 → Cz X0 k u v L ∧ Cz X0 k v u L) (fun h1 h2 h3 h4 k hk => by
        by_cases e : k = a
        · subst e; exact ⟨(h3 k hk).2, by rw [h1]; exact h4⟩
        · exact ⟨(h3 k hk).2, (h3 k hk).1 (by omega)⟩))
      have HX6 := Lib.hid hX2
      have HO6 := Lib.hid hO2
      have HT6 := Lib.hid hT2
      have HB6 := Lib.hid (HB5.out.trans hB2)
      have HK6 := Lib.hid (HK5.out.trans hK2)
      have HS6 := Lib.hid (hK2 _ _ _ _ (by decide) HS5.out)
      clear hX2 hC2 hO2 hT2 hB2 hK2 HC4 HO5 HT5 HB5 HK5 HS5 HX4
      cases t <;> cases t1 <;> cases t2
      all_goals
        go_wp2
        go_roundw
        case rel => exact ⟨a + 1, X2, _, by omega, by go_num, rfl, HX6, HC6, HO6, HT6, HB6, HK6, HS6⟩
        case measure => simp [intOf]; omega
    · go_wp2
      go_ret
      exact ⟨X, t, rfl, HX1.out, HC1.out.imp fun h k hk => h k (by omega), HO1.out, HT1.out, HB1.out, HK1.out⟩
end Go.Proofs.Ytkgomgfhhhdnjaa
namespace Go.Proofs.Ytkgomgfhhhdnjaa
open Go.ChangeShapes Go.WideShapes Go.ChangeAt Go.RowKit
set_option linter.unusedVariables false

theorem mask_small (a : Nat) (ha : a ≤ 1000000) : bits .and .u64 (a : Int) 4294967295 = (a : Int) := by
  rw [Mul64.maskN a (by omega), Nat.mod_eq_of_lt (by omega)]
theorem high_small (a : Nat) (ha : a ≤ 1000000) : (a : Int) / 4294967296 = 0 := by omega
theorem wrap_small (a : Nat) (ha : a ≤ 1000000) : IntKind.u64.wrap (a : Int) = (a : Int) := Mul64.wrapN a (by omega)
theorem mul_high (x y : Nat) (hx : x ≤ 1000) (hy : y ≤ 1000) : IntKind.u64.wrap (IntKind.u64.wrap (IntKind.u64.wrap ((x : Int) / 4294967296 * ((y : Int) / 4294967296)) + IntKind.u64.wrap (IntKind.u64.wrap ((x : Int) / 4294967296 * bits BinOp.and IntKind.u64 (y : Int) 4294967295) + IntKind.u64.wrap (bits BinOp.and IntKind.u64 (x : Int) 4294967295 * bits BinOp.and IntKind.u64 (y : Int) 4294967295) / 4294967296) / 4294967296) + IntKind.u64.wrap (bits BinOp.and IntKind.u64 (IntKind.u64.wrap (IntKind.u64.wrap ((x : Int) / 4294967296 * bits BinOp.and IntKind.u64 (y : Int) 4294967295) + IntKind.u64.wrap (bits BinOp.and IntKind.u64 (x : Int) 4294967295 * bits BinOp.and IntKind.u64 (y : Int) 4294967295) / 4294967296)) 4294967295 + IntKind.u64.wrap (bits BinOp.and IntKind.u64 (x : Int) 4294967295 * ((y : Int) / 4294967296))) / 4294967296) = 0 := by
  have hxy : x * y ≤ 1000 * 1000 := Nat.mul_le_mul hx hy
  have hm := mask_small 0 (by omega)
  have hw := wrap_small 0 (by omega)
  simp only [mask_small x (by omega), mask_small y (by omega), high_small x (by omega), high_small y (by omega), Mul64.mulN, wrap_small (x * y) (by omega), high_small (x * y) (by omega)]
  simp at hm hw ⊢
  simp [hm, hw]

set_option maxHeartbeats 1000000 in
theorem mul64_small (x y : Nat) (hx : x ≤ 1000) (hy : y ≤ 1000) (w : World) :
    Calls Try.prog 97 #[.int .u64 x, .int .u64 y] w fun e w' => e = .returned (.tuple #[.int .u64 0, .int .u64 ((x * y : Nat) : Int)]) ∧ w = w' := by
  have Hh := Lib.hid (mul_high x y hx hy)
  have hxy : x * y ≤ 1000 * 1000 := Nat.mul_le_mul hx hy
  go_enter Try.func97, Try.ntmps97
  go_wp2
  go_ret2
  refine ⟨?_, rfl⟩
  show Ending.returned (.tuple #[.int .u64 _, .int .u64 _]) = _
  rw [Hh.out, Mul64.mulN]
set_option maxHeartbeats 1000000 in
theorem mul_small (x y : Nat) (hx : x ≤ 1000) (hy : y ≤ 1000) (w : World) :
    Calls Try.prog 94 #[.int .u64 x, .int .u64 y] w fun e w' => e = .returned (.tuple #[.int .u64 0, .int .u64 ((x * y : Nat) : Int)]) ∧ w = w' := by
  obtain ⟨p, Hp⟩ : ∃ p, Hid (x * y = p) := ⟨_, rfl⟩
  have H := Lib.hid (mul64_small x y hx hy w)
  rw [Hp.out] at H ⊢
  go_enter Try.func94, Try.ntmps94
  go_wp2_with (go_at_call 97; refine H.out.mono ?_; rintro e w' ⟨rfl, rfl⟩)
  go_ret2
  exact ⟨rfl, rfl⟩
end Go.Proofs.Ytkgomgfhhhdnjaa
namespace Go.Proofs.Ytkgomgfhhhdnjaa
open Go.ChangeShapes Go.WideShapes Go.ChangeAt Go.RowKit
set_option linter.unusedVariables false
set_option maxRecDepth 20000

def OwnedList (w : World) (zs : List Int) (e : Ending) (w' : World) : Prop :=
  ∃ v, e = .returned v ∧ w'.ownsRow w.heap.size 3 1 v zs.length (zs.map (Value.int .i64)) ∧ Below w.heap.size w w'

theorem splice_rep (x : Int) (L m j : Nat) (hm : m + j ≤ L) : splice (List.replicate m (Value.int .i64 x) ++ List.replicate (L - m) (Value.int .i64 0)) m (List.replicate j (Value.int .i64 x)) = List.replicate (m + j) (Value.int .i64 x) ++ List.replicate (L - (m + j)) (Value.int .i64 0) := by
  unfold splice
  rw [List.take_append_of_le_length (by simp), List.take_of_length_le (by simp), List.drop_append]
  simp only [List.length_replicate, List.drop_replicate]
  rw [show m - (m + j) = 0 by omega, show L - m - (m + j - m) = L - (m + j) by omega]
  simp only [List.replicate_zero, List.nil_append]
  rw [← List.append_assoc, List.replicate_append_replicate]
theorem mul_one_any (L : Nat) (hL : L ≤ 1000) (w : World) :
    Calls Try.prog 94 #[.int .u64 1, .int .u64 L] w fun e w' => e = .returned (.tuple #[.int .u64 0, .int .u64 (L : Int)]) ∧ w = w' := by
  have h := mul_small 1 L (by omega) hL w
  rw [Nat.one_mul] at h
  exact h

theorem own_block {w : World} {B b n : Nat} {xs : List Value} (h : w.ownsRow B 3 1 (.slice (some ⟨b, 0, none⟩) n n) n xs) : w.heap[b]? = some (.cells xs.toArray 3 (0, 0)) := by
  obtain ⟨h0, h1⟩ := h
  rcases h1 with ⟨h1, _⟩ | ⟨g, cap, cur, hv, _, hh, _, _, hs, ht⟩
  · cases h1
  · injection hv with h1 h2 h3
    injection h1 with h1
    injection h1 with h1
    subst h1 h3
    have : cur = xs.toArray := by
      rw [List.take_of_length_le (by rw [Array.length_toList, hs]; exact Nat.le_refl _)] at ht
      rw [← ht]
    rw [← this]
    exact hh
theorem intSize : (Try.prog.info? 3).map (·.size) = some 1 := by kernel_rfl
theorem rep_min {L : Nat} (h : 1 ≤ L) {x : Int} : ([Value.int .i64 x]).length = Nat.min 1 L := by
  show 1 = min 1 L
  omega
theorem rep_fit {L : Nat} (h : 1 ≤ L) {x : Int} : 0 + ([Value.int .i64 x]).length ≤ (List.replicate L (Value.int .i64 0)).length := by simp; omega
theorem one_cell {w : World} {g : Nat} {x : Int} (h : w.cell? ⟨g, 0, none⟩ = some (.int .i64 x)) : ∀ j v, ([Value.int .i64 x])[j]? = some v → w.cell? ((⟨g, 0, none⟩ : Addr).add j) = some v := by
  intro j v hj
  match j, hj with
  | 0, hj => simp at hj; subst hj; simpa [Addr.add] using h
theorem one_one (x : Int) : ∀ v ∈ [Value.int .i64 x], v.oneCell' = true := by intro v hv; simp at hv; subst hv; rfl

theorem rep_made {w w1 : World} {L g : Nat} {x : Int} (hown1 : w1.ownsRow w.heap.size 3 1 (.slice (some ⟨w.heap.size, 0, none⟩) L L) L (madeCells (Value.int .i64 0).cells (L * 1)).toList) (hg1 : w.grownBy w1 none)
    (hg : g < w.heap.size) (hc : w.cell? ⟨g, 0, none⟩ = some (.int .i64 x)) :
    Hid (w1.heap[w.heap.size]? = some (.cells (List.replicate L (Value.int .i64 0)).toArray 3 (0, 0))) ∧ Hid (w1.cell? ⟨g, 0, none⟩ = some (.int .i64 x)) ∧ Below w.heap.size w w1 := by
  have hblk := own_block hown1
  rw [made_ints] at hblk
  have hnx1 : Below w.heap.size w w1 := (Below.refl _ _).grown hg1 (Nat.le_refl _) (fun j hj => by cases hj)
  exact ⟨hblk, (hnx1.cell (p := ⟨g, 0, none⟩) hg).trans hc, hnx1⟩

def reps (x : Int) (L m : Nat) : List Value := List.replicate m (Value.int .i64 x) ++ List.replicate (L - m) (Value.int .i64 0)
theorem reps_one (x : Int) {L : Nat} (h : 1 ≤ L) : splice (List.replicate L (Value.int .i64 0)) 0 [.int .i64 x] = reps x L 1 := by
  have := splice_rep x L 0 1 (by omega)
  simpa [reps] using this
theorem reps_length (x : Int) {L m : Nat} (h : m ≤ L) : (reps x L m).length = L := by simp [reps]; omega
theorem reps_min (x : Int) (m L : Nat) : (List.replicate (min m (L - m)) (Value.int .i64 x)).length = Nat.min m (L - m) := by exact List.length_replicate
theorem reps_fit (x : Int) {m L : Nat} (h : m ≤ L) : m + (List.replicate (min m (L - m)) (Value.int .i64 x)).length ≤ (reps x L m).length := by
  rw [reps_length x h, List.length_replicate]; omega
theorem reps_oneCell (x : Int) (j : Nat) : ∀ v ∈ List.replicate j (Value.int .i64 x), v.oneCell' = true := by
  intro v hv; rw [List.eq_of_mem_replicate hv]; rfl
theorem reps_cells {w : World} {b L m j : Nat} {x : Int} (h : w.heap[b]? = some (.cells (reps x L m).toArray 3 (0, 0))) (hj : j ≤ m) :
    ∀ i v, (List.replicate j (Value.int .i64 x))[i]? = some v → w.cell? ((⟨b, 0, none⟩ : Addr).add i) = some v := by
  intro i v hv
  have hi : i < j := by have := (List.getElem?_eq_some_iff.1 hv).1; simpa using this
  have he : (⟨b, 0, none⟩ : Addr).add i = ⟨b, i, none⟩ := by unfold Addr.add; split <;> simp_all
  rw [List.getElem?_replicate, if_pos hi] at hv
  rw [he, cell_of_row _ _ _ _ _ _ h, ← hv]
  simp [reps, List.getElem?_append_left (show i < (List.replicate m (Value.int .i64 x)).length by simp; omega), show i < m by omega]

theorem reps_done {w wr : World} {x : Int} {m : Nat} (h : wr.heap[w.heap.size]? = some (.cells (reps x m m).toArray 3 (0, 0))) (hnx : Below w.heap.size w wr) (hm : m ≤ 1000) :
    OwnedList w (List.replicate m x) (.returned (.slice (some ⟨w.heap.size, 0, none⟩) m m)) wr := by
  have e : reps x m m = (List.replicate m x).map (Value.int .i64) := by simp [reps]
  refine ⟨_, rfl, ⟨by simp, .inr ⟨w.heap.size, m, _, by simp, Nat.le_refl _, h, by simp, by unfold maxLen; omega, ?_, ?_⟩⟩, hnx⟩
  · rw [List.size_toArray, reps_length x (Nat.le_refl _), Nat.mul_one]
  · rw [e]
    rw [List.take_of_length_le (by simp)]

set_option maxHeartbeats 400000 in
theorem repeat_any (g L : Nat) (x : Int) (w : World) (hL : 1 ≤ L) (hL2 : L ≤ 1000) (hg : g < w.heap.size) (hc : w.cell? ⟨g, 0, none⟩ = some (.int .i64 x)) :
    Calls Try.prog 90 #[.slice (some ⟨g, 0, none⟩) 1 1, .int .i64 (L : Int)] w (OwnedList w (List.replicate L x)) := by
  obtain ⟨i0, hi0, hz0, hz1, hz2⟩ := info_parts intInfo
  go_enter Try.func90, Try.ntmps90
  go_wp2_with fail
  refine (mul_one_any L hL2 w).mono ?_
  rintro e w' ⟨rfl, rfl⟩
  go_wp2_with (first
    | (at_make; refine wpList_make_full _ rfl _ _ 25 rfl w.heap.size 3 i0 _ 1 Try.underlying25 hi0 hz0 hz1 _ _ _ _ L rfl rfl rfl rfl (by rw [hz2]; omega) (by unfold maxLen; omega) (Nat.le_refl _) ?_; intro w1 hown1 hg1; obtain ⟨Hblk, Hcx, hnx1⟩ := rep_made hown1 hg1 hg hc; clear hown1 hg1)
    | (with_reducible refine wpList_copy_splice rfl (.tmp 31) (.tmp 32) 25 25 rfl 3 Try.underlying25 intSize _ _ L L 1 1 rfl rfl w.heap.size 0 (List.replicate L (Value.int .i64 0)) 3 Hblk.out [.int .i64 x] (rep_min hL) (fun _ => ⟨rfl, _, rfl, one_cell Hcx.out⟩) (rep_fit hL) (one_one x) w.heap.size w hnx1 (Nat.le_refl _) ?_; intro w2 hb2 hnx2))
  have hb2' : w2.heap[w.heap.size]? = some (.cells (reps x L 1).toArray 3 (0, 0)) := by rw [← reps_one x hL]; exact hb2
  have Hb2 := Lib.hid hb2'
  clear hb2 hb2'
  go_loopw [8] (fun i wr => ∃ m : Nat, 1 ≤ m ∧ m ≤ L ∧ i = .int .i64 m ∧ Hid (wr.heap[w.heap.size]? = some (.cells (reps x L m).toArray 3 (0, 0))) ∧ Below w.heap.size w wr) (fun i _ => L - (intOf i).toNat)
  case atStart => exact ⟨1, Nat.le_refl _, hL, rfl, Hb2, hnx2⟩
  case round =>
    clear Hb2 hnx2
    obtain ⟨m, hm1, hm2, rfl, Hb, hnx⟩ := hrel
    by_cases hlt : m < L
    · have hLm : ¬ L = m := by omega
      have hj : min m (L - m) ≤ L - m := Nat.min_le_right _ _
      have hj1 : 1 ≤ min m (L - m) := by omega
      have HbD : Hid (wr.drew.heap[w.heap.size]? = some (.cells (reps x L m).toArray 3 (0, 0))) := Hb
      go_wp2
      go_region_law (refine step_copy_splice rfl (.tmp 41) (.tmp 44) 25 25 rfl 3 Try.underlying25 intSize (some ⟨w.heap.size, m, none⟩) (some ⟨w.heap.size, 0, none⟩) (L - m) (L - m) m L (by go_simp) (by go_simp) w.heap.size m (reps x L m) 3 HbD.out (List.replicate (min m (L - m)) (Value.int .i64 x)) (reps_min x m L) (fun _ => ⟨rfl, _, rfl, reps_cells HbD.out (Nat.min_le_left _ _)⟩) (reps_fit x hm2) (reps_oneCell x _) w.heap.size w hnx.drew (Nat.le_refl _) ?_; intro w4 hg4 hb4)
      have hb5 : w4.heap[w.heap.size]? = some (.cells (reps x L (m + min m (L - m))).toArray 3 (0, 0)) := by
        have h := hg4.out
        rw [show splice (reps x L m) m (List.replicate (min m (L - m)) (Value.int .i64 x)) = reps x L (m + min m (L - m)) from splice_rep x L m _ (by omega)] at h
        exact h
      have Hb5 := Lib.hid hb5
      clear hb5 hg4
      generalize hjj : min m (L - m) = j at *
      have Hjj := Lib.hid hjj
      clear hjj
      have hw : IntKind.i64.wrap ((m : Int) + (j : Int)) = (m : Int) + (j : Int) := IntWalk.i64_in _ (by omega)
      rw [hw]
      clear hw
      go_simp
      go_wp2
      go_roundw
      case rel => exact ⟨m + j, by omega, by omega, by go_num, Hb5, hb4⟩
      case measure => simp [intOf]; omega
    · obtain rfl : m = L := by omega
      go_wp2
      go_ret
      exact reps_done Hb.out hnx hL2
end Go.Proofs.Ytkgomgfhhhdnjaa
namespace Go.Proofs.Ytkgomgfhhhdnjaa
open Go.ChangeShapes Go.WideShapes Go.ChangeAt Go.RowKit
set_option linter.unusedVariables false
set_option maxRecDepth 4000

theorem rowX_own_set {n k : Nat} (hk : k < n) : (List.replicate n (-1 : Int)).set k 0 = rowX ownX n k := by
  unfold rowX ownX
  apply List.ext_getElem?
  intro i
  rw [List.getElem?_set]
  by_cases hi : i < n
  · by_cases e : k = i
    · subst e; simp [hi]
    · simp [hi, e]
  · simp [hi]; omega

set_option maxHeartbeats 1600000 in
theorem tableW_any (n : Nat) (w : World) (h1 : 1 ≤ n) (h7 : n ≤ 7) : Calls Try.prog 82 #[.int .i64 n] w (NTab w n ownX) := by
  obtain ⟨is, his, hzs0, hzs1, hzs2⟩ := info_parts slInfo2
  have hbi : is.bytes * n ≤ 281474976710656 := by rw [hzs2]; omega
  have hml : n ≤ maxLen := by unfold maxLen; omega
  go_enter Try.func82, Try.ntmps82
  go_wp2_with (at_make; refine wpList_make_full _ rfl _ _ 64 rfl w.heap.size 25 is _ 1 Try.underlying64 his hzs0 hzs1 _ _ _ _ n rfl rfl rfl rfl hbi hml (Nat.le_refl _) ?_; intro w1 hown1 hg1)
  have hb1 : Below w.heap.size w w1 := (Below.refl _ _).grown hg1 (Nat.le_refl _) (fun j hj => by cases hj)
  rw [Nat.mul_one, half_none] at hown1
  obtain ⟨G, HG⟩ : ∃ G, Hid (w.heap.size = G) := ⟨_, rfl⟩
  have ho1 : w1.ownsRow w.heap.size 25 1 (.slice (some ⟨G, 0, none⟩) n n) n (half (fun _ => .slice none 0 0) 0 n) := by rw [← HG.out]; exact hown1
  have hGB : w.heap.size ≤ G := Nat.le_of_eq HG.out
  rw [HG.out]
  have HO1 := Lib.hid ho1
  have HB1 := Lib.hid hb1
  clear hown1 hg1 ho1 hb1
  go_loopw [8] (fun i wr => ∃ k : Nat, ∃ VR, k ≤ n ∧ i = .int .i64 k ∧ wr.ownsRow w.heap.size 25 1 (.slice (some ⟨G, 0, none⟩) n n) n (half VR k n) ∧ TT wr w.heap.size k VR (rowX ownX n) ∧ Below w.heap.size w wr) (fun i _ => n - (intOf i).toNat)
  case atStart => exact ⟨0, fun _ => .slice none 0 0, Nat.zero_le _, rfl, HO1.out, ⟨fun j hj => by omega, fun i j g hi => by omega⟩, HB1.out⟩
  case round =>
    clear HO1 HB1
    obtain ⟨k, VR, hk, rfl, hO, hT, hnx⟩ := hrel
    by_cases hlt : k < n
    · have HO := Lib.hid hO
      have HT := Lib.hid hT
      have HB := Lib.hid hnx
      have hbl := (Below.refl wr.heap.size wr).alloc (Nat.le_refl _) (.cells #[.int .i64 (-1)] 3)
      have hsz := size_alloc1 wr (.cells #[.int .i64 (-1)] 3)
      have Hrep := Lib.hid (repeat_any wr.heap.size n (-1) (wr.alloc (.cells #[.int .i64 (-1)] 3)) h1 (by omega) (by omega) (by rw [cell_of_row _ _ _ _ _ _ (heap_alloc_new wr _)]; rfl))
      have HBL := Lib.hid hbl
      have HSZ := Lib.hid hsz
      clear hO hT hnx hbl hsz
      go_wp2_with fail
      refine Hrep.out.mono ?_
      rintro e wC ⟨v, rfl, hownC, hnxC⟩
      rw [List.length_replicate] at hownC
      have hbC : Below wr.heap.size wr wC := HBL.out.trans (hnxC.mono HBL.out.size)
      have hownD := ownN_base hownC (B' := wr.heap.size) HBL.out.size
      obtain ⟨A, c, rfl, -, -, hA⟩ := own_sliceN hownC
      obtain ⟨R, rfl, -, -⟩ := hA (by omega)
      obtain ⟨⟨x, cx⟩, fx, hst, hTT, hgB⟩ := tabH_step (ls := upd (rowX ownX n) k (List.replicate n (-1))) hlt HB.out.size (HT.out.congr (fun j hj => (upd_other _ _ (by omega)).symm)) HO.out hbC (by rw [upd_at, List.length_replicate]; exact hownD)
      obtain ⟨hT2, hRB⟩ := hTT.setAt (j := k) (n := n) (R := R) (c := c) (by omega) (by rw [upd_at, List.length_replicate]) (upd_at _ _ _) k 0
      have hrowR := hTT.own k (by omega)
      rw [upd_at, upd_at, List.length_replicate] at hrowR
      obtain ⟨⟨cs, hcs⟩, -, -⟩ := own_heap hrowR (g := R) rfl
      have hO2 := outer_setInt (b := k) (u := .int .i64 0) hst hcs
      have cr : (wC.setCell ⟨G, k, none⟩ (.slice (some ⟨R, 0, none⟩) n c)).cell? ⟨R, k, none⟩ = some (.int .i64 (-1)) := by
        rw [hrowR.cellAt k (by omega)]; simp [hlt]
      have fr := hrowR.frozenAt k
      have ck : (wC.setCell ⟨G, k, none⟩ (.slice (some ⟨R, 0, none⟩) n c)).cell? ⟨G, k, none⟩ = some (.slice (some ⟨R, 0, none⟩) n c) := by
        rw [hst.cellAt k (by omega)]; simp [half, hlt, upd_at]
      have hB2 := (((HB.out.trans (hbC.mono HB.out.size)).setCell (p := ⟨G, k, none⟩) hgB (.slice (some ⟨R, 0, none⟩) n c))).setCell (p := ⟨R, k, none⟩) hRB (.int .i64 0)
      have HO2 := Lib.hid hO2
      have HT2 := Lib.hid (hT2.congr (ls' := rowX ownX n) (fun j hj => by
        by_cases e : j = k
        · subst e; rw [upd_at, upd_at, rowX_own_set hlt]
        · rw [upd_other _ _ e, upd_other _ _ e]))
      have HB2 := Lib.hid hB2
      clear hO2 hT2 hB2 hrowR hcs hst hTT hownC hownD hbC hnxC hA
      go_wp2
      go_roundw
      case rel => exact ⟨k + 1, _, by omega, by go_num, HO2.out, HT2.out, HB2.out⟩
      case measure => simp [intOf]; omega
    · obtain rfl : k = n := by omega
      rw [half_all] at hO
      have HO := Lib.hid hO
      have HT := Lib.hid hT
      have HB := Lib.hid hnx
      clear hO hT hnx
      go_wp2
      go_ret
      exact ⟨_, VR, rfl, HO.out, HT.out, HB.out⟩
end Go.Proofs.Ytkgomgfhhhdnjaa
namespace Go.Proofs.Ytkgomgfhhhdnjaa
open Go.ChangeShapes Go.WideShapes Go.ChangeAt Go.RowKit
set_option linter.unusedVariables false
set_option maxRecDepth 4000

def okS (n x y z : Int) : Bool := decide (OkS n (x, y, z))
theorem netBad_any (n x y z : Int) (pb : Nat) (w : World) (hpb : pb < w.heap.size) (hc : w.cell? ⟨pb, 0, none⟩ = some (.int .i64 n)) :
    Calls Try.prog 80 #[.agg #[.int .i64 x, .int .i64 y, .int .i64 z], .pointer (some ⟨pb, 0, none⟩)] w fun e w' => e = .returned (.bool (!(okS n x y z))) ∧ Below w.heap.size w w' := by
  have hc2 : (w.alloc (.cells #[.int .i64 x, .int .i64 y, .int .i64 z] 40)).cell? ⟨pb, 0, none⟩ = some (.int .i64 n) := by rw [World.cell?_alloc_lt w _ _ hpb]; exact hc
  have HBW := Lib.hid ((Below.refl w.heap.size w).alloc (Nat.le_refl _) (.cells #[.int .i64 x, .int .i64 y, .int .i64 z] 40))
  clear hc hpb
  by_cases hx : 0 ≤ x ∧ x < n
  · have H1 := Lib.hid (fun W => validNode_is n x W (b := true) (by simp [hx.1, hx.2]))
    by_cases hy : 0 ≤ y ∧ y < n
    · have H2 := Lib.hid (fun W => validNode_is n y W (b := true) (by simp [hy.1, hy.2]))
      by_cases hz1 : z < 1
      · have hs : okS n x y z = false := decide_eq_false (fun h => by unfold OkS at h; simp only at h; omega)
        rw [hs]
        go_enter Try.func80, Try.ntmps80
        go_wp2_with fail
        refine (H1.out _).mono ?_
        rintro r w' ⟨rfl, rfl⟩
        go_wp2_with fail
        refine (H2.out _).mono ?_
        rintro r w' ⟨rfl, rfl⟩
        go_wp2
        go_ret
        exact ⟨rfl, HBW.out⟩
      · by_cases hz9 : 9 < z
        · have hs : okS n x y z = false := decide_eq_false (fun h => by unfold OkS at h; simp only at h; omega)
          rw [hs]
          go_enter Try.func80, Try.ntmps80
          go_wp2_with fail
          refine (H1.out _).mono ?_
          rintro r w' ⟨rfl, rfl⟩
          go_wp2_with fail
          refine (H2.out _).mono ?_
          rintro r w' ⟨rfl, rfl⟩
          go_wp2
          go_ret
          exact ⟨ret_bool (by simp), HBW.out⟩
        · have hs : okS n x y z = true := decide_eq_true (by unfold OkS; simp only; omega)
          rw [hs]
          go_enter Try.func80, Try.ntmps80
          go_wp2_with fail
          refine (H1.out _).mono ?_
          rintro r w' ⟨rfl, rfl⟩
          go_wp2_with fail
          refine (H2.out _).mono ?_
          rintro r w' ⟨rfl, rfl⟩
          go_wp2
          go_ret
          exact ⟨ret_bool (by simp; omega), HBW.out⟩
    · have H2 := Lib.hid (fun W => validNode_is n y W (b := false) (by simp; omega))
      have hs : okS n x y z = false := decide_eq_false (fun h => by unfold OkS at h; simp only at h; omega)
      rw [hs]
      go_enter Try.func80, Try.ntmps80
      go_wp2_with fail
      refine (H1.out _).mono ?_
      rintro r w' ⟨rfl, rfl⟩
      go_wp2_with fail
      refine (H2.out _).mono ?_
      rintro r w' ⟨rfl, rfl⟩
      go_wp2
      go_ret
      exact ⟨rfl, HBW.out⟩
  · have H1 := Lib.hid (fun W => validNode_is n x W (b := false) (by simp; omega))
    have hs : okS n x y z = false := decide_eq_false (fun h => by unfold OkS at h; simp only at h; omega)
    rw [hs]
    go_enter Try.func80, Try.ntmps80
    go_wp2_with fail
    refine (H1.out _).mono ?_
    rintro r w' ⟨rfl, rfl⟩
    go_wp2
    go_ret
    exact ⟨rfl, HBW.out⟩
theorem netBad_is (n x y z : Int) (pb : Nat) (w : World) (hpb : pb < w.heap.size) (hc : w.cell? ⟨pb, 0, none⟩ = some (.int .i64 n)) {b : Bool} (h : (!(okS n x y z)) = b) :
    Calls Try.prog 80 #[.agg #[.int .i64 x, .int .i64 y, .int .i64 z], .pointer (some ⟨pb, 0, none⟩)] w fun e w' => e = .returned (.bool b) ∧ Below w.heap.size w w' := by
  subst h; exact netBad_any n x y z pb w hpb hc

/-- All are streets of a net. -/
def okAll (n : Int) (ss : List Str) : Bool := decide (∀ p ∈ ss, OkS n p)
theorem okAll_end {n : Int} {ss : List Str} {k : Nat} (h : OkN n ss k) (hk : ss.length ≤ k) : okAll n ss = true := decide_eq_true fun p hp => by
  obtain ⟨i, hi, e⟩ := mem_getD3 hp
  rw [← e]; exact h i (by omega)
theorem okAll_no {n : Int} {ss : List Str} {k : Nat} {x y z : Int} (hk : k < ss.length) (hx : ss.getD k str0 = (x, y, z)) (h : ¬ OkS n (x, y, z)) : okAll n ss = false := decide_eq_false fun h' => h (by rw [← hx]; exact h' _ (getD_mem3 hk))
def NetIdx (n : Int) (ss : List Str) (w : World) (e : Ending) (w' : World) : Prop := ∃ r : Int, e = .returned (.int .i64 r) ∧ (okAll n ss = true → r = -1) ∧ (okAll n ss = false → 0 ≤ r) ∧ Below w.heap.size w w'
set_option maxHeartbeats 800000 in
theorem indexNet_any (n : Int) (A : Option Addr) (c m : Nat) (ss : List Str) (w : World) (B pb : Nat) (hr : RdS w B A ss) (hB : B ≤ w.heap.size) (hm : ss.length = m) (hb : m ≤ 1152921504606846976) (hpb : pb < w.heap.size) (hc : w.cell? ⟨pb, 0, none⟩ = some (.int .i64 n)) :
    Calls Try.prog 89 #[.slice A m c, .func (.func 80) #[] #[.pointer (some ⟨pb, 0, none⟩)]] w (NetIdx n ss w) := by
  have Hm := Lib.hid hm
  clear hm
  go_enter Try.func89, Try.ntmps89
  go_wp2
  go_loopw [8] (fun i wr => ∃ k : Nat, k ≤ m ∧ i = .int .i64 k ∧ Hid (OkN n ss k) ∧ Below w.heap.size w wr) (fun i _ => m - (intOf i).toNat)
  case atStart => exact ⟨0, by omega, rfl, OkN.zero _ _, Below.refl _ _⟩
  case round =>
    obtain ⟨k, hk, rfl, Ho, hnx⟩ := hrel
    have hc2 : wr.cell? ⟨pb, 0, none⟩ = some (.int .i64 n) := (hnx.cell (p := ⟨pb, 0, none⟩) hpb).trans hc
    by_cases hlt : k < m
    · obtain ⟨b, off, x, y, z, rfl, -, Hx, hcx, hcy, hcz⟩ := (hr.below (hnx.mono hB)).x (k := k) (by rw [Hm.out]; omega)
      by_cases h1 : OkS n (x, y, z)
      · have Hs := Lib.hid (Ho.out.step Hx.out h1.1.1 h1.1.2 h1.2.1.1 h1.2.1.2 h1.2.2.1 h1.2.2.2)
        have Hf := Lib.hid (netBad_is n x y z pb wr (Nat.lt_of_lt_of_le hpb hnx.size) hc2 (b := false) (by unfold okS; rw [decide_eq_true h1]; rfl))
        clear h1 hc2
        go_wp2_with fail
        refine Hf.out.mono ?_
        rintro e w' ⟨rfl, hnx2⟩
        go_wp2
        go_roundw
        case rel => exact ⟨k + 1, by omega, by go_num, Hs, hnx.trans (hnx2.mono hnx.size)⟩
        case measure => simp [intOf]; omega
      · have Hs := Lib.hid (okAll_no (by rw [Hm.out]; exact hlt) Hx.out h1)
        have Hf := Lib.hid (netBad_is n x y z pb wr (Nat.lt_of_lt_of_le hpb hnx.size) hc2 (b := true) (by unfold okS; rw [decide_eq_false h1]; rfl))
        clear h1 hc2
        go_wp2_with fail
        refine Hf.out.mono ?_
        rintro e w' ⟨rfl, hnx2⟩
        go_wp2
        go_ret
        exact ⟨_, rfl, fun h => absurd (Hs.out.symm.trans h) (by decide), fun _ => by omega, hnx.trans (hnx2.mono hnx.size)⟩
    · have Hs := Lib.hid (okAll_end Ho.out (by rw [Hm.out]; omega))
      go_wp2
      go_ret
      exact ⟨_, rfl, fun _ => rfl, fun h => absurd (Hs.out.symm.trans h) (by decide), hnx⟩
theorem containsNet_any (n : Int) (A : Option Addr) (c m : Nat) (ss : List Str) (w : World) (B pb : Nat) (hr : RdS w B A ss) (hB : B ≤ w.heap.size) (hm : ss.length = m) (hb : m ≤ 1152921504606846976) (hpb : pb < w.heap.size) (hc : w.cell? ⟨pb, 0, none⟩ = some (.int .i64 n)) :
    Calls Try.prog 79 #[.slice A m c, .func (.func 80) #[] #[.pointer (some ⟨pb, 0, none⟩)]] w fun e w' => e = .returned (.bool (!(okAll n ss))) ∧ Below w.heap.size w w' := by
  have H := Lib.hid (indexNet_any n A c m ss w B pb hr hB hm hb hpb hc)
  clear hm hr hc
  go_enter Try.func79, Try.ntmps79
  go_wp2_with fail
  refine H.out.mono ?_
  rintro e w' ⟨r, rfl, h1, h2, hnx⟩
  by_cases hf : okAll n ss = true
  · have := h1 hf
    subst this
    have Hf := Lib.hid hf
    clear h1 h2 hf
    go_wp2
    go_ret
    exact ⟨ret_bool (by rw [Hf.out]; rfl), hnx⟩
  · have hf' : okAll n ss = false := by simpa using hf
    have hr0 := h2 hf'
    have Hf := Lib.hid hf'
    clear h1 h2 hf hf'
    go_wp2
    go_ret
    exact ⟨ret_bool (by rw [Hf.out]; simp), hnx⟩
theorem vnet_all {n : Int} {ss : List Str} (h1 : 1 ≤ n) (h7 : n ≤ 7) (h12 : ss.length ≤ 12) : vnet n ss = okAll n ss := by
  unfold vnet okAll
  by_cases h : ∀ p ∈ ss, OkS n p
  · rw [decide_eq_true h, decide_eq_true ⟨⟨h1, h7⟩, h12, h⟩]
  · rw [decide_eq_false h, decide_eq_false (fun h' => h h'.2.2)]
set_option maxHeartbeats 800000 in
theorem iValidNet_in (A : Option Addr) (c m : Nat) (n : Int) (ss : List Str) (w : World) (hr : RdS w w.heap.size A ss) (hm : ss.length = m) (hb : m ≤ 1048576) (hwf : (Lit.int .i64 n).wf = true) :
    Calls Try.prog 66 #[.int .i64 n, .slice A m c] w fun e w' => e = .returned (.bool (vnet n ss)) ∧ Below w.heap.size w w' := by
  have hB0 := (Below.refl w.heap.size w).alloc (Nat.le_refl _) (.cells #[.int .i64 n] 3)
  by_cases h1 : n < 1
  · have Hs := Lib.hid (vnet_no_n (ss := ss) (.inl h1))
    have HB0 := Lib.hid hB0
    clear hm hr hB0
    go_enter Try.func66, Try.ntmps66
    go_wp2
    go_ret
    exact ⟨ret_bool Hs.out.symm, HB0.out⟩
  by_cases h7 : 7 < n
  · have Hs := Lib.hid (vnet_no_n (ss := ss) (.inr h7))
    have HB0 := Lib.hid hB0
    clear hm hr hB0
    go_enter Try.func66, Try.ntmps66
    go_wp2
    go_ret
    exact ⟨ret_bool Hs.out.symm, HB0.out⟩
  by_cases h12 : 12 < m
  · have Hs := Lib.hid (vnet_no_len (n := n) (ss := ss) (by omega))
    have HB0 := Lib.hid hB0
    clear hm hr hB0
    go_enter Try.func66, Try.ntmps66
    go_wp2
    go_ret
    exact ⟨ret_bool Hs.out.symm, HB0.out⟩
  have Hs := Lib.hid (vnet_all (n := n) (ss := ss) (by omega) (by omega) (by omega))
  obtain ⟨W, HW⟩ : ∃ W, Hid (w.alloc (.cells #[.int .i64 n] 3) = W) := ⟨_, rfl⟩
  have hsz : W.heap.size = w.heap.size + 1 := by rw [← HW.out]; show (w.heap.push _).size = _; simp
  have hcc : W.cell? ⟨w.heap.size, 0, none⟩ = some (.int .i64 n) := by rw [← HW.out, cell_of_row _ _ _ _ _ _ (heap_alloc_new w _)]; rfl
  have hnx : Below w.heap.size w W := by rw [← HW.out]; exact hB0
  have Hf := Lib.hid (containsNet_any n A c m ss W w.heap.size w.heap.size (hr.below hnx) (by omega) hm (by omega) (by omega) hcc)
  have HB := Lib.hid hnx
  clear hm hr hB0 hcc hnx hsz
  go_enter Try.func66, Try.ntmps66
  go_wp2_with fail
  rw [HW.out]
  refine Hf.out.mono ?_
  rintro e w' ⟨rfl, hnx2⟩
  go_wp2
  go_ret
  exact ⟨ret_bool (by rw [Hs.out]), HB.out.trans (hnx2.mono HB.out.size)⟩
theorem iValidNet_ok : IBool 66 := fun A c m n ss w h => iValidNet_in A c m n ss w h.rd h.len h.most h.wf
theorem iValidNet_is (A : Option Addr) (c m : Nat) (n : Int) (ss : List Str) (w : World) (h : NetIn w A c m n ss) {b : Bool} (hv : vnet n ss = b) :
    Calls Try.prog 66 #[.int .i64 n, .slice A m c] w fun e w' => e = .returned (.bool b) ∧ Below w.heap.size w w' := by
  subst hv; exact iValidNet_ok A c m n ss w h
end Go.Proofs.Ytkgomgfhhhdnjaa
namespace Go.Proofs.Ytkgomgfhhhdnjaa
open Go.ChangeShapes Go.WideShapes Go.ChangeAt Go.RowKit
set_option linter.unusedVariables false
set_option maxRecDepth 4000

set_option maxHeartbeats 1600000 in
theorem iNetTable_ok : IRows 68 := by
  intro A c m n ss w hin
  by_cases hv : vnet n ss = true
  · have H1 := Lib.hid (iValidNet_is A c m n ss w hin hv)
    obtain ⟨k, rfl, hk1, hk7⟩ := vnet_nat hv
    have Hv := Lib.hid hv
    have Hm := Lib.hid hin.len
    have Hr := Lib.hid hin.rd
    have Ht := Lib.hid (fun W => tableW_any k W hk1 hk7)
    clear hv hin
    go_enter Try.func68, Try.ntmps68
    go_wp2
    go_step3
    go_wp2_with fail
    refine H1.out.mono ?_
    rintro e w1 ⟨rfl, hnx1⟩
    go_wp2_with fail
    refine (Ht.out w1).mono ?_
    rintro e w2 ⟨v, VR, rfl, hO, hT, hnx2⟩
    obtain ⟨A', c', rfl, -, -, hA⟩ := own_sliceN hO
    obtain ⟨g, rfl, -, -⟩ := hA (by omega)
    have HO := Lib.hid (show Outer w2 w.heap.size k (.slice (some ⟨g, 0, none⟩) k c') VR from ownG_base hO hnx1.size)
    have HT := Lib.hid (hT.base hnx1.size)
    have HB := Lib.hid (hnx1.trans (hnx2.mono hnx1.size))
    clear hO hT hA hnx2 hnx1
    go_wp2
    go_step3
    go_wp2
    go_loopg [16] (totX ownX k) (fun gk s wr => ∃ X, totX X k ≤ gk ∧ Hid (Rlx ss k X) ∧ Hid (Outer wr w.heap.size k (.slice (some ⟨g, 0, none⟩) k c') VR) ∧ Hid (TT wr w.heap.size k VR (rowX X k)) ∧ Hid (Below w.heap.size w wr))
    case atStart => exact ⟨ownX, Nat.le_refl _, rlx_start ss k, HO, HT, HB⟩
    case round =>
      clear HO HT HB
      obtain ⟨X, hgk, HX, HO, HT, HB⟩ := hrel
      obtain ⟨GK, HGK⟩ : ∃ G, Hid (gk = G) := ⟨_, rfl⟩
      rw [HGK.out] at hgk
      have hm12 : m ≤ 12 := by have := ((vnet_iff _ _).1 Hv.out).2.1; rw [Hm.out] at this; exact this
      go_wp2
      go_loopg [16] m (fun gi s wi => ∃ i : Nat, i ≤ m ∧ m - i ≤ gi ∧ s = .int .i64 i ∧ Hid (∀ q, q < i → ∀ a, a < k → CzS X k ss q a) ∧ Hid (Outer wi w.heap.size k (.slice (some ⟨g, 0, none⟩) k c') VR) ∧ Hid (TT wi w.heap.size k VR (rowX X k)) ∧ Hid (Below w.heap.size w wi))
      case atStart => exact ⟨0, Nat.zero_le _, by omega, rfl, fun q hq => by omega, HO, HT, HB⟩
      case round =>
        clear HO HT HB
        obtain ⟨i, him, hgi, rfl, HC, HO, HT, HB⟩ := hrel
        by_cases hlt : i < m
        · obtain ⟨b, off, x, y, z, rfl, hbw, HP, hcx, hcy, hcz⟩ := (Hr.out.below HB.out).x (k := i) (by rw [Hm.out]; exact hlt)
          have hok := ((vnet_iff _ _).1 Hv.out).2.2 _ (getD_mem3 (k := i) (by rw [Hm.out]; exact hlt))
          rw [HP.out] at hok
          obtain ⟨⟨hx0, hx1⟩, ⟨hy0, hy1⟩, hz1, hz9⟩ := hok
          simp only at hx0 hx1 hy0 hy1 hz1 hz9
          obtain ⟨u, rfl⟩ := Int.eq_ofNat_of_zero_le hx0
          obtain ⟨v, rfl⟩ := Int.eq_ofNat_of_zero_le hy0
          have hbs := (Below.refl wr.heap.size wr).alloc (Nat.le_refl _) (.cells #[.int .i64 u, .int .i64 v, .int .i64 z] 40)
          have hBW := HB.out.alloc HB.out.size (.cells #[.int .i64 u, .int .i64 v, .int .i64 z] 40)
          have Hst := Lib.hid (addStreet_any (wr.alloc (.cells #[.int .i64 u, .int .i64 v, .int .i64 z] 40)) w.heap.size k g c' u v VR ss X z hk7 HX.out (ownN_below HO.out hbs) (HT.out.below hbs) hBW.size (by omega) (by omega) ⟨hz1, hz9⟩ ⟨_, getD_mem3 (by rw [Hm.out]; exact hlt), by rw [HP.out], by rw [HP.out]; exact .inl ⟨rfl, rfl⟩⟩)
          have HBW := Lib.hid hBW
          clear hbs hBW HO HT HB
          go_wp2_with fail
          refine Hst.out.mono ?_
          rintro e w3 ⟨X', t, rfl, hX3, hC3, hO3, hT3, hB3, -⟩
          have HX3 := Lib.hid hX3
          have HO3 := Lib.hid hO3
          have HT3 := Lib.hid hT3
          have HB3 := Lib.hid (HBW.out.trans hB3)
          rcases hC3 with ⟨rfl, hlt3⟩ | ⟨rfl, rfl, hcz3⟩
          · clear hX3 hO3 hT3 hB3
            go_wp2
            go_roundg (totX X' k)
            case measure => have := HGK.out; omega
            case rel => exact ⟨X', Nat.le_refl _, HX3, HO3, HT3, HB3⟩
          · have HC3 : Hid (∀ q, q < i + 1 → ∀ a, a < k → CzS X' k ss q a) := fun q hq a ha => by
              by_cases e : q = i
              · subst e
                intro u' v' h1 h2
                rw [HP.out] at h1 h2 ⊢
                simp only at h1 h2 ⊢
                have e1 : u' = u := by omega
                have e2 : v' = v := by omega
                subst e1 e2
                exact hcz3 a ha
              · exact HC.out q (by omega) a ha
            clear hX3 hO3 hT3 hB3 hcz3
            go_wp2
            go_roundg (m - (i + 1))
            case measure => omega
            case rel => exact ⟨i + 1, by omega, Nat.le_refl _, by go_num, HC3, HO3, HT3, HB3⟩
        · obtain rfl : i = m := by omega
          have hsh := seen_short Hv.out HX.out ⟨fun q hq a ha => HC.out q (by rw [← Hm.out]; exact hq) a ha, fun b hb => by omega, fun u v _ _ => ⟨fun h => by omega, fun h => by omega⟩⟩
          have HTe := Lib.hid (HT.out.congr (ls' := rowX (sht k ss) k) (fun j hj => rowX_congr fun b hb => sht_is Hv.out hsh hj hb))
          clear hsh
          go_wp2
          try rw [Exit.noGoto_ret]
          go_ret
          exact .inr ⟨Hv.out, _, VR, rfl, HO.out, HTe.out, HB.out⟩
  · have hv' : vnet n ss = false := by simpa using hv
    have H1 := Lib.hid (iValidNet_is A c m n ss w hin hv')
    have Hv := Lib.hid hv'
    clear hv hv' hin
    go_enter Try.func68, Try.ntmps68
    go_wp2
    go_step3
    go_wp2_with fail
    refine H1.out.mono ?_
    rintro e w1 ⟨rfl, hnx1⟩
    go_wp2
    go_ret
    exact .inl ⟨Hv.out, rfl, hnx1⟩
end Go.Proofs.Ytkgomgfhhhdnjaa
namespace Go.Proofs.Ytkgomgfhhhdnjaa
open Go.ChangeShapes Go.WideShapes Go.ChangeAt Go.RowKit
set_option linter.unusedVariables false
set_option maxRecDepth 4000

theorem NetIn.on {w w' : World} {A : Option Addr} {c m : Nat} {n : Int} {ss : List Str} (h : NetIn w A c m n ss) (hb : Below w.heap.size w w') : NetIn w' A c m n ss :=
  ⟨(h.rd.below hb).more hb.size, h.len, h.cap, h.most, h.wf⟩
theorem nmk_128 {d : Nat → Nat → Int} {far : Int} {n : Nat} (h7 : n ≤ 7) (i : Nat) : nmk d far i n < 128 := pow_128 h7 (nmk_lt _ _ _ _)
/-- The sets of near nodes stay readable. -/
theorem sets_read {d : Nat → Nat → Int} {far : Int} {n g B : Nat} {w : World} (h : w.ownsRow B 68 1 (.slice (some ⟨g, 0, none⟩) n n) n (Ms d far n n 0)) : RdU w (some ⟨g, 0, none⟩) (fun i => nmk d far i n) 0 n := fun _ =>
  ⟨g, 0, rfl, fun i hi => by
    rw [Nat.zero_add, h.cellAt i (by omega)]
    simp [Ms, hi]⟩

set_option maxHeartbeats 1600000 in
theorem iNetApart_ok : INum 35 nap := by
  intro A c m n ss far w hin hwk
  by_cases hv : vnet n ss = true
  · have H1 := Lib.hid (iValidNet_is A c m n ss w hin hv)
    by_cases hf : far < 0 ∨ 50 < far
    · have Hs := Lib.hid (nap_no (n := n) (ss := ss) (.inr hf))
      have H2 := Lib.hid (fun W => farOk_no far W hf)
      clear hv hf hin
      go_enter Try.func35, Try.ntmps35
      go_wp2_with fail
      refine H1.out.mono ?_
      rintro e w2 ⟨rfl, hnx2⟩
      go_wp2_with fail
      refine (H2.out w2).mono ?_
      rintro e w' ⟨rfl, rfl⟩
      go_wp2
      go_ret
      exact ⟨ret_int Hs.out.symm, hnx2⟩
    · have H2 := Lib.hid (fun W => farOk_yes far W (by omega) (by omega))
      obtain ⟨n, rfl, hn1, hn7⟩ := vnet_nat hv
      have hbd := (sht_spec hv).2
      have Hs := Lib.hid (show nap n ss far = ((mw (fun i => nmk (sht n ss) far i n) n 0 0 : Nat) : Int) by
        rw [nap_yes hv (by omega) (by omega), mw_pkR (d := sht n ss) (far := far) hn7 (fun i hi v => by
          rw [nmk_iff (fun a b ha hb => (hbd a b ha hb).1) hi]
          have hs := (sht_met hv).symm
          constructor
          · rintro ⟨h1, h2, h3⟩; rw [hs i v hi h1] at h2 h3; exact ⟨h1, h2, h3⟩
          · rintro ⟨h1, h2, h3⟩; rw [hs v i h1 hi] at h2 h3; exact ⟨h1, h2, h3⟩)])
      have Hin := Lib.hid hin
      have Hv := Lib.hid hv
      clear hv hf hin hbd
      go_enter Try.func35, Try.ntmps35
      go_wp2_with fail
      refine H1.out.mono ?_
      rintro e w2 ⟨rfl, hnx2⟩
      have HB2 := Lib.hid hnx2
      have Ht := Lib.hid (iNetTable_ok A c m n ss w2 (Hin.out.on hnx2))
      clear hnx2
      go_wp2_with fail
      refine (H2.out w2).mono ?_
      rintro e w' ⟨rfl, rfl⟩
      go_wp2_with fail
      refine Ht.out.mono ?_
      rintro e w4 (⟨hno, -, -⟩ | ⟨-, v, VR, rfl, hO, hT, hnx4⟩)
      · exact absurd (Hv.out.symm.trans hno) (by decide)
      obtain ⟨Ag, cg, rfl, -, -, hA⟩ := own_sliceN hO
      obtain ⟨g, rfl, -, -⟩ := hA (by omega)
      have Hns := Lib.hid (nearSets_any w4 w2.heap.size n g cg far VR (sht n ss) hn1 hn7 hO hT)
      have HB4 := Lib.hid (HB2.out.trans (hnx4.mono HB2.out.size))
      clear hO hT hnx4 hA
      go_wp2_with fail
      refine Hns.out.mono ?_
      rintro e w5 ⟨g5, rfl, hown5, hnx5⟩
      have HB5 := Lib.hid (HB4.out.trans (hnx5.mono HB4.out.size))
      have Hm := Lib.hid (mostW_any (fun i => nmk (sht n ss) far i n) (nmk_128 hn7) n 0 0 n (some ⟨g5, 0, none⟩) w5 (sets_read hown5) (Nat.le_refl _) hn7 (by omega))
      clear hown5 hnx5
      go_wp2_with fail
      refine Hm.out.mono ?_
      rintro e w6 ⟨rfl, q, rfl⟩
      go_wp2
      go_ret
      exact ⟨ret_int Hs.out.symm, below_drewN HB5.out _⟩
  · have hv' : vnet n ss = false := by simpa using hv
    have Hs := Lib.hid (nap_no (far := far) (.inl hv'))
    have H1 := Lib.hid (iValidNet_is A c m n ss w hin hv')
    clear hv hv' hin
    go_enter Try.func35, Try.ntmps35
    go_wp2_with fail
    refine H1.out.mono ?_
    rintro e w2 ⟨rfl, hnx2⟩
    go_wp2
    go_ret
    exact ⟨ret_int Hs.out.symm, hnx2⟩

set_option maxHeartbeats 1600000 in
theorem iNetCover_ok : INum 34 ncv := by
  intro A c m n ss far w hin hwk
  by_cases hv : vnet n ss = true
  · have H1 := Lib.hid (iValidNet_is A c m n ss w hin hv)
    by_cases hf : far < 0 ∨ 50 < far
    · have Hs := Lib.hid (ncv_no (n := n) (ss := ss) (.inr hf))
      have H2 := Lib.hid (fun W => farOk_no far W hf)
      clear hv hf hin
      go_enter Try.func34, Try.ntmps34
      go_wp2_with fail
      refine H1.out.mono ?_
      rintro e w2 ⟨rfl, hnx2⟩
      go_wp2_with fail
      refine (H2.out w2).mono ?_
      rintro e w' ⟨rfl, rfl⟩
      go_wp2
      go_ret
      exact ⟨ret_int Hs.out.symm, hnx2⟩
    · have H2 := Lib.hid (fun W => farOk_yes far W (by omega) (by omega))
      obtain ⟨n, rfl, hn1, hn7⟩ := vnet_nat hv
      have hbd := (sht_spec hv).2
      have Hs := Lib.hid (ncv_yes (far := far) hv (by omega) (by omega))
      have Hcv : Hid (∀ S, cvF (sht n ss) far S n n = hits (fun i => nmk (sht n ss) far i n) S n) := fun S => cover_hits (fun a b ha hb => (hbd a b ha hb).1)
      have Hin := Lib.hid hin
      have Hv := Lib.hid hv
      clear hv hf hin hbd
      go_enter Try.func34, Try.ntmps34
      go_wp2_with fail
      refine H1.out.mono ?_
      rintro e w2 ⟨rfl, hnx2⟩
      have HB2 := Lib.hid hnx2
      have Ht := Lib.hid (iNetTable_ok A c m n ss w2 (Hin.out.on hnx2))
      clear hnx2
      go_wp2_with fail
      refine (H2.out w2).mono ?_
      rintro e w' ⟨rfl, rfl⟩
      go_wp2_with fail
      refine Ht.out.mono ?_
      rintro e w4 (⟨hno, -, -⟩ | ⟨-, v, VR, rfl, hO, hT, hnx4⟩)
      · exact absurd (Hv.out.symm.trans hno) (by decide)
      obtain ⟨Ag, cg, rfl, -, -, hA⟩ := own_sliceN hO
      obtain ⟨g, rfl, -, -⟩ := hA (by omega)
      have Hns := Lib.hid (nearSets_any w4 w2.heap.size n g cg far VR (sht n ss) hn1 hn7 hO hT)
      have HB4 := Lib.hid (HB2.out.trans (hnx4.mono HB2.out.size))
      clear hO hT hnx4 hA
      go_wp2_with fail
      refine Hns.out.mono ?_
      rintro e w5 ⟨g5, rfl, hown5, hnx5⟩
      have HB5 := Lib.hid (HB4.out.trans (hnx5.mono HB4.out.size))
      have Hfw := Lib.hid (fewestAll_any (fun i => nmk (sht n ss) far i n) (some ⟨g5, 0, none⟩) n n w5 (fun i => Nat.lt_of_lt_of_le (nmk_128 hn7 i) (by omega)) (by omega) (fun w' h => sets_read (ownN_below hown5 h)))
      have Hcw : Hid (cvN (sht n ss) far n (2 ^ n) = fwH (fun i => nmk (sht n ss) far i n) n (2 ^ n)) := fwH_cvN hn7 Hcv.out (2 ^ n) (Nat.le_refl _)
      clear hown5 hnx5
      go_wp2_with fail
      refine Hfw.out.mono ?_
      rintro e w6 ⟨rfl, hnx6⟩
      go_wp2
      go_ret
      exact ⟨ret_int (by rw [Hs.out, Hcw.out]), HB5.out.trans (hnx6.mono HB5.out.size)⟩
  · have hv' : vnet n ss = false := by simpa using hv
    have Hs := Lib.hid (ncv_no (far := far) (.inl hv'))
    have H1 := Lib.hid (iValidNet_is A c m n ss w hin hv')
    clear hv hv' hin
    go_enter Try.func34, Try.ntmps34
    go_wp2_with fail
    refine H1.out.mono ?_
    rintro e w2 ⟨rfl, hnx2⟩
    go_wp2
    go_ret
    exact ⟨ret_int Hs.out.symm, hnx2⟩
end Go.Proofs.Ytkgomgfhhhdnjaa
