/-
  addStreet of the program, walked.
  Conditions: a table with the net's bounds, a street of the net.
-/
import Derived.Test.YtiblcmeoneolcaaAS
import Derived.Deep.RegionWith
import Derived.StillTailTactics
namespace Go.Proofs.Ytiblcmeoneolcaa
open Go.ChangeShapes Go.WideShapes Go.ChangeAt Go.RowKit
set_option linter.unusedVariables false
set_option maxRecDepth 4000

set_option maxHeartbeats 1600000 in
theorem addStreet_any (w : World) (B n g c u v : Nat) (VR : Nat → Value) (ss : List Str) (X0 : Nat → Nat → Int) (L : Int) (hn7 : n ≤ 7) (hX : Rlx ss n X0) (hO : Outer w B n (.slice (some ⟨g, 0, none⟩) n c) VR) (hT : TT w B n VR (rowX X0 n))
    (hBw : B ≤ w.heap.size) (hu : u < n) (hv : v < n) (hL : 1 ≤ L ∧ L ≤ 9) (he : SE ss u v L) :
    Calls Try.prog 60 #[.slice (some ⟨g, 0, none⟩) n c, .agg #[.int .i64 u, .int .i64 v, .int .i64 L]] w (StepT w B n g c VR ss X0 (∀ a, a < n → Cz X0 a u v L ∧ Cz X0 a v u L)) := by
  have HX := Lib.hid hX
  have HO := Lib.hid hO
  have HT := Lib.hid hT
  have He := Lib.hid he
  have hb0 := (Below.refl B w).alloc hBw (.cells #[.int .i64 u, .int .i64 v, .int .i64 L] 45)
  have hbs := (Below.refl w.heap.size w).alloc (Nat.le_refl _) (.cells #[.int .i64 u, .int .i64 v, .int .i64 L] 45)
  have hcs : (w.alloc (.cells #[.int .i64 u, .int .i64 v, .int .i64 L] 45)).heap[w.heap.size]? = some (.cells #[.int .i64 u, .int .i64 v, .int .i64 L] 45) := heap_alloc_new w _
  have hk0 := (KeepI.refl w).alloc (.cells #[.int .i64 u, .int .i64 v, .int .i64 L] 45)
  have HO0 := Lib.hid (ownN_below hO hbs)
  have HT0 := Lib.hid (hT.below hbs)
  have HB0 := Lib.hid hb0
  have HK0 := Lib.hid hk0
  have HS0 := Lib.hid hcs
  clear hX hO hT he hb0 hbs hcs hk0
  go_enter Try.func60, Try.ntmps60
  go_wp2
  go_loopw [5, 12] (fun b i wr => ∃ a : Nat, ∃ X t, a ≤ n ∧ i = .int .i64 a ∧ b = .bool t ∧ Hid (Rlx ss n X) ∧ Hid (Chg X0 X n t (∀ k, k < a → Cz X0 k u v L ∧ Cz X0 k v u L)) ∧ Hid (Outer wr B n (.slice (some ⟨g, 0, none⟩) n c) VR) ∧ Hid (TT wr B n VR (rowX X n)) ∧ Hid (Below B w wr) ∧ Hid (KeepI w wr) ∧ Hid (wr.heap[w.heap.size]? = some (.cells #[.int .i64 u, .int .i64 v, .int .i64 L] 45))) (fun _ i _ => n - (intOf i).toNat)
  case atStart => exact ⟨0, X0, false, by omega, rfl, rfl, HX, .inr ⟨rfl, rfl, fun k hk => by omega⟩, HO0, HT0, HB0, HK0, HS0⟩
  case round =>
    clear HO0 HT0 HB0 HK0 HS0
    obtain ⟨a, X, t, ha, rfl, rfl, HX1, HC1, HO1, HT1, HB1, HK1, HS1⟩ := hrel
    by_cases hlt : a < n
    · obtain ⟨gr, cr, hVR, cg, cu, -⟩ := tab_cells HO1.out HT1.out hlt hu
      obtain ⟨gr', cr', hVR', -, cv, -⟩ := tab_cells HO1.out HT1.out hlt hv
      have hsame := hVR.symm.trans hVR'
      injection hsame with e1 e2 e3
      injection e1 with e1
      injection e1 with e1
      subst e1 e3
      have s0 : wr.cell? ⟨w.heap.size, 0, none⟩ = some (.int .i64 u) := by rw [cell_of_row _ _ _ _ _ _ HS1.out]; rfl
      have s1 : wr.cell? ⟨w.heap.size, 1, none⟩ = some (.int .i64 v) := by rw [cell_of_row _ _ _ _ _ _ HS1.out]; rfl
      have s2 : wr.cell? ⟨w.heap.size, 2, none⟩ = some (.int .i64 L) := by rw [cell_of_row _ _ _ _ _ _ HS1.out]; rfl
      have hbu := HX1.out.le hn7 hlt hu
      obtain ⟨xu, Hxu⟩ : ∃ x, Hid (X a u = x) := ⟨_, rfl⟩
      rw [Hxu.out] at cu hbu
      have Hj : Hid (∀ W, Calls Try.prog 85 #[.int .i64 xu, .int .i64 L] W fun e w' => e = .returned (.int .i64 (jn xu L)) ∧ w' = W) := fun W => (joined_any xu L W (by omega) (by omega)).mono fun _ _ ⟨h1, h2⟩ => ⟨h1, h2.symm⟩
      go_wp2
      refine wp_region_still_tail 11 (by kernel_rfl) (by kernel_rfl) ?_
      simp only [List.take_succ_cons, List.take_zero, List.drop_succ_cons, List.drop_zero]
      obtain ⟨wd, HWD⟩ : ∃ W, Hid (wr.drewN 1 = W) := ⟨_, rfl⟩
      have HO2 := Lib.hid (HO1.out.drewN 1)
      have HT2 := Lib.hid (HT1.out.drewN 1)
      have HB2 := Lib.hid (below_drewN HB1.out 1)
      have HK2 := Lib.hid (HK1.out.drewN 1)
      have HS2 : Hid ((wr.drewN 1).heap[w.heap.size]? = some (.cells #[.int .i64 u, .int .i64 v, .int .i64 L] 45)) := HS1.out
      have cu2 : (wr.drewN 1).cell? ⟨gr, u, none⟩ = some (.int .i64 xu) := cu
      have s02 : (wr.drewN 1).cell? ⟨w.heap.size, 0, none⟩ = some (.int .i64 u) := s0
      have s12 : (wr.drewN 1).cell? ⟨w.heap.size, 1, none⟩ = some (.int .i64 v) := s1
      have s22 : (wr.drewN 1).cell? ⟨w.heap.size, 2, none⟩ = some (.int .i64 L) := s2
      clear cu s0 s1 s2 cv cg
      show wpStill Try.prog _ (wr.drewN 1) (fun a' => wpList Try.prog _ _ _ a' (wr.drewN 1)) _ _
      rw [HWD.out] at HO2 HT2 HB2 HK2 HS2 cu2 s02 s12 s22 ⊢
      repeat still_step
      still_call (Hj.out wd)
      repeat still_step
      try refine wpStill_nil ?_
      have Hsh := Lib.hid (shortenT_any wd B n g c a u v gr cr VR ss X L hn7 HX1.out HO2.out HT2.out hVR hlt hu hv hL He.out)
      rw [Hxu.out] at Hsh
      clear cu2 s02 s12 s22 Hxu Hj hbu
      go_wp2_with fail
      refine Hsh.out.mono ?_
      rintro e w2 ⟨X1, t1, rfl, hX1, hC1, hO1, hT1, hB1, hK1⟩
      have hS3 := hK1 _ _ _ _ (by decide) HS2.out
      have s0 : w2.cell? ⟨w.heap.size, 0, none⟩ = some (.int .i64 u) := by rw [cell_of_row _ _ _ _ _ _ hS3]; rfl
      have s1 : w2.cell? ⟨w.heap.size, 1, none⟩ = some (.int .i64 v) := by rw [cell_of_row _ _ _ _ _ _ hS3]; rfl
      have s2 : w2.cell? ⟨w.heap.size, 2, none⟩ = some (.int .i64 L) := by rw [cell_of_row _ _ _ _ _ _ hS3]; rfl
      obtain ⟨gr', cr', hVR', -, cv, -⟩ := tab_cells hO1 hT1 hlt hv
      have hsame := hVR.symm.trans hVR'
      injection hsame with e1 e2 e3
      injection e1 with e1
      injection e1 with e1
      subst e1 e3
      have hbu := hX1.le hn7 hlt hv
      obtain ⟨xv, Hxv⟩ : ∃ x, Hid (X1 a v = x) := ⟨_, rfl⟩
      rw [Hxv.out] at cv hbu
      have Hj : Hid (∀ W, Calls Try.prog 85 #[.int .i64 xv, .int .i64 L] W fun e w' => e = .returned (.int .i64 (jn xv L)) ∧ w' = W) := fun W => (joined_any xv L W (by omega) (by omega)).mono fun _ _ ⟨h1, h2⟩ => ⟨h1, h2.symm⟩
      have HX4 := Lib.hid hX1
      have HC4 := Lib.hid (HC1.out.two hC1 (E := ∀ k, k < a + 1 → (k < a → Cz X0 k v u L) ∧ Cz X0 k u v L) (fun h1 h2 h3 h4 k hk => by
        by_cases e : k = a
        · subst e; exact ⟨fun h => by omega, by rw [h1]; exact h4⟩
        · exact ⟨fun _ => (h3 k (by omega)).2, (h3 k (by omega)).1⟩))
      have HO5 := Lib.hid (hO1.drewN 1)
      have HT5 := Lib.hid (hT1.drewN 1)
      have HB5 := Lib.hid (below_drewN (HB2.out.trans hB1) 1)
      have HK5 := Lib.hid ((HK2.out.trans hK1).drewN 1)
      have HS5 : Hid ((w2.drewN 1).heap[w.heap.size]? = some (.cells #[.int .i64 u, .int .i64 v, .int .i64 L] 45)) := hS3
      clear hX1 hC1 hO1 hT1 hB1 hK1 hS3 HC1 HO1 HT1 HB1 HK1 HS1 HO2 HT2 HB2 HK2 HS2 HX1
      go_wp2
      refine wp_region_still_tail 11 (by kernel_rfl) (by kernel_rfl) ?_
      simp only [List.take_succ_cons, List.take_zero, List.drop_succ_cons, List.drop_zero]
      obtain ⟨wz, HWZ⟩ : ∃ W, Hid (w2.drewN 1 = W) := ⟨_, rfl⟩
      have cv2 : (w2.drewN 1).cell? ⟨gr, v, none⟩ = some (.int .i64 xv) := cv
      have s02 : (w2.drewN 1).cell? ⟨w.heap.size, 0, none⟩ = some (.int .i64 u) := s0
      have s12 : (w2.drewN 1).cell? ⟨w.heap.size, 1, none⟩ = some (.int .i64 v) := s1
      have s22 : (w2.drewN 1).cell? ⟨w.heap.size, 2, none⟩ = some (.int .i64 L) := s2
      clear cv s0 s1 s2
      show wpStill Try.prog _ (w2.drewN 1) (fun a' => wpList Try.prog _ _ _ a' (w2.drewN 1)) _ _
      rw [HWZ.out] at HO5 HT5 HB5 HK5 HS5 cv2 s02 s12 s22 ⊢
      repeat still_step
      still_call (Hj.out wz)
      repeat still_step
      try refine wpStill_nil ?_
      have Hsh2 := Lib.hid (shortenT_any wz B n g c a v u gr cr VR ss X1 L hn7 HX4.out HO5.out HT5.out hVR hlt hv hu hL He.out.symm)
      rw [Hxv.out] at Hsh2
      clear cv2 s02 s12 s22 Hxv Hj hbu
      go_wp2_with fail
      refine Hsh2.out.mono ?_
      rintro e w3 ⟨X2, t2, rfl, hX2, hC2, hO2, hT2, hB2, hK2⟩
      have HC6 := Lib.hid (HC4.out.two hC2 (E := ∀ k, k < a + 1 → Cz X0 k u v L ∧ Cz X0 k v u L) (fun h1 h2 h3 h4 k hk => by
        by_cases e : k = a
        · subst e; exact ⟨(h3 k hk).2, by rw [h1]; exact h4⟩
        · exact ⟨(h3 k hk).2, (h3 k hk).1 (by omega)⟩))
      have HX6 := Lib.hid hX2
      have HO6 := Lib.hid hO2
      have HT6 := Lib.hid hT2
      have HB6 := Lib.hid (HB5.out.trans hB2)
      have HK6 := Lib.hid (HK5.out.trans hK2)
      have HS6 := Lib.hid (hK2 _ _ _ _ (by decide) HS5.out)
      clear hX2 hC2 hO2 hT2 hB2 hK2 HC4 HO5 HT5 HB5 HK5 HS5 HX4
      cases t <;> cases t1 <;> cases t2
      all_goals
        go_wp2
        go_roundw
        case rel => exact ⟨a + 1, X2, _, by omega, by go_num, rfl, HX6, HC6, HO6, HT6, HB6, HK6, HS6⟩
        case measure => simp [intOf]; omega
    · go_wp2
      go_ret
      exact ⟨X, t, rfl, HX1.out, HC1.out.imp fun h k hk => h k (by omega), HO1.out, HT1.out, HB1.out, HK1.out⟩
end Go.Proofs.Ytiblcmeoneolcaa
