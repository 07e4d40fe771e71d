/-
  The small functions of chapter 3: a way shorter than another, two ways joined, a row's way made shorter, a node's number.
  Conditions: as each theorem states.
  The program's shorten at a table's entry, and addStreet: all rows made shorter by one street.
  Conditions: as each theorem states.
  addStreet of the program, walked.
  Conditions: a table with the net's bounds, a street of the net.
  The library's Mul at small numbers; Clone and Repeat of a slice of ints.
  Conditions: as each theorem states.
  Repeat of a slice of ints.
  Conditions: as each theorem states.
  tableWithoutStreets of the program, walked.
  Conditions: one to seven nodes.
-/
import Derived.Test.YtdhelapgdgekfaaZ2
import Derived.Test.YtdhelapgdgekfaaZ4
import Derived.Deep.RegionWith
import Derived.StillTailTactics
import Derived.Shelf.Bits.Mul64
import Derived.Laws.CopyOwn
import Derived.WalkSpells
import Derived.Deep.AppendLies
namespace Go.Proofs.Ytdhelapgdgekfaa
open Go.ChangeShapes Go.WideShapes Go.ChangeAt Go.RowKit
set_option linter.unusedVariables false
set_option maxRecDepth 4000

theorem isSh_any (x y : Int) (w : World) : Calls Try.prog 77 #[.int .i64 x, .int .i64 y] w fun e w' => e = .returned (.bool (decide (ShW x y))) ∧ w = w' := by
  by_cases hx : x = -1
  · subst hx
    have hs : decide (ShW (-1) y) = false := decide_eq_false (fun h => h.1 rfl)
    rw [hs]
    have h1 : ((-1 : Int) != -1) = false := rfl
    go_enter Try.func77, Try.ntmps77
    go_wp2
    go_ret
    exact ⟨rfl, rfl⟩
  · have h1 : (x != -1) = true := by rw [bne_iff_ne]; exact hx
    by_cases hy : y = -1
    · subst hy
      have hs : decide (ShW x (-1)) = true := decide_eq_true ⟨hx, .inl rfl⟩
      rw [hs]
      have h2 : ((-1 : Int) == -1) = true := rfl
      go_enter Try.func77, Try.ntmps77
      go_wp2
      go_ret
      exact ⟨rfl, rfl⟩
    · have h2 : (y == -1) = false := by rw [beq_eq_false_iff_ne]; exact hy
      have hs : decide (ShW x y) = decide (x < y) := by
        unfold ShW
        by_cases h : x < y <;> simp [h, hx, hy]
      rw [hs]
      by_cases h : x < y
      all_goals
        go_enter Try.func77, Try.ntmps77
        go_wp2
        go_ret
        exact ⟨ret_bool (by simp [h]), rfl⟩
theorem isSh_yes (x y : Int) (w : World) (h : ShW x y) : Calls Try.prog 77 #[.int .i64 x, .int .i64 y] w fun e w' => e = .returned (.bool true) ∧ w = w' :=
  (isSh_any x y w).mono fun _ _ ⟨he, hw⟩ => ⟨by rw [he, decide_eq_true h], hw⟩
theorem isSh_no (x y : Int) (w : World) (h : ¬ ShW x y) : Calls Try.prog 77 #[.int .i64 x, .int .i64 y] w fun e w' => e = .returned (.bool false) ∧ w = w' :=
  (isSh_any x y w).mono fun _ _ ⟨he, hw⟩ => ⟨by rw [he, decide_eq_false h], hw⟩
/-- Two ways, one behind the other; -1 if there is none. -/
def jn (x y : Int) : Int := if x = -1 ∨ y = -1 then -1 else x + y
theorem joined_any (x y : Int) (w : World) (hx : -1 ≤ x ∧ x ≤ 100000) (hy : -1 ≤ y ∧ y ≤ 100000) : Calls Try.prog 103 #[.int .i64 x, .int .i64 y] w fun e w' => e = .returned (.int .i64 (jn x y)) ∧ w = w' := by
  by_cases h1 : x = -1
  · subst h1
    have hs : jn (-1) y = -1 := if_pos (.inl rfl)
    rw [hs]
    have h1 : ((-1 : Int) == -1) = true := rfl
    go_enter Try.func103, Try.ntmps103
    go_wp2
    go_ret
    exact ⟨rfl, rfl⟩
  · have b1 : (x == -1) = false := by rw [beq_eq_false_iff_ne]; exact h1
    by_cases h2 : y = -1
    · subst h2
      have hs : jn x (-1) = -1 := if_pos (.inr rfl)
      rw [hs]
      have h2 : ((-1 : Int) == -1) = true := rfl
      go_enter Try.func103, Try.ntmps103
      go_wp2
      go_ret
      exact ⟨rfl, rfl⟩
    · have b2 : (y == -1) = false := by rw [beq_eq_false_iff_ne]; exact h2
      have hs : jn x y = x + y := if_neg (by omega)
      rw [hs]
      go_enter Try.func103, Try.ntmps103
      go_wp2
      go_ret
      exact ⟨ret_int (by first | rfl | (rw [IntWalk.i64_in _ (by omega)])), rfl⟩
theorem joined_is (x y : Int) {z : Int} (w : World) (hx : -1 ≤ x ∧ x ≤ 100000) (hy : -1 ≤ y ∧ y ≤ 100000) (h : jn x y = z) : Calls Try.prog 103 #[.int .i64 x, .int .i64 y] w fun e w' => e = .returned (.int .i64 z) ∧ w = w' := by
  subst h; exact joined_any x y w hx hy
theorem validNode_any (n x : Int) (w : World) : Calls Try.prog 100 #[.int .i64 n, .int .i64 x] w fun e w' => e = .returned (.bool (decide (0 ≤ x) && decide (x < n))) ∧ w = w' := by
  by_cases h1 : 0 ≤ x
  · by_cases h2 : x < n
    all_goals
      go_enter Try.func100, Try.ntmps100
      go_wp2
      go_ret
      exact ⟨ret_bool (by simp [h1, h2]), rfl⟩
  · have h3 : decide (x ≥ 0) = false := decide_eq_false h1
    go_enter Try.func100, Try.ntmps100
    go_wp2
    go_ret
    exact ⟨ret_bool (by simp), rfl⟩
theorem validNode_is (n x : Int) (w : World) {b : Bool} (h : (decide (0 ≤ x) && decide (x < n)) = b) : Calls Try.prog 100 #[.int .i64 n, .int .i64 x] w fun e w' => e = .returned (.bool b) ∧ w = w' := by
  subst h; exact validNode_any n x w
/-- A row's way, made shorter. -/
theorem shorten_yes (gr n cr e : Nat) (x q : Int) (w : World) (he : e < n) (hc : w.cell? ⟨gr, e, none⟩ = some (.int .i64 q)) (hf : w.frozen? ⟨gr, e, none⟩ = false) (h : ShW x q) :
    Calls Try.prog 102 #[.slice (some ⟨gr, 0, none⟩) n cr, .int .i64 e, .int .i64 x] w fun r w' => r = .returned (.bool true) ∧ ∃ k, w' = (w.setCell ⟨gr, e, none⟩ (.int .i64 x)).drewN k := by
  have H := Lib.hid (fun W => isSh_yes x q W h)
  clear h
  go_enter Try.func102, Try.ntmps102
  go_wp2_with fail
  refine (H.out _).mono ?_
  rintro r w' ⟨rfl, rfl⟩
  go_wp2
  go_ret
  exact ⟨rfl, 0, rfl⟩
theorem shorten_no (gr n cr e : Nat) (x q : Int) (w : World) (he : e < n) (hc : w.cell? ⟨gr, e, none⟩ = some (.int .i64 q)) (h : ¬ ShW x q) :
    Calls Try.prog 102 #[.slice (some ⟨gr, 0, none⟩) n cr, .int .i64 e, .int .i64 x] w fun r w' => r = .returned (.bool false) ∧ ∃ k, w' = w.drewN k := by
  have H := Lib.hid (fun W => isSh_no x q W h)
  clear h
  go_enter Try.func102, Try.ntmps102
  go_wp2_with fail
  refine (H.out _).mono ?_
  rintro r w' ⟨rfl, rfl⟩
  go_wp2
  go_ret
  exact ⟨rfl, 0, rfl⟩
end Go.Proofs.Ytdhelapgdgekfaa
namespace Go.Proofs.Ytdhelapgdgekfaa
open Go.ChangeShapes Go.WideShapes Go.ChangeAt Go.RowKit
set_option linter.unusedVariables false
set_option maxRecDepth 4000

theorem jn_no {x L : Int} (h : x = -1) : jn x L = -1 := if_pos (.inl h)
theorem jn_yes {x L : Int} (h : 0 ≤ x) (hL : 0 ≤ L) : jn x L = x + L := if_neg (by omega)
theorem sh_cz {X : Nat → Nat → Int} {a u v : Nat} {L : Int} (hu : -1 ≤ X a u) (hv : -1 ≤ X a v) (hL : 1 ≤ L) (h : ¬ ShW (jn (X a u) L) (X a v)) : Cz X a u v L := by
  intro h0
  rw [jn_yes h0 (by omega)] at h
  unfold ShW at h
  omega
theorem sh_up {X : Nat → Nat → Int} {a u v : Nat} {L : Int} (hu : -1 ≤ X a u) (hv : -1 ≤ X a v) (hL : 1 ≤ L) (h : ShW (jn (X a u) L) (X a v)) : 0 ≤ X a u ∧ (X a v < 0 ∨ X a u + L < X a v) ∧ jn (X a u) L = X a u + L := by
  by_cases e : X a u = -1
  · rw [jn_no e] at h; exact absurd rfl h.1
  · rw [jn_yes (by omega) (by omega)] at h ⊢
    unfold ShW at h
    omega
/-- Nothing but ints change. -/
def KeepI (w w' : World) : Prop := ∀ (b : Nat) (cs : Array Value) (ty : TypeId) (z : Nat × Nat), ty ≠ 3 → w.heap[b]? = some (.cells cs ty z) → w'.heap[b]? = some (.cells cs ty z)
theorem KeepI.refl (w : World) : KeepI w w := fun _ _ _ _ _ h => h
theorem KeepI.trans {w w1 w2 : World} (h : KeepI w w1) (k : KeepI w1 w2) : KeepI w w2 := fun b cs ty z hne he => k b cs ty z hne (h b cs ty z hne he)
theorem KeepI.drewN {w w1 : World} (h : KeepI w w1) (n : Nat) : KeepI w (w1.drewN n) := h
theorem KeepI.set {w w1 : World} {g b : Nat} {cs : Array Value} {z : Nat × Nat} (h : KeepI w w1) (hg : w1.heap[g]? = some (.cells cs 3 z)) (u : Value) : KeepI w (w1.setCell ⟨g, b, none⟩ u) := fun i cs' ty z' hne he => by
  have h1 := h i cs' ty z' hne he
  have hgi : g ≠ i := types_apart hg h1 (fun e => hne e.symm)
  exact (Below.heap_setCell w1 _ _ i (fun e => hgi e.symm)).trans h1
theorem KeepI.alloc {w w1 : World} (h : KeepI w w1) (o : Obj) : KeepI w (w1.alloc o) := fun i cs' ty z' hne he => by
  have h1 := h i cs' ty z' hne he
  have hlt : i < w1.heap.size := by
    rcases Nat.lt_or_ge i w1.heap.size with h2 | h2
    · exact h2
    · rw [Array.getElem?_eq_none h2] at h1; cases h1
  exact (heap_alloc_old w1 _ hlt).trans h1
/-- What a step at a table's entries leaves: the table, shorter or as it was. -/
def StepT (w : World) (B n g c : Nat) (VR : Nat → Value) (ss : List Str) (X : Nat → Nat → Int) (C : Prop) (e : Ending) (w' : World) : Prop :=
  ∃ X' t, e = .returned (.bool t) ∧ Rlx ss n X' ∧ Chg X X' n t C ∧ Outer w' B n (.slice (some ⟨g, 0, none⟩) n c) VR ∧ TT w' B n VR (rowX X' n) ∧ Below B w w' ∧ KeepI w w'
theorem shortenT_any (w : World) (B n g c a u v gr cr : Nat) (VR : Nat → Value) (ss : List Str) (X : Nat → Nat → Int) (L : Int) (hn7 : n ≤ 7) (hX : Rlx ss n X) (hO : Outer w B n (.slice (some ⟨g, 0, none⟩) n c) VR) (hT : TT w B n VR (rowX X n))
    (hv : VR a = .slice (some ⟨gr, 0, none⟩) n cr) (ha : a < n) (hu : u < n) (hvn : v < n) (hL : 1 ≤ L ∧ L ≤ 9) (he : SE ss u v L) :
    Calls Try.prog 102 #[.slice (some ⟨gr, 0, none⟩) n cr, .int .i64 v, .int .i64 (jn (X a u) L)] w (StepT w B n g c VR ss X (Cz X a u v L)) := by
  have hb1 := hX.le hn7 ha hu
  have hb2 := hX.le hn7 ha hvn
  obtain ⟨gr', cr', e1, -, cc, ff⟩ := tab_cells hO hT ha hvn
  have e2 := hv.symm.trans e1
  injection e2 with e3 e4 e5
  injection e3 with e3
  injection e3 with e3
  subst e3 e5
  by_cases h : ShW (jn (X a u) L) (X a v)
  · obtain ⟨h1, h2, h3⟩ := sh_up (by omega) (by omega) hL.1 h
    refine (shorten_yes gr n cr v _ _ w hvn cc ff h).mono ?_
    rintro e w' ⟨rfl, k, rfl⟩
    rw [h3]
    obtain ⟨o2, t2, hgB⟩ := tab_set (X a u + L) hO hT ha hvn hv
    refine ⟨_, true, rfl, rlx_step hX ha hu hvn he hL h1 h2, .inl ⟨rfl, totX_step ha hvn (by omega) (by omega)⟩, o2.drewN k, t2.drewN k, below_drewN ((Below.refl B w).setCell (p := ⟨gr, v, none⟩) hgB _) k, ?_⟩
    have h5 := hT.own a ha
    rw [hv, rowX_len] at h5
    obtain ⟨⟨cs, hcs⟩, -, -⟩ := own_heap h5 (g := gr) rfl
    exact ((KeepI.refl w).set hcs _).drewN k
  · refine (shorten_no gr n cr v _ _ w hvn cc h).mono ?_
    rintro e w' ⟨rfl, k, rfl⟩
    exact ⟨X, false, rfl, hX, .inr ⟨rfl, rfl, sh_cz (by omega) (by omega) hL.1 h⟩, hO.drewN k, hT.drewN k, below_drewN (Below.refl B w) k, (KeepI.refl w).drewN k⟩
theorem Chg.two {X0 X Y : Nat → Nat → Int} {n : Nat} {b t : Bool} {C D E : Prop} (h : Chg X0 X n b C) (k : Chg X Y n t D) (hE : X0 = X → X = Y → C → D → E) : Chg X0 Y n (b || t) E := by
  rcases h with ⟨rfl, h1⟩ | ⟨rfl, h1, h2⟩ <;> rcases k with ⟨rfl, k1⟩ | ⟨rfl, k1, k2⟩
  · exact .inl ⟨rfl, by omega⟩
  · subst k1; exact .inl ⟨rfl, h1⟩
  · subst h1; exact .inl ⟨rfl, k1⟩
  · exact .inr ⟨rfl, k1.trans h1, hE h1.symm k1.symm h2 k2⟩
end Go.Proofs.Ytdhelapgdgekfaa
namespace Go.Proofs.Ytdhelapgdgekfaa
open Go.ChangeShapes Go.WideShapes Go.ChangeAt Go.RowKit
set_option linter.unusedVariables false
set_option maxRecDepth 4000

set_option maxHeartbeats 1600000 in
theorem addStreet_any (w : World) (B n g c u v : Nat) (VR : Nat → Value) (ss : List Str) (X0 : Nat → Nat → Int) (L : Int) (hn7 : n ≤ 7) (hX : Rlx ss n X0) (hO : Outer w B n (.slice (some ⟨g, 0, none⟩) n c) VR) (hT : TT w B n VR (rowX X0 n))
    (hBw : B ≤ w.heap.size) (hu : u < n) (hv : v < n) (hL : 1 ≤ L ∧ L ≤ 9) (he : SE ss u v L) :
    Calls Try.prog 62 #[.slice (some ⟨g, 0, none⟩) n c, .agg #[.int .i64 u, .int .i64 v, .int .i64 L]] w (StepT w B n g c VR ss X0 (∀ a, a < n → Cz X0 a u v L ∧ Cz X0 a v u L)) := by
  have HX := Lib.hid hX
  have HO := Lib.hid hO
  have HT := Lib.hid hT
  have He := Lib.hid he
  have hb0 := (Below.refl B w).alloc hBw (.cells #[.int .i64 u, .int .i64 v, .int .i64 L] 75)
  have hbs := (Below.refl w.heap.size w).alloc (Nat.le_refl _) (.cells #[.int .i64 u, .int .i64 v, .int .i64 L] 75)
  have hcs : (w.alloc (.cells #[.int .i64 u, .int .i64 v, .int .i64 L] 75)).heap[w.heap.size]? = some (.cells #[.int .i64 u, .int .i64 v, .int .i64 L] 75) := heap_alloc_new w _
  have hk0 := (KeepI.refl w).alloc (.cells #[.int .i64 u, .int .i64 v, .int .i64 L] 75)
  have HO0 := Lib.hid (ownN_below hO hbs)
  have HT0 := Lib.hid (hT.below hbs)
  have HB0 := Lib.hid hb0
  have HK0 := Lib.hid hk0
  have HS0 := Lib.hid hcs
  clear hX hO hT he hb0 hbs hcs hk0
  go_enter Try.func62, Try.ntmps62
  go_wp2
  go_loopw [5, 12] (fun b i wr => ∃ a : Nat, ∃ X t, a ≤ n ∧ i = .int .i64 a ∧ b = .bool t ∧ Hid (Rlx ss n X) ∧ Hid (Chg X0 X n t (∀ k, k < a → Cz X0 k u v L ∧ Cz X0 k v u L)) ∧ Hid (Outer wr B n (.slice (some ⟨g, 0, none⟩) n c) VR) ∧ Hid (TT wr B n VR (rowX X n)) ∧ Hid (Below B w wr) ∧ Hid (KeepI w wr) ∧ Hid (wr.heap[w.heap.size]? = some (.cells #[.int .i64 u, .int .i64 v, .int .i64 L] 75))) (fun _ i _ => n - (intOf i).toNat)
  case atStart => exact ⟨0, X0, false, by omega, rfl, rfl, HX, .inr ⟨rfl, rfl, fun k hk => by omega⟩, HO0, HT0, HB0, HK0, HS0⟩
  case round =>
    clear HO0 HT0 HB0 HK0 HS0
    obtain ⟨a, X, t, ha, rfl, rfl, HX1, HC1, HO1, HT1, HB1, HK1, HS1⟩ := hrel
    by_cases hlt : a < n
    · obtain ⟨gr, cr, hVR, cg, cu, -⟩ := tab_cells HO1.out HT1.out hlt hu
      obtain ⟨gr', cr', hVR', -, cv, -⟩ := tab_cells HO1.out HT1.out hlt hv
      have hsame := hVR.symm.trans hVR'
      injection hsame with e1 e2 e3
      injection e1 with e1
      injection e1 with e1
      subst e1 e3
      have s0 : wr.cell? ⟨w.heap.size, 0, none⟩ = some (.int .i64 u) := by rw [cell_of_row _ _ _ _ _ _ HS1.out]; rfl
      have s1 : wr.cell? ⟨w.heap.size, 1, none⟩ = some (.int .i64 v) := by rw [cell_of_row _ _ _ _ _ _ HS1.out]; rfl
      have s2 : wr.cell? ⟨w.heap.size, 2, none⟩ = some (.int .i64 L) := by rw [cell_of_row _ _ _ _ _ _ HS1.out]; rfl
      have hbu := HX1.out.le hn7 hlt hu
      obtain ⟨xu, Hxu⟩ : ∃ x, Hid (X a u = x) := ⟨_, rfl⟩
      rw [Hxu.out] at cu hbu
      have Hj : Hid (∀ W, Calls Try.prog 103 #[.int .i64 xu, .int .i64 L] W fun e w' => e = .returned (.int .i64 (jn xu L)) ∧ w' = W) := fun W => (joined_any xu L W (by omega) (by omega)).mono fun _ _ ⟨h1, h2⟩ => ⟨h1, h2.symm⟩
      go_wp2
      refine wp_region_still_tail 11 (by kernel_rfl) (by kernel_rfl) ?_
      simp only [List.take_succ_cons, List.take_zero, List.drop_succ_cons, List.drop_zero]
      obtain ⟨wd, HWD⟩ : ∃ W, Hid (wr.drewN 1 = W) := ⟨_, rfl⟩
      have HO2 := Lib.hid (HO1.out.drewN 1)
      have HT2 := Lib.hid (HT1.out.drewN 1)
      have HB2 := Lib.hid (below_drewN HB1.out 1)
      have HK2 := Lib.hid (HK1.out.drewN 1)
      have HS2 : Hid ((wr.drewN 1).heap[w.heap.size]? = some (.cells #[.int .i64 u, .int .i64 v, .int .i64 L] 75)) := HS1.out
      have cu2 : (wr.drewN 1).cell? ⟨gr, u, none⟩ = some (.int .i64 xu) := cu
      have s02 : (wr.drewN 1).cell? ⟨w.heap.size, 0, none⟩ = some (.int .i64 u) := s0
      have s12 : (wr.drewN 1).cell? ⟨w.heap.size, 1, none⟩ = some (.int .i64 v) := s1
      have s22 : (wr.drewN 1).cell? ⟨w.heap.size, 2, none⟩ = some (.int .i64 L) := s2
      clear cu s0 s1 s2 cv cg
      show wpStill Try.prog _ (wr.drewN 1) (fun a' => wpList Try.prog _ _ _ a' (wr.drewN 1)) _ _
      rw [HWD.out] at HO2 HT2 HB2 HK2 HS2 cu2 s02 s12 s22 ⊢
      repeat still_step
      still_call (Hj.out wd)
      repeat still_step
      try refine wpStill_nil ?_
      have Hsh := Lib.hid (shortenT_any wd B n g c a u v gr cr VR ss X L hn7 HX1.out HO2.out HT2.out hVR hlt hu hv hL He.out)
      rw [Hxu.out] at Hsh
      clear cu2 s02 s12 s22 Hxu Hj hbu
      go_wp2_with fail
      refine Hsh.out.mono ?_
      rintro e w2 ⟨X1, t1, rfl, hX1, hC1, hO1, hT1, hB1, hK1⟩
      have hS3 := hK1 _ _ _ _ (by decide) HS2.out
      have s0 : w2.cell? ⟨w.heap.size, 0, none⟩ = some (.int .i64 u) := by rw [cell_of_row _ _ _ _ _ _ hS3]; rfl
      have s1 : w2.cell? ⟨w.heap.size, 1, none⟩ = some (.int .i64 v) := by rw [cell_of_row _ _ _ _ _ _ hS3]; rfl
      have s2 : w2.cell? ⟨w.heap.size, 2, none⟩ = some (.int .i64 L) := by rw [cell_of_row _ _ _ _ _ _ hS3]; rfl
      obtain ⟨gr', cr', hVR', -, cv, -⟩ := tab_cells hO1 hT1 hlt hv
      have hsame := hVR.symm.trans hVR'
      injection hsame with e1 e2 e3
      injection e1 with e1
      injection e1 with e1
      subst e1 e3
      have hbu := hX1.le hn7 hlt hv
      obtain ⟨xv, Hxv⟩ : ∃ x, Hid (X1 a v = x) := ⟨_, rfl⟩
      rw [Hxv.out] at cv hbu
      have Hj : Hid (∀ W, Calls Try.prog 103 #[.int .i64 xv, .int .i64 L] W fun e w' => e = .returned (.int .i64 (jn xv L)) ∧ w' = W) := fun W => (joined_any xv L W (by omega) (by omega)).mono fun _ _ ⟨h1, h2⟩ => ⟨h1, h2.symm⟩
      have HX4 := Lib.hid hX1
      have HC4 := Lib.hid (HC1.out.two hC1 (E := ∀ k, k < a + 1 → (k < a → Cz X0 k v u L) ∧ Cz X0 k u v L) (fun h1 h2 h3 h4 k hk => by
        by_cases e : k = a
        · subst e; exact ⟨fun h => by omega, by rw [h1]; exact h4⟩
        · exact ⟨fun _ => (h3 k (by omega)).2, (h3 k (by omega)).1⟩))
      have HO5 := Lib.hid (hO1.drewN 1)
      have HT5 := Lib.hid (hT1.drewN 1)
      have HB5 := Lib.hid (below_drewN (HB2.out.trans hB1) 1)
      have HK5 := Lib.hid ((HK2.out.trans hK1).drewN 1)
      have HS5 : Hid ((w2.drewN 1).heap[w.heap.size]? = some (.cells #[.int .i64 u, .int .i64 v, .int .i64 L] 75)) := hS3
      clear hX1 hC1 hO1 hT1 hB1 hK1 hS3 HC1 HO1 HT1 HB1 HK1 HS1 HO2 HT2 HB2 HK2 HS2 HX1
      go_wp2
      refine wp_region_still_tail 11 (by kernel_rfl) (by kernel_rfl) ?_
      simp only [List.take_succ_cons, List.take_zero, List.drop_succ_cons, List.drop_zero]
      obtain ⟨wz, HWZ⟩ : ∃ W, Hid (w2.drewN 1 = W) := ⟨_, rfl⟩
      have cv2 : (w2.drewN 1).cell? ⟨gr, v, none⟩ = some (.int .i64 xv) := cv
      have s02 : (w2.drewN 1).cell? ⟨w.heap.size, 0, none⟩ = some (.int .i64 u) := s0
      have s12 : (w2.drewN 1).cell? ⟨w.heap.size, 1, none⟩ = some (.int .i64 v) := s1
      have s22 : (w2.drewN 1).cell? ⟨w.heap.size, 2, none⟩ = some (.int .i64 L) := s2
      clear cv s0 s1 s2
      show wpStill Try.prog _ (w2.drewN 1) (fun a' => wpList Try.prog _ _ _ a' (w2.drewN 1)) _ _
      rw [HWZ.out] at HO5 HT5 HB5 HK5 HS5 cv2 s02 s12 s22 ⊢
      repeat still_step
      still_call (Hj.out wz)
      repeat still_step
      try refine wpStill_nil ?_
      have Hsh2 := Lib.hid (shortenT_any wz B n g c a v u gr cr VR ss X1 L hn7 HX4.out HO5.out HT5.out hVR hlt hv hu hL He.out.symm)
      rw [Hxv.out] at Hsh2
      clear cv2 s02 s12 s22 Hxv Hj hbu
      go_wp2_with fail
      refine Hsh2.out.mono ?_
      rintro e w3 ⟨X2, t2, rfl, hX2, hC2, hO2, hT2, hB2, hK2⟩
      have HC6 := Lib.hid (HC4.out.two hC2 (E := ∀ k, k < a + 1 → Cz X0 k u v L ∧ Cz X0 k v u L) (fun h1 h2 h3 h4 k hk => by
        by_cases e : k = a
        · subst e; exact ⟨(h3 k hk).2, by rw [h1]; exact h4⟩
        · exact ⟨(h3 k hk).2, (h3 k hk).1 (by omega)⟩))
      have HX6 := Lib.hid hX2
      have HO6 := Lib.hid hO2
      have HT6 := Lib.hid hT2
      have HB6 := Lib.hid (HB5.out.trans hB2)
      have HK6 := Lib.hid (HK5.out.trans hK2)
      have HS6 := Lib.hid (hK2 _ _ _ _ (by decide) HS5.out)
      clear hX2 hC2 hO2 hT2 hB2 hK2 HC4 HO5 HT5 HB5 HK5 HS5 HX4
      cases t <;> cases t1 <;> cases t2
      all_goals
        go_wp2
        go_roundw
        case rel => exact ⟨a + 1, X2, _, by omega, by go_num, rfl, HX6, HC6, HO6, HT6, HB6, HK6, HS6⟩
        case measure => simp [intOf]; omega
    · go_wp2
      go_ret
      exact ⟨X, t, rfl, HX1.out, HC1.out.imp fun h k hk => h k (by omega), HO1.out, HT1.out, HB1.out, HK1.out⟩
end Go.Proofs.Ytdhelapgdgekfaa
namespace Go.Proofs.Ytdhelapgdgekfaa
open Go.ChangeShapes Go.WideShapes Go.ChangeAt Go.RowKit
set_option linter.unusedVariables false

theorem mask_small (a : Nat) (ha : a ≤ 1000000) : bits .and .u64 (a : Int) 4294967295 = (a : Int) := by
  rw [Mul64.maskN a (by omega), Nat.mod_eq_of_lt (by omega)]
theorem high_small (a : Nat) (ha : a ≤ 1000000) : (a : Int) / 4294967296 = 0 := by omega
theorem wrap_small (a : Nat) (ha : a ≤ 1000000) : IntKind.u64.wrap (a : Int) = (a : Int) := Mul64.wrapN a (by omega)
theorem mul_high (x y : Nat) (hx : x ≤ 1000) (hy : y ≤ 1000) : IntKind.u64.wrap (IntKind.u64.wrap (IntKind.u64.wrap ((x : Int) / 4294967296 * ((y : Int) / 4294967296)) + IntKind.u64.wrap (IntKind.u64.wrap ((x : Int) / 4294967296 * bits BinOp.and IntKind.u64 (y : Int) 4294967295) + IntKind.u64.wrap (bits BinOp.and IntKind.u64 (x : Int) 4294967295 * bits BinOp.and IntKind.u64 (y : Int) 4294967295) / 4294967296) / 4294967296) + IntKind.u64.wrap (bits BinOp.and IntKind.u64 (IntKind.u64.wrap (IntKind.u64.wrap ((x : Int) / 4294967296 * bits BinOp.and IntKind.u64 (y : Int) 4294967295) + IntKind.u64.wrap (bits BinOp.and IntKind.u64 (x : Int) 4294967295 * bits BinOp.and IntKind.u64 (y : Int) 4294967295) / 4294967296)) 4294967295 + IntKind.u64.wrap (bits BinOp.and IntKind.u64 (x : Int) 4294967295 * ((y : Int) / 4294967296))) / 4294967296) = 0 := by
  have hxy : x * y ≤ 1000 * 1000 := Nat.mul_le_mul hx hy
  have hm := mask_small 0 (by omega)
  have hw := wrap_small 0 (by omega)
  simp only [mask_small x (by omega), mask_small y (by omega), high_small x (by omega), high_small y (by omega), Mul64.mulN, wrap_small (x * y) (by omega), high_small (x * y) (by omega)]
  simp at hm hw ⊢
  simp [hm, hw]

set_option maxHeartbeats 1000000 in
theorem mul64_small (x y : Nat) (hx : x ≤ 1000) (hy : y ≤ 1000) (w : World) :
    Calls Try.prog 124 #[.int .u64 x, .int .u64 y] w fun e w' => e = .returned (.tuple #[.int .u64 0, .int .u64 ((x * y : Nat) : Int)]) ∧ w = w' := by
  have Hh := Lib.hid (mul_high x y hx hy)
  have hxy : x * y ≤ 1000 * 1000 := Nat.mul_le_mul hx hy
  go_enter Try.func124, Try.ntmps124
  go_wp2
  go_ret2
  refine ⟨?_, rfl⟩
  show Ending.returned (.tuple #[.int .u64 _, .int .u64 _]) = _
  rw [Hh.out, Mul64.mulN]
set_option maxHeartbeats 1000000 in
theorem mul_small (x y : Nat) (hx : x ≤ 1000) (hy : y ≤ 1000) (w : World) :
    Calls Try.prog 117 #[.int .u64 x, .int .u64 y] w fun e w' => e = .returned (.tuple #[.int .u64 0, .int .u64 ((x * y : Nat) : Int)]) ∧ w = w' := by
  obtain ⟨p, Hp⟩ : ∃ p, Hid (x * y = p) := ⟨_, rfl⟩
  have H := Lib.hid (mul64_small x y hx hy w)
  rw [Hp.out] at H ⊢
  go_enter Try.func117, Try.ntmps117
  go_wp2_with (go_at_call 124; refine H.out.mono ?_; rintro e w' ⟨rfl, rfl⟩)
  go_ret2
  exact ⟨rfl, rfl⟩
end Go.Proofs.Ytdhelapgdgekfaa
namespace Go.Proofs.Ytdhelapgdgekfaa
open Go.ChangeShapes Go.WideShapes Go.ChangeAt Go.RowKit
set_option linter.unusedVariables false
set_option maxRecDepth 4000

def OwnedList (w : World) (zs : List Int) (e : Ending) (w' : World) : Prop :=
  ∃ v, e = .returned v ∧ w'.ownsRow w.heap.size 3 1 v zs.length (zs.map (Value.int .i64)) ∧ Below w.heap.size w w'

theorem splice_rep (x : Int) (L m j : Nat) (hm : m + j ≤ L) : splice (List.replicate m (Value.int .i64 x) ++ List.replicate (L - m) (Value.int .i64 0)) m (List.replicate j (Value.int .i64 x)) = List.replicate (m + j) (Value.int .i64 x) ++ List.replicate (L - (m + j)) (Value.int .i64 0) := by
  unfold splice
  rw [List.take_append_of_le_length (by simp), List.take_of_length_le (by simp), List.drop_append]
  simp only [List.length_replicate, List.drop_replicate]
  rw [show m - (m + j) = 0 by omega, show L - m - (m + j - m) = L - (m + j) by omega]
  simp only [List.replicate_zero, List.nil_append]
  rw [← List.append_assoc, List.replicate_append_replicate]
theorem mul_one_any (L : Nat) (hL : L ≤ 1000) (w : World) :
    Calls Try.prog 117 #[.int .u64 1, .int .u64 L] w fun e w' => e = .returned (.tuple #[.int .u64 0, .int .u64 (L : Int)]) ∧ w = w' := by
  have h := mul_small 1 L (by omega) hL w
  rw [Nat.one_mul] at h
  exact h

theorem own_block {w : World} {B b n : Nat} {xs : List Value} (h : w.ownsRow B 3 1 (.slice (some ⟨b, 0, none⟩) n n) n xs) : w.heap[b]? = some (.cells xs.toArray 3 (0, 0)) := by
  obtain ⟨h0, h1⟩ := h
  rcases h1 with ⟨h1, _⟩ | ⟨g, cap, cur, hv, _, hh, _, _, hs, ht⟩
  · cases h1
  · injection hv with h1 h2 h3
    injection h1 with h1
    injection h1 with h1
    subst h1 h3
    have : cur = xs.toArray := by
      rw [List.take_of_length_le (by rw [Array.length_toList, hs]; exact Nat.le_refl _)] at ht
      rw [← ht]
    rw [← this]
    exact hh
theorem intSize : (Try.prog.info? 3).map (·.size) = some 1 := by kernel_rfl
theorem rep_min {L : Nat} (h : 1 ≤ L) {x : Int} : ([Value.int .i64 x]).length = Nat.min 1 L := by
  show 1 = min 1 L
  omega
theorem rep_fit {L : Nat} (h : 1 ≤ L) {x : Int} : 0 + ([Value.int .i64 x]).length ≤ (List.replicate L (Value.int .i64 0)).length := by simp; omega
theorem one_cell {w : World} {g : Nat} {x : Int} (h : w.cell? ⟨g, 0, none⟩ = some (.int .i64 x)) : ∀ j v, ([Value.int .i64 x])[j]? = some v → w.cell? ((⟨g, 0, none⟩ : Addr).add j) = some v := by
  intro j v hj
  match j, hj with
  | 0, hj => simp at hj; subst hj; simpa [Addr.add] using h
theorem one_one (x : Int) : ∀ v ∈ [Value.int .i64 x], v.oneCell' = true := by intro v hv; simp at hv; subst hv; rfl

theorem rep_made {w w1 : World} {L g : Nat} {x : Int} (hown1 : w1.ownsRow w.heap.size 3 1 (.slice (some ⟨w.heap.size, 0, none⟩) L L) L (madeCells (Value.int .i64 0).cells (L * 1)).toList) (hg1 : w.grownBy w1 none)
    (hg : g < w.heap.size) (hc : w.cell? ⟨g, 0, none⟩ = some (.int .i64 x)) :
    Hid (w1.heap[w.heap.size]? = some (.cells (List.replicate L (Value.int .i64 0)).toArray 3 (0, 0))) ∧ Hid (w1.cell? ⟨g, 0, none⟩ = some (.int .i64 x)) ∧ Below w.heap.size w w1 := by
  have hblk := own_block hown1
  rw [made_ints] at hblk
  have hnx1 : Below w.heap.size w w1 := (Below.refl _ _).grown hg1 (Nat.le_refl _) (fun j hj => by cases hj)
  exact ⟨hblk, (hnx1.cell (p := ⟨g, 0, none⟩) hg).trans hc, hnx1⟩

def reps (x : Int) (L m : Nat) : List Value := List.replicate m (Value.int .i64 x) ++ List.replicate (L - m) (Value.int .i64 0)
theorem reps_one (x : Int) {L : Nat} (h : 1 ≤ L) : splice (List.replicate L (Value.int .i64 0)) 0 [.int .i64 x] = reps x L 1 := by
  have := splice_rep x L 0 1 (by omega)
  simpa [reps] using this
theorem reps_length (x : Int) {L m : Nat} (h : m ≤ L) : (reps x L m).length = L := by simp [reps]; omega
theorem reps_min (x : Int) (m L : Nat) : (List.replicate (min m (L - m)) (Value.int .i64 x)).length = Nat.min m (L - m) := by exact List.length_replicate
theorem reps_fit (x : Int) {m L : Nat} (h : m ≤ L) : m + (List.replicate (min m (L - m)) (Value.int .i64 x)).length ≤ (reps x L m).length := by
  rw [reps_length x h, List.length_replicate]; omega
theorem reps_oneCell (x : Int) (j : Nat) : ∀ v ∈ List.replicate j (Value.int .i64 x), v.oneCell' = true := by
  intro v hv; rw [List.eq_of_mem_replicate hv]; rfl
theorem reps_cells {w : World} {b L m j : Nat} {x : Int} (h : w.heap[b]? = some (.cells (reps x L m).toArray 3 (0, 0))) (hj : j ≤ m) :
    ∀ i v, (List.replicate j (Value.int .i64 x))[i]? = some v → w.cell? ((⟨b, 0, none⟩ : Addr).add i) = some v := by
  intro i v hv
  have hi : i < j := by have := (List.getElem?_eq_some_iff.1 hv).1; simpa using this
  have he : (⟨b, 0, none⟩ : Addr).add i = ⟨b, i, none⟩ := by unfold Addr.add; split <;> simp_all
  rw [List.getElem?_replicate, if_pos hi] at hv
  rw [he, cell_of_row _ _ _ _ _ _ h, ← hv]
  simp [reps, List.getElem?_append_left (show i < (List.replicate m (Value.int .i64 x)).length by simp; omega), show i < m by omega]

theorem reps_done {w wr : World} {x : Int} {m : Nat} (h : wr.heap[w.heap.size]? = some (.cells (reps x m m).toArray 3 (0, 0))) (hnx : Below w.heap.size w wr) (hm : m ≤ 1000) :
    OwnedList w (List.replicate m x) (.returned (.slice (some ⟨w.heap.size, 0, none⟩) m m)) wr := by
  have e : reps x m m = (List.replicate m x).map (Value.int .i64) := by simp [reps]
  refine ⟨_, rfl, ⟨by simp, .inr ⟨w.heap.size, m, _, by simp, Nat.le_refl _, h, by simp, by unfold maxLen; omega, ?_, ?_⟩⟩, hnx⟩
  · rw [List.size_toArray, reps_length x (Nat.le_refl _), Nat.mul_one]
  · rw [e]
    rw [List.take_of_length_le (by simp)]

set_option maxHeartbeats 400000 in
theorem repeat_any (g L : Nat) (x : Int) (w : World) (hL : 1 ≤ L) (hL2 : L ≤ 1000) (hg : g < w.heap.size) (hc : w.cell? ⟨g, 0, none⟩ = some (.int .i64 x)) :
    Calls Try.prog 101 #[.slice (some ⟨g, 0, none⟩) 1 1, .int .i64 (L : Int)] w (OwnedList w (List.replicate L x)) := by
  obtain ⟨i0, hi0, hz0, hz1, hz2⟩ := info_parts intInfo
  go_enter Try.func101, Try.ntmps101
  go_wp2_with fail
  refine (mul_one_any L hL2 w).mono ?_
  rintro e w' ⟨rfl, rfl⟩
  go_wp2_with (first
    | (at_make; refine wpList_make_full _ rfl _ _ 37 rfl w.heap.size 3 i0 _ 1 Try.underlying37 hi0 hz0 hz1 _ _ _ _ L rfl rfl rfl rfl (by rw [hz2]; omega) (by unfold maxLen; omega) (Nat.le_refl _) ?_; intro w1 hown1 hg1; obtain ⟨Hblk, Hcx, hnx1⟩ := rep_made hown1 hg1 hg hc; clear hown1 hg1)
    | (with_reducible refine wpList_copy_splice rfl (.tmp 31) (.tmp 32) 37 37 rfl 3 Try.underlying37 intSize _ _ L L 1 1 rfl rfl w.heap.size 0 (List.replicate L (Value.int .i64 0)) 3 Hblk.out [.int .i64 x] (rep_min hL) (fun _ => ⟨rfl, _, rfl, one_cell Hcx.out⟩) (rep_fit hL) (one_one x) w.heap.size w hnx1 (Nat.le_refl _) ?_; intro w2 hb2 hnx2))
  have hb2' : w2.heap[w.heap.size]? = some (.cells (reps x L 1).toArray 3 (0, 0)) := by rw [← reps_one x hL]; exact hb2
  have Hb2 := Lib.hid hb2'
  clear hb2 hb2'
  go_loopw [8] (fun i wr => ∃ m : Nat, 1 ≤ m ∧ m ≤ L ∧ i = .int .i64 m ∧ Hid (wr.heap[w.heap.size]? = some (.cells (reps x L m).toArray 3 (0, 0))) ∧ Below w.heap.size w wr) (fun i _ => L - (intOf i).toNat)
  case atStart => exact ⟨1, Nat.le_refl _, hL, rfl, Hb2, hnx2⟩
  case round =>
    clear Hb2 hnx2
    obtain ⟨m, hm1, hm2, rfl, Hb, hnx⟩ := hrel
    by_cases hlt : m < L
    · have hLm : ¬ L = m := by omega
      have hj : min m (L - m) ≤ L - m := Nat.min_le_right _ _
      have hj1 : 1 ≤ min m (L - m) := by omega
      have HbD : Hid (wr.drew.heap[w.heap.size]? = some (.cells (reps x L m).toArray 3 (0, 0))) := Hb
      go_wp2
      go_region_law (refine step_copy_splice rfl (.tmp 41) (.tmp 44) 37 37 rfl 3 Try.underlying37 intSize (some ⟨w.heap.size, m, none⟩) (some ⟨w.heap.size, 0, none⟩) (L - m) (L - m) m L (by go_simp) (by go_simp) w.heap.size m (reps x L m) 3 HbD.out (List.replicate (min m (L - m)) (Value.int .i64 x)) (reps_min x m L) (fun _ => ⟨rfl, _, rfl, reps_cells HbD.out (Nat.min_le_left _ _)⟩) (reps_fit x hm2) (reps_oneCell x _) w.heap.size w hnx.drew (Nat.le_refl _) ?_; intro w4 hg4 hb4)
      have hb5 : w4.heap[w.heap.size]? = some (.cells (reps x L (m + min m (L - m))).toArray 3 (0, 0)) := by
        have h := hg4.out
        rw [show splice (reps x L m) m (List.replicate (min m (L - m)) (Value.int .i64 x)) = reps x L (m + min m (L - m)) from splice_rep x L m _ (by omega)] at h
        exact h
      have Hb5 := Lib.hid hb5
      clear hb5 hg4
      generalize hjj : min m (L - m) = j at *
      have Hjj := Lib.hid hjj
      clear hjj
      have hw : IntKind.i64.wrap ((m : Int) + (j : Int)) = (m : Int) + (j : Int) := IntWalk.i64_in _ (by omega)
      rw [hw]
      clear hw
      go_simp
      go_wp2
      go_roundw
      case rel => exact ⟨m + j, by omega, by omega, by go_num, Hb5, hb4⟩
      case measure => simp [intOf]; omega
    · obtain rfl : m = L := by omega
      go_wp2
      go_ret
      exact reps_done Hb.out hnx hL2
end Go.Proofs.Ytdhelapgdgekfaa
namespace Go.Proofs.Ytdhelapgdgekfaa
open Go.ChangeShapes Go.WideShapes Go.ChangeAt Go.RowKit
set_option linter.unusedVariables false
set_option maxRecDepth 4000

theorem rowX_own_set {n k : Nat} (hk : k < n) : (List.replicate n (-1 : Int)).set k 0 = rowX ownX n k := by
  unfold rowX ownX
  apply List.ext_getElem?
  intro i
  rw [List.getElem?_set]
  by_cases hi : i < n
  · by_cases e : k = i
    · subst e; simp [hi]
    · simp [hi, e]
  · simp [hi]; omega

set_option maxHeartbeats 1600000 in
theorem tableW_any (n : Nat) (w : World) (h1 : 1 ≤ n) (h7 : n ≤ 7) : Calls Try.prog 61 #[.int .i64 n] w (NTab w n ownX) := by
  obtain ⟨is, his, hzs0, hzs1, hzs2⟩ := info_parts slInfo2
  have hbi : is.bytes * n ≤ 281474976710656 := by rw [hzs2]; omega
  have hml : n ≤ maxLen := by unfold maxLen; omega
  go_enter Try.func61, Try.ntmps61
  go_wp2_with (at_make; refine wpList_make_full _ rfl _ _ 25 rfl w.heap.size 37 is _ 1 Try.underlying25 his hzs0 hzs1 _ _ _ _ n rfl rfl rfl rfl hbi hml (Nat.le_refl _) ?_; intro w1 hown1 hg1)
  have hb1 : Below w.heap.size w w1 := (Below.refl _ _).grown hg1 (Nat.le_refl _) (fun j hj => by cases hj)
  rw [Nat.mul_one, half_none] at hown1
  obtain ⟨G, HG⟩ : ∃ G, Hid (w.heap.size = G) := ⟨_, rfl⟩
  have ho1 : w1.ownsRow w.heap.size 37 1 (.slice (some ⟨G, 0, none⟩) n n) n (half (fun _ => .slice none 0 0) 0 n) := by rw [← HG.out]; exact hown1
  have hGB : w.heap.size ≤ G := Nat.le_of_eq HG.out
  rw [HG.out]
  have HO1 := Lib.hid ho1
  have HB1 := Lib.hid hb1
  clear hown1 hg1 ho1 hb1
  go_loopw [8] (fun i wr => ∃ k : Nat, ∃ VR, k ≤ n ∧ i = .int .i64 k ∧ wr.ownsRow w.heap.size 37 1 (.slice (some ⟨G, 0, none⟩) n n) n (half VR k n) ∧ TT wr w.heap.size k VR (rowX ownX n) ∧ Below w.heap.size w wr) (fun i _ => n - (intOf i).toNat)
  case atStart => exact ⟨0, fun _ => .slice none 0 0, Nat.zero_le _, rfl, HO1.out, ⟨fun j hj => by omega, fun i j g hi => by omega⟩, HB1.out⟩
  case round =>
    clear HO1 HB1
    obtain ⟨k, VR, hk, rfl, hO, hT, hnx⟩ := hrel
    by_cases hlt : k < n
    · have HO := Lib.hid hO
      have HT := Lib.hid hT
      have HB := Lib.hid hnx
      have hbl := (Below.refl wr.heap.size wr).alloc (Nat.le_refl _) (.cells #[.int .i64 (-1)] 3)
      have hsz := size_alloc1 wr (.cells #[.int .i64 (-1)] 3)
      have Hrep := Lib.hid (repeat_any wr.heap.size n (-1) (wr.alloc (.cells #[.int .i64 (-1)] 3)) h1 (by omega) (by omega) (by rw [cell_of_row _ _ _ _ _ _ (heap_alloc_new wr _)]; rfl))
      have HBL := Lib.hid hbl
      have HSZ := Lib.hid hsz
      clear hO hT hnx hbl hsz
      go_wp2_with fail
      refine Hrep.out.mono ?_
      rintro e wC ⟨v, rfl, hownC, hnxC⟩
      rw [List.length_replicate] at hownC
      have hbC : Below wr.heap.size wr wC := HBL.out.trans (hnxC.mono HBL.out.size)
      have hownD := ownN_base hownC (B' := wr.heap.size) HBL.out.size
      obtain ⟨A, c, rfl, -, -, hA⟩ := own_sliceN hownC
      obtain ⟨R, rfl, -, -⟩ := hA (by omega)
      obtain ⟨⟨x, cx⟩, fx, hst, hTT, hgB⟩ := tabH_step (ls := upd (rowX ownX n) k (List.replicate n (-1))) hlt HB.out.size (HT.out.congr (fun j hj => (upd_other _ _ (by omega)).symm)) HO.out hbC (by rw [upd_at, List.length_replicate]; exact hownD)
      obtain ⟨hT2, hRB⟩ := hTT.setAt (j := k) (n := n) (R := R) (c := c) (by omega) (by rw [upd_at, List.length_replicate]) (upd_at _ _ _) k 0
      have hrowR := hTT.own k (by omega)
      rw [upd_at, upd_at, List.length_replicate] at hrowR
      obtain ⟨⟨cs, hcs⟩, -, -⟩ := own_heap hrowR (g := R) rfl
      have hO2 := outer_setInt (b := k) (u := .int .i64 0) hst hcs
      have cr : (wC.setCell ⟨G, k, none⟩ (.slice (some ⟨R, 0, none⟩) n c)).cell? ⟨R, k, none⟩ = some (.int .i64 (-1)) := by
        rw [hrowR.cellAt k (by omega)]; simp [hlt]
      have fr := hrowR.frozenAt k
      have ck : (wC.setCell ⟨G, k, none⟩ (.slice (some ⟨R, 0, none⟩) n c)).cell? ⟨G, k, none⟩ = some (.slice (some ⟨R, 0, none⟩) n c) := by
        rw [hst.cellAt k (by omega)]; simp [half, hlt, upd_at]
      have hB2 := (((HB.out.trans (hbC.mono HB.out.size)).setCell (p := ⟨G, k, none⟩) hgB (.slice (some ⟨R, 0, none⟩) n c))).setCell (p := ⟨R, k, none⟩) hRB (.int .i64 0)
      have HO2 := Lib.hid hO2
      have HT2 := Lib.hid (hT2.congr (ls' := rowX ownX n) (fun j hj => by
        by_cases e : j = k
        · subst e; rw [upd_at, upd_at, rowX_own_set hlt]
        · rw [upd_other _ _ e, upd_other _ _ e]))
      have HB2 := Lib.hid hB2
      clear hO2 hT2 hB2 hrowR hcs hst hTT hownC hownD hbC hnxC hA
      go_wp2
      go_roundw
      case rel => exact ⟨k + 1, _, by omega, by go_num, HO2.out, HT2.out, HB2.out⟩
      case measure => simp [intOf]; omega
    · obtain rfl : k = n := by omega
      rw [half_all] at hO
      have HO := Lib.hid hO
      have HT := Lib.hid hT
      have HB := Lib.hid hnx
      clear hO hT hnx
      go_wp2
      go_ret
      exact ⟨_, VR, rfl, HO.out, HT.out, HB.out⟩
end Go.Proofs.Ytdhelapgdgekfaa
