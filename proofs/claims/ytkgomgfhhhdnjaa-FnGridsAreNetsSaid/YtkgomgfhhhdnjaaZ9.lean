/-
  The exact laws of chapter 9 follow from the functions' contracts: the program's answer is the model's, the arguments stay, and a row owns its memory.
  Conditions: none beyond the contracts'.
-/
import Derived.Test.YtkgomgfhhhdnjaaZ8
import Derived.Test.YtkgomgfhhhdnjaaZ3
import Derived.Test.YtkgomgfhhhdnjaaZ5
namespace Go.Proofs.Ytkgomgfhhhdnjaa
open Go.ChangeShapes Go.WideShapes Go.ChangeAt Go.RowKit
set_option linter.unusedVariables false
set_option maxRecDepth 4000

theorem lstG_mk {w : World} {b n : Nat} {zs : List Int} (h : RdI w w.heap.size (some ⟨b, 0, none⟩) zs) (hn : zs.length = n) (hm : n ≤ 1048576) : LstG w (some ⟨b, 0, none⟩) n n zs := ⟨h, hn, ⟨Nat.le_refl _, by omega⟩, hm⟩
theorem blG_len (w h c far : Int) : (blG w h c far).length ≤ 10 := by
  unfold blG
  split
  · rename_i hh
    obtain ⟨a, b, rfl, rfl, g⟩ := gok_nat hh.1
    have h1 := ballN_len a (a * b) c.toNat far
    have h2 := g.n10
    simp only [Int.toNat_natCast]
    unfold ballL
    rw [List.length_map]
    omega
  · simp
theorem slN_len (w n a : Nat) : (slN w n a).length ≤ n := by
  have := List.length_filter_le (fun c => decide ((c % w + 2 * (c / w)) % 5 = a)) (List.range n)
  rwa [List.length_range] at this
theorem slG_len (w h c : Int) : (slG w h c).length ≤ 100 := by
  unfold slG
  split
  · rename_i hh
    obtain ⟨a, b, rfl, rfl, g⟩ := rok_nat hh.1
    have h1 := slN_len a (a * b) c.toNat
    have h2 := g.n100
    simp only [Int.toNat_natCast]
    unfold slL
    rw [List.length_map]
    omega
  · simp

set_option maxHeartbeats 1600000 in
theorem exBallOf_walk (a : Int) (b : Int) (x : Int) (y : Int) (w : World) (hwa : (Lit.int .i64 a).wf = true) (hwb : (Lit.int .i64 b).wf = true) (hwx : (Lit.int .i64 x).wf = true) (hwy : (Lit.int .i64 y).wf = true) :
    Calls Try.prog 11 #[.int .i64 a, .int .i64 b, .int .i64 x, .int .i64 y] w fun e w' => e = .returned (.bool true) ∧ Below w.heap.size w w' := by
  clear hwa hwb hwx hwy
  have HI := Lib.hid iBallOf_ok
  have HS := Lib.hid sBallOf_ok
  have hm2 := blG_len a b x y
  obtain ⟨xs, Hx⟩ : ∃ xs, Hid (blG a b x y = xs) := ⟨_, rfl⟩
  rw [Hx.out] at hm2
  obtain ⟨m, Hm⟩ : ∃ m, Hid (xs.length = m) := ⟨_, rfl⟩
  rw [Hm.out] at hm2
  have HI2 : Hid (∀ (w : World), Calls Try.prog 17 #[.int .i64 a, .int .i64 b, .int .i64 x, .int .i64 y] w fun e w' => ∃ A' c', e = .returned (.slice A' m c') ∧ Hid (w'.ownsRow w.heap.size 3 1 (.slice A' m c') m (xs.map (Value.int .i64))) ∧ Hid (Below w.heap.size w w')) := fun w => by
    have := HI.out a b x y w
    unfold RowG at this
    rw [Hx.out, Hm.out] at this
    exact this
  have HS2 : Hid (∀ (w : World), Calls Try.prog 19 #[.int .i64 a, .int .i64 b, .int .i64 x, .int .i64 y] w fun e w' => ∃ A' c', e = .returned (.slice A' m c') ∧ Hid (w'.ownsRow w.heap.size 3 1 (.slice A' m c') m (xs.map (Value.int .i64))) ∧ Hid (Below w.heap.size w w')) := fun w => by
    have := HS.out a b x y w
    unfold RowG at this
    rw [Hx.out, Hm.out] at this
    exact this
  clear HI HS
  go_enter Try.func11, Try.ntmps11
  go_wp2_with fail
  refine (HS2.out w).mono ?_
  rintro e w2 ⟨A0, c0, rfl, ho0, hq2⟩
  obtain ⟨A0', c0', he0, -, -, hR0⟩ := own_slice ho0.out Hm.out
  injection he0 with he1 he2 he3
  subst he1 he3
  have R0 := Lib.hid hR0
  have B2 := Lib.hid hq2.out
  clear hR0 hq2 he2 ho0
  go_wp2_with fail
  refine (HI2.out w2).mono ?_
  rintro e w4 ⟨A1, c1, rfl, O1, D4⟩
  obtain ⟨A1', c1', he1', -, -, hR1⟩ := own_slice O1.out Hm.out
  injection he1' with he1 he2 he3
  subst he1 he3
  have P1 := Lib.hid hR1
  have C4 := Lib.hid D4.out
  have B4 := Lib.hid (B2.out.trans (C4.out.mono B2.out.size))
  clear hR1 he2
  go_wp2_with fail
  refine (calls_drawn (eqInt_same _ _ _ _ _ _ xs w4 _ _ P1.out Hm.out (R0.out.below C4.out) Hm.out (by omega))).mono ?_
  rintro e w5 ⟨rfl, hnx5⟩
  have O9 := Lib.hid (ownN_below O1.out hnx5)
  have C9 := Lib.hid (C4.out.trans (hnx5.mono C4.out.size))
  have B9 := Lib.hid (B4.out.trans (hnx5.mono B4.out.size))
  have D9 : Hid (w2.heap.size ≤ w5.heap.size) := C9.out.size
  clear hnx5
  go_wp2_with fail
  refine (markRow_any w5 _ m c1 A1 xs O9.out Hm.out (by omega) D9.out).mono ?_
  rintro e w10 ⟨rfl, hO10, hnx10⟩
  obtain ⟨A1', c1', he8, -, -, hP10⟩ := own_slice hO10 (mk_len 1 m)
  injection he8 with he1 he2 he3
  subst he1 he3
  have P10 := Lib.hid hP10
  have C10 := Lib.hid (C9.out.trans hnx10)
  have B10 := Lib.hid (B2.out.trans (C10.out.mono B2.out.size))
  have hpos2 : ¬ (1 + ((m : Nat) : Int)) < 0 := by omega
  have hbn : ∀ x : Int, (x != x) = false := fun x => by simp
  clear hO10 hnx10 hP10 he2
  go_wp2_with fail
  refine (heldI_any w10 _ m c1 1 A1 P10.out (by omega) (by omega) (by omega)).mono ?_
  rintro e w' ⟨rfl, rfl⟩
  go_wp2_with fail
  refine (HI2.out w10).mono ?_
  rintro e w12 ⟨A2, c2, rfl, ho2, hq12⟩
  obtain ⟨A2', c2', he2', -, -, hR2⟩ := own_slice ho2.out Hm.out
  injection he2' with he1 he2 he3
  subst he1 he3
  have P2 := Lib.hid hR2
  have F12 := Lib.hid hq12.out
  have C12 := Lib.hid (C10.out.trans (hq12.out.mono C10.out.size))
  have B12 := Lib.hid (B10.out.trans (hq12.out.mono B10.out.size))
  clear hR2 hq12 ho2 he2
  go_wp2_with fail
  refine (calls_drawn (eqInt_same _ _ _ _ _ _ xs w12 _ _ P2.out Hm.out (R0.out.below C12.out) Hm.out (by omega))).mono ?_
  rintro e w13 ⟨rfl, hnx13⟩
  have F13 := Lib.hid (F12.out.trans (hnx13.mono F12.out.size))
  have B13 := Lib.hid (B12.out.trans (hnx13.mono B12.out.size))
  clear hnx13
  go_wp2_with fail
  refine (heldI_any w13 _ m c1 1 A1 (P10.out.below F13.out) (by omega) (by omega) (by omega)).mono ?_
  rintro e w' ⟨rfl, rfl⟩
  go_wp2
  go_ret
  exact ⟨rfl, B13.out⟩
set_option maxHeartbeats 1600000 in
theorem exSlantCells_walk (a : Int) (b : Int) (x : Int) (w : World) (hwa : (Lit.int .i64 a).wf = true) (hwb : (Lit.int .i64 b).wf = true) (hwx : (Lit.int .i64 x).wf = true) :
    Calls Try.prog 15 #[.int .i64 a, .int .i64 b, .int .i64 x] w fun e w' => e = .returned (.bool true) ∧ Below w.heap.size w w' := by
  clear hwa hwb hwx
  have HI := Lib.hid iSlantCells_ok
  have HS := Lib.hid sSlantCells_ok
  have hm2 := slG_len a b x
  obtain ⟨xs, Hx⟩ : ∃ xs, Hid (slG a b x = xs) := ⟨_, rfl⟩
  rw [Hx.out] at hm2
  obtain ⟨m, Hm⟩ : ∃ m, Hid (xs.length = m) := ⟨_, rfl⟩
  rw [Hm.out] at hm2
  have HI2 : Hid (∀ (w : World), Calls Try.prog 32 #[.int .i64 a, .int .i64 b, .int .i64 x] w fun e w' => ∃ A' c', e = .returned (.slice A' m c') ∧ Hid (w'.ownsRow w.heap.size 3 1 (.slice A' m c') m (xs.map (Value.int .i64))) ∧ Hid (Below w.heap.size w w')) := fun w => by
    have := HI.out a b x w
    unfold RowG at this
    rw [Hx.out, Hm.out] at this
    exact this
  have HS2 : Hid (∀ (w : World), Calls Try.prog 33 #[.int .i64 a, .int .i64 b, .int .i64 x] w fun e w' => ∃ A' c', e = .returned (.slice A' m c') ∧ Hid (w'.ownsRow w.heap.size 3 1 (.slice A' m c') m (xs.map (Value.int .i64))) ∧ Hid (Below w.heap.size w w')) := fun w => by
    have := HS.out a b x w
    unfold RowG at this
    rw [Hx.out, Hm.out] at this
    exact this
  clear HI HS
  go_enter Try.func15, Try.ntmps15
  go_wp2_with fail
  refine (HS2.out w).mono ?_
  rintro e w2 ⟨A0, c0, rfl, ho0, hq2⟩
  obtain ⟨A0', c0', he0, -, -, hR0⟩ := own_slice ho0.out Hm.out
  injection he0 with he1 he2 he3
  subst he1 he3
  have R0 := Lib.hid hR0
  have B2 := Lib.hid hq2.out
  clear hR0 hq2 he2 ho0
  go_wp2_with fail
  refine (HI2.out w2).mono ?_
  rintro e w4 ⟨A1, c1, rfl, O1, D4⟩
  obtain ⟨A1', c1', he1', -, -, hR1⟩ := own_slice O1.out Hm.out
  injection he1' with he1 he2 he3
  subst he1 he3
  have P1 := Lib.hid hR1
  have C4 := Lib.hid D4.out
  have B4 := Lib.hid (B2.out.trans (C4.out.mono B2.out.size))
  clear hR1 he2
  go_wp2_with fail
  refine (calls_drawn (eqInt_same _ _ _ _ _ _ xs w4 _ _ P1.out Hm.out (R0.out.below C4.out) Hm.out (by omega))).mono ?_
  rintro e w5 ⟨rfl, hnx5⟩
  have O9 := Lib.hid (ownN_below O1.out hnx5)
  have C9 := Lib.hid (C4.out.trans (hnx5.mono C4.out.size))
  have B9 := Lib.hid (B4.out.trans (hnx5.mono B4.out.size))
  have D9 : Hid (w2.heap.size ≤ w5.heap.size) := C9.out.size
  clear hnx5
  go_wp2_with fail
  refine (markRow_any w5 _ m c1 A1 xs O9.out Hm.out (by omega) D9.out).mono ?_
  rintro e w10 ⟨rfl, hO10, hnx10⟩
  obtain ⟨A1', c1', he8, -, -, hP10⟩ := own_slice hO10 (mk_len 1 m)
  injection he8 with he1 he2 he3
  subst he1 he3
  have P10 := Lib.hid hP10
  have C10 := Lib.hid (C9.out.trans hnx10)
  have B10 := Lib.hid (B2.out.trans (C10.out.mono B2.out.size))
  have hpos2 : ¬ (1 + ((m : Nat) : Int)) < 0 := by omega
  have hbn : ∀ x : Int, (x != x) = false := fun x => by simp
  clear hO10 hnx10 hP10 he2
  go_wp2_with fail
  refine (heldI_any w10 _ m c1 1 A1 P10.out (by omega) (by omega) (by omega)).mono ?_
  rintro e w' ⟨rfl, rfl⟩
  go_wp2_with fail
  refine (HI2.out w10).mono ?_
  rintro e w12 ⟨A2, c2, rfl, ho2, hq12⟩
  obtain ⟨A2', c2', he2', -, -, hR2⟩ := own_slice ho2.out Hm.out
  injection he2' with he1 he2 he3
  subst he1 he3
  have P2 := Lib.hid hR2
  have F12 := Lib.hid hq12.out
  have C12 := Lib.hid (C10.out.trans (hq12.out.mono C10.out.size))
  have B12 := Lib.hid (B10.out.trans (hq12.out.mono B10.out.size))
  clear hR2 hq12 ho2 he2
  go_wp2_with fail
  refine (calls_drawn (eqInt_same _ _ _ _ _ _ xs w12 _ _ P2.out Hm.out (R0.out.below C12.out) Hm.out (by omega))).mono ?_
  rintro e w13 ⟨rfl, hnx13⟩
  have F13 := Lib.hid (F12.out.trans (hnx13.mono F12.out.size))
  have B13 := Lib.hid (B12.out.trans (hnx13.mono B12.out.size))
  clear hnx13
  go_wp2_with fail
  refine (heldI_any w13 _ m c1 1 A1 (P10.out.below F13.out) (by omega) (by omega) (by omega)).mono ?_
  rintro e w' ⟨rfl, rfl⟩
  go_wp2
  go_ret
  exact ⟨rfl, B13.out⟩
set_option maxHeartbeats 800000 in
theorem exGridCover_walk (a b x : Int) (w : World) (hwa : (Lit.int .i64 a).wf = true) (hwb : (Lit.int .i64 b).wf = true) (hwx : (Lit.int .i64 x).wf = true) :
    Calls Try.prog 12 #[.int .i64 a, .int .i64 b, .int .i64 x] w fun e w' => e = .returned (.bool true) ∧ Below w.heap.size w w' := by
  clear hwa hwb hwx
  have HI := Lib.hid (fun W => iGridCover_ok a b x W)
  have HS := Lib.hid (fun W => sGridCover_ok a b x W)
  obtain ⟨v, Hv⟩ : ∃ v, Hid (gcv a b x = v) := ⟨_, rfl⟩
  rw [Hv.out] at HI HS
  have hbn : ∀ x : Int, (x != x) = false := fun x => by simp
  go_enter Try.func12, Try.ntmps12
  go_wp2_with fail
  refine (HS.out w).mono ?_
  rintro e w2 ⟨rfl, h2⟩
  go_wp2_with fail
  refine (HI.out w2).mono ?_
  rintro e w3 ⟨rfl, h3⟩
  go_wp2
  go_ret
  exact ⟨rfl, h2.trans (h3.mono h2.size)⟩

set_option maxHeartbeats 800000 in
theorem exGridApart_walk (a b x : Int) (w : World) (hwa : (Lit.int .i64 a).wf = true) (hwb : (Lit.int .i64 b).wf = true) (hwx : (Lit.int .i64 x).wf = true) :
    Calls Try.prog 13 #[.int .i64 a, .int .i64 b, .int .i64 x] w fun e w' => e = .returned (.bool true) ∧ Below w.heap.size w w' := by
  clear hwa hwb hwx
  have HI := Lib.hid (fun W => iGridApart_ok a b x W)
  have HS := Lib.hid (fun W => sGridApart_ok a b x W)
  obtain ⟨v, Hv⟩ : ∃ v, Hid (gpk a b x = v) := ⟨_, rfl⟩
  rw [Hv.out] at HI HS
  have hbn : ∀ x : Int, (x != x) = false := fun x => by simp
  go_enter Try.func13, Try.ntmps13
  go_wp2_with fail
  refine (HS.out w).mono ?_
  rintro e w2 ⟨rfl, h2⟩
  go_wp2_with fail
  refine (HI.out w2).mono ?_
  rintro e w3 ⟨rfl, h3⟩
  go_wp2
  go_ret
  exact ⟨rfl, h2.trans (h3.mono h2.size)⟩

set_option maxHeartbeats 800000 in
theorem exIsPerfect_walk (a b : Int) (A : Option Addr) (c : Nat) (zs : List Int) (x : Int) (w : World) (hwa : (Lit.int .i64 a).wf = true) (hwb : (Lit.int .i64 b).wf = true) (hr : RdI w w.heap.size A zs) (hm : zs.length ≤ maxLen) (hwx : (Lit.int .i64 x).wf = true) :
    Calls Try.prog 14 #[.int .i64 a, .int .i64 b, .slice A zs.length c, .int .i64 x] w fun e w' => e = .returned (.bool true) ∧ Below w.heap.size w w' := by
  unfold maxLen at hm
  clear hwa hwb hwx
  obtain ⟨n, Hn⟩ : ∃ n, Hid (zs.length = n) := ⟨_, rfl⟩
  rw [Hn.out] at hm ⊢
  by_cases hb : 1048576 < n
  · clear hr
    go_enter Try.func14, Try.ntmps14
    go_wp2
    go_ret
    exact ⟨rfl, Below.refl _ _⟩
  · have HI := Lib.hid iIsPerfect_ok
    have HS := Lib.hid sIsPerfect_ok
    have HR := Lib.hid hr
    obtain ⟨v, Hv⟩ : ∃ v, Hid (prf a b zs x = v) := ⟨_, rfl⟩
    clear hr
    go_enter Try.func14, Try.ntmps14
    go_wp2_with fail
    refine (toInt_any A c n zs w HR.out Hn.out (by omega)).mono ?_
    rintro e w1 ⟨b1, rfl, hb1, hr1, hnx1, -⟩
    rw [Hn.out]
    go_wp2_with fail
    refine (HS.out a b _ _ _ zs x w1 (lstG_mk hr1 Hn.out (by omega))).mono ?_
    rintro e w2 ⟨rfl, hq2⟩
    rw [Hv.out]
    have HB2 := Lib.hid (hnx1.trans (hq2.mono hnx1.size))
    clear hr1 hnx1 hq2
    go_wp2_with fail
    refine (toInt_any A c n zs w2 ((HR.out.below HB2.out).more HB2.out.size) Hn.out (by omega)).mono ?_
    rintro e w3 ⟨b3, rfl, hb3, hr3, hnx3, -⟩
    rw [Hn.out]
    have HB3 := Lib.hid (HB2.out.trans (hnx3.mono HB2.out.size))
    have HR3 := Lib.hid hr3
    clear hr3 hnx3
    go_wp2_with fail
    refine (HI.out a b _ _ _ zs x w3 (lstG_mk HR3.out Hn.out (by omega))).mono ?_
    rintro e w4 ⟨rfl, hq4⟩
    rw [Hv.out]
    have HB4 := Lib.hid (HB3.out.trans (hq4.mono HB3.out.size))
    have HR4 := Lib.hid ((HR3.out.below hq4).more hq4.size)
    have hbn : ∀ x : Bool, (x != x) = false := fun x => by simp
    clear hq4
    go_wp2_with fail
    refine (toInt_any A c n zs w4 ((HR.out.below HB4.out).more HB4.out.size) Hn.out (by omega)).mono ?_
    rintro e w5 ⟨b5, rfl, hb5, hr5, hnx5, -⟩
    rw [Hn.out]
    have HB5 := Lib.hid (HB4.out.trans (hnx5.mono HB4.out.size))
    have HR5 := Lib.hid (HR4.out.below hnx5)
    clear hnx5
    go_wp2_with fail
    refine (eqInt_same _ _ _ _ _ _ zs w5 _ _ HR5.out Hn.out hr5 Hn.out (by omega)).mono ?_
    rintro e w6 ⟨rfl, q, rfl⟩
    go_wp2
    go_ret
    exact ⟨rfl, below_drewN HB5.out q⟩

end Go.Proofs.Ytkgomgfhhhdnjaa
