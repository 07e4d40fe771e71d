/-
  leastWay of the program, walked: call by call.
  Conditions: places in 0..50.
-/
import Derived.Test.YthgllpiclaihjaaJD
namespace Go.Proofs.Ythgllpiclaihjaa
open Go.ChangeShapes Go.WideShapes Go.ChangeAt Go.RowKit
set_option linter.unusedVariables false
set_option maxRecDepth 4000

theorem size_alloc3 (w : World) (o1 o2 o3 : Obj) : (((w.alloc o1).alloc o2).alloc o3).heap.size = w.heap.size + 1 + 1 + 1 := by
  show ((((w.heap.push o1).push o2).push o3)).size = _
  simp
theorem heap_past (w : World) (o o' : Obj) (b : Nat) (h : w.heap[b]? = some o') : (w.alloc o).heap[b]? = some o' :=
  (Below.heap_alloc _ _ _ (Array.getElem?_eq_some_iff.1 h).1).trans h
theorem heap_newJ (w : World) (o : Obj) (b : Nat) (hb : w.heap.size = b) : (w.alloc o).heap[b]? = some o := by subst hb; exact heap_alloc_new w o
theorem sz1J (w : World) (o : Obj) : (w.alloc o).heap.size = w.heap.size + 1 := by show (w.heap.push o).size = _; simp
set_option maxHeartbeats 3200000 in
theorem leastWay_step (F : Nat) (caps : Array Value) (g : Int → Int → Int) (w0 : World) (x : Int) (r : List Int) (hx : P50 x) (IH : LwAt (.func (.func F) #[] caps) g w0 r) (hbd : ∀ a b, P50 a → P50 b → 0 ≤ dwF g a b r ∧ dwF g a b r ≤ 600) :
    LwAt (.func (.func F) #[] caps) g w0 (x :: r) := by
  intro a b A n' c w ha hb hn hr hc hm hw
  obtain ⟨n, rfl⟩ : ∃ n, n' = n + 1 := ⟨r.length, by rw [← hn, List.length_cons]⟩
  have hn' : r.length = n := by rw [List.length_cons] at hn; omega
  obtain ⟨bw, ow, x', rfl, hbw, Hx', hcx⟩ := hr.x (k := 0) (by rw [hn]; omega)
  have hx' : x' = x := by have := Hx'.out; simpa using this.symm
  subst hx'
  rw [Nat.add_zero] at hcx
  obtain ⟨W, HW⟩ : ∃ W, Hid (((w.alloc (.cells #[.int .i64 a, .int .i64 b] 45)).alloc (.cells #[.slice (some ⟨bw, ow, none⟩) (n + 1) c] 23)).alloc (.cells #[.func (.func F) #[] caps] 46) = W) := ⟨_, rfl⟩
  have hB : Below w.heap.size w W := by
    rw [← HW.out]
    exact (((Below.refl _ w).alloc (Nat.le_refl _) _).alloc (by rw [sz1J]; omega) _).alloc (by rw [sz1J, sz1J]; omega) _
  have hs0 : W.heap[w.heap.size]? = some (.cells #[.int .i64 a, .int .i64 b] 45) := by
    rw [← HW.out]; exact heap_past _ _ _ _ (heap_past _ _ _ _ (heap_alloc_new w _))
  have hs1 : W.heap[w.heap.size + 1]? = some (.cells #[.slice (some ⟨bw, ow, none⟩) (n + 1) c] 23) := by
    rw [← HW.out]; exact heap_past _ _ _ _ (heap_newJ _ _ _ (sz1J _ _))
  have hs2 : W.heap[w.heap.size + 1 + 1]? = some (.cells #[.func (.func F) #[] caps] 46) := by
    rw [← HW.out]; exact heap_newJ _ _ _ (by rw [sz1J, sz1J])
  have c0 : W.cell? ⟨w.heap.size, 0, none⟩ = some (.int .i64 a) := by rw [cell_of_row _ _ _ _ _ _ hs0]; rfl
  have c1 : W.cell? ⟨w.heap.size, 1, none⟩ = some (.int .i64 b) := by rw [cell_of_row _ _ _ _ _ _ hs0]; rfl
  have cc : W.cell? ⟨w.heap.size + 1, 0, none⟩ = some (.slice (some ⟨bw, ow, none⟩) (n + 1) c) := by rw [cell_of_row _ _ _ _ _ _ hs1]; rfl
  have cl : W.cell? ⟨w.heap.size + 1 + 1, 0, none⟩ = some (.func (.func F) #[] caps) := by rw [cell_of_row _ _ _ _ _ _ hs2]; rfl
  have cx : W.cell? ⟨bw, ow, none⟩ = some (.int .i64 x') := (hB.cell (p := ⟨bw, ow, none⟩) hbw).trans hcx
  have ls := World.block_lt_of_cell? W _ c0
  have lc := World.block_lt_of_cell? W _ cc
  have ll := World.block_lt_of_cell? W _ cl
  have lx := World.block_lt_of_cell? W _ cx
  have hrW := (hr.below hB).more hB.size
  have hwW := hw.trans (hB.mono hw.size)
  have HLo : Hid (∀ W' : World, Below W.heap.size W W' → Calls Try.prog 61 #[.iface 65 (.agg #[.int .i64 a, .int .i64 x']), .pointer (some ⟨w.heap.size, 0, none⟩), .pointer (some ⟨w.heap.size + 1, 0, none⟩), .pointer (some ⟨w.heap.size + 1 + 1, 0, none⟩)] W' fun e w' => e = .returned (.int .i64 (gapI a x' + dwF g (min x' b) (max x' b) r)) ∧ Below W'.heap.size W' w') := fun W' h =>
    wayLow_any F caps g w0 r IH hbd a b x' n c bw ow _ _ _ W' ha hb hx hn' ((hrW.below h).more h.size) hc hm (hwW.trans (h.mono hwW.size)) ((h.cell (p := ⟨w.heap.size, 0, none⟩) ls).trans c0) ((h.cell (p := ⟨w.heap.size, 1, none⟩) ls).trans c1) ((h.cell (p := ⟨w.heap.size + 1, 0, none⟩) lc).trans cc) ((h.cell (p := ⟨w.heap.size + 1 + 1, 0, none⟩) ll).trans cl)
  have HHi : Hid (∀ W' : World, Below W.heap.size W W' → Calls Try.prog 61 #[.iface 66 (.agg #[.int .i64 b, .int .i64 x']), .pointer (some ⟨w.heap.size, 0, none⟩), .pointer (some ⟨w.heap.size + 1, 0, none⟩), .pointer (some ⟨w.heap.size + 1 + 1, 0, none⟩)] W' fun e w' => e = .returned (.int .i64 (gapI b x' + dwF g (min a x') (max a x') r)) ∧ Below W'.heap.size W' w') := fun W' h =>
    wayHigh_any F caps g w0 r IH hbd a b x' n c bw ow _ _ _ W' ha hb hx hn' ((hrW.below h).more h.size) hc hm (hwW.trans (h.mono hwW.size)) ((h.cell (p := ⟨w.heap.size, 0, none⟩) ls).trans c0) ((h.cell (p := ⟨w.heap.size, 1, none⟩) ls).trans c1) ((h.cell (p := ⟨w.heap.size + 1, 0, none⟩) lc).trans cc) ((h.cell (p := ⟨w.heap.size + 1 + 1, 0, none⟩) ll).trans cl)
  have Hd : Hid (dwF g a b (x' :: r) = min (gapI a x' + dwF g (min x' b) (max x' b) r) (gapI b x' + dwF g (min a x') (max a x') r)) := rfl
  obtain ⟨p, Hp⟩ : ∃ p, Hid (gapI a x' + dwF g (min x' b) (max x' b) r = p) := ⟨_, rfl⟩
  obtain ⟨q, Hq⟩ : ∃ q, Hid (gapI b x' + dwF g (min a x') (max a x') r = q) := ⟨_, rfl⟩
  rw [Hp.out] at HLo Hd
  rw [Hq.out] at HHi Hd
  rw [Hd.out]
  have K : Hid (∀ W', Below W.heap.size W W' → W'.cell? ⟨w.heap.size, 0, none⟩ = some (.int .i64 a) ∧ W'.cell? ⟨w.heap.size, 1, none⟩ = some (.int .i64 b) ∧ W'.cell? ⟨w.heap.size + 1, 0, none⟩ = some (.slice (some ⟨bw, ow, none⟩) (n + 1) c) ∧ W'.cell? ⟨bw, ow, none⟩ = some (.int .i64 x')) := fun W' h =>
    ⟨(h.cell (p := ⟨w.heap.size, 0, none⟩) ls).trans c0, (h.cell (p := ⟨w.heap.size, 1, none⟩) ls).trans c1, (h.cell (p := ⟨w.heap.size + 1, 0, none⟩) lc).trans cc, (h.cell (p := ⟨bw, ow, none⟩) lx).trans cx⟩
  have HB := Lib.hid hB
  have hmf : ∀ (fn : Fn) (first cap : Array Value) (w : World), (Instr.makeFunc fn first cap).run Try.prog w = .ok (.func fn first cap) w := fun _ _ _ _ => rfl
  have hn0 : ¬ ((n + 1 : Nat) : Int) = 0 := by omega
  have hi0 : (0 : Int) < ((n + 1 : Nat) : Int) := by omega
  have hsz : w.heap.size < W.heap.size := ls
  clear IH hbd hr hrW hwW hw hB hs0 hs1 hs2 hcx cl ll hx ha hb hn
  go_enter Try.func46, Try.ntmps46
  go_wp2
  rw [HW.out]
  go_region_held3 (fun w' => w'.cell? ⟨w.heap.size, 0, none⟩ = some (.int .i64 a) ∧ w'.cell? ⟨w.heap.size, 1, none⟩ = some (.int .i64 b) ∧ w'.cell? ⟨w.heap.size + 1, 0, none⟩ = some (.slice (some ⟨bw, ow, none⟩) (n + 1) c) ∧ w'.cell? ⟨bw, ow, none⟩ = some (.int .i64 x'))
    (first
      | go_keep
      | exact K.out _ hbl
      | exact K.out _ hbh)
    (first
      | (go_at_call 61
         with_reducible refine (HLo.out _ (Below.drew (Below.refl _ _))).mono ?_
         rintro e wl ⟨rfl, hql⟩
         have hbl : Below W.heap.size W wl := belowJ hql)
      | (go_at_call 61
         with_reducible refine (HHi.out _ hbl).mono ?_
         rintro e wh ⟨rfl, hqh⟩
         have hbh : Below W.heap.size W wh := hbl.trans (hqh.mono hbl.size)))
  generalize hz : (if q < p then q else p) = z
  have Hz : Hid (z = min p q) := by show _ = _; rw [← hz, Int.min_def]; split <;> split <;> omega
  clear hz
  go_wp2
  go_ret
  exact ⟨ret_int Hz.out, HB.out.trans (hbh.mono HB.out.size)⟩
theorem leastWay_all (F : Nat) (caps : Array Value) (g : Int → Int → Int) (w0 : World) (H0 : LwAt (.func (.func F) #[] caps) g w0 []) (hg : ∀ a b, 0 ≤ a → a ≤ 50 → 0 ≤ b → b ≤ 50 → 0 ≤ g a b ∧ g a b ≤ 100) : ∀ zs : List Int, On50 zs → zs.length ≤ 8 → LwAt (.func (.func F) #[] caps) g w0 zs
  | [], _, _ => H0
  | x :: r, h, h8 => leastWay_step F caps g w0 x r h.head (leastWay_all F caps g w0 H0 hg r h.tail (by rw [List.length_cons] at h8; omega)) (fun a b ha hb => by
      have h1 := dw_bd hg r a b h.tail ha.1 ha.2 hb.1 hb.2
      rw [List.length_cons] at h8
      omega)
/-- Nothing is left at the end. -/
theorem leastWay_zero0 (w0 : World) : LwAt (.func (.func 47) #[] #[]) zr2 w0 [] := by
  intro a b A n c w ha hb hn hr hc hm hw
  obtain rfl : n = 0 := by rw [← hn]; rfl
  obtain ⟨W, HW⟩ : ∃ W, Hid (((w.alloc (.cells #[.int .i64 a, .int .i64 b] 45)).alloc (.cells #[.slice A 0 c] 23)).alloc (.cells #[.func (.func 47) #[] #[]] 46) = W) := ⟨_, rfl⟩
  have hB : Below w.heap.size w W := by
    rw [← HW.out]
    exact (((Below.refl _ w).alloc (Nat.le_refl _) _).alloc (by rw [sz1J]; omega) _).alloc (by rw [sz1J, sz1J]; omega) _
  have HB := Lib.hid hB
  have H := Lib.hid (fun W => zeroLeft_any a b W)
  clear hr hw hB hn
  go_enter Try.func46, Try.ntmps46
  go_wp2_with fail
  rw [HW.out]
  refine (H.out W).mono ?_
  rintro e w' ⟨rfl, hq⟩
  go_wp2
  go_ret
  exact ⟨rfl, HB.out.trans (hq.mono HB.out.size)⟩
/-- The way to two places is left at the end. -/
def toXY (x y a b : Int) : Int := gapI a x + gapI b y
theorem leastWay_zeroXY (w0 : World) (x y : Int) (gx gy : Nat) (hx : P50 x) (hy : P50 y) (cx : w0.cell? ⟨gx, 0, none⟩ = some (.int .i64 x)) (cy : w0.cell? ⟨gy, 0, none⟩ = some (.int .i64 y)) :
    LwAt (.func (.func 56) #[] #[.pointer (some ⟨gx, 0, none⟩), .pointer (some ⟨gy, 0, none⟩)]) (toXY x y) w0 [] := by
  intro a b A n c w ha hb hn hr hc hm hw
  obtain rfl : n = 0 := by rw [← hn]; rfl
  obtain ⟨W, HW⟩ : ∃ W, Hid (((w.alloc (.cells #[.int .i64 a, .int .i64 b] 45)).alloc (.cells #[.slice A 0 c] 23)).alloc (.cells #[.func (.func 56) #[] #[.pointer (some ⟨gx, 0, none⟩), .pointer (some ⟨gy, 0, none⟩)]] 46) = W) := ⟨_, rfl⟩
  have hB : Below w.heap.size w W := by
    rw [← HW.out]
    exact (((Below.refl _ w).alloc (Nat.le_refl _) _).alloc (by rw [sz1J]; omega) _).alloc (by rw [sz1J, sz1J]; omega) _
  have h0 := hw.trans (hB.mono hw.size)
  have lx := World.block_lt_of_cell? w0 _ cx
  have ly := World.block_lt_of_cell? w0 _ cy
  have H := Lib.hid (workLeft_any a b x y gx gy W ha hb hx hy ((h0.cell (p := ⟨gx, 0, none⟩) lx).trans cx) ((h0.cell (p := ⟨gy, 0, none⟩) ly).trans cy))
  have HB := Lib.hid hB
  clear hr hw hB hn h0 cx cy
  go_enter Try.func46, Try.ntmps46
  go_wp2_with fail
  rw [HW.out]
  refine H.out.mono ?_
  rintro e w' ⟨rfl, hq⟩
  go_wp2
  go_ret
  exact ⟨rfl, HB.out.trans (hq.mono HB.out.size)⟩
end Go.Proofs.Ythgllpiclaihjaa
