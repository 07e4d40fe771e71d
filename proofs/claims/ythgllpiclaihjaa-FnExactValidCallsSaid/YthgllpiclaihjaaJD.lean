/-
  leastWay of the program, walked: the closure over who goes.
  Conditions: places in 0..50.
-/
import Derived.Test.YthgllpiclaihjaaJC
import Derived.Deep.RegionHeld3
namespace Go.Proofs.Ythgllpiclaihjaa
open Go.ChangeShapes Go.WideShapes Go.ChangeAt Go.RowKit
set_option linter.unusedVariables false
set_option maxRecDepth 4000

/-- leastWay for a list of calls, as long as what is below a world stays. -/
def LwAt (FV : Value) (g : Int → Int → Int) (w0 : World) (zs : List Int) : Prop :=
  ∀ (a b : Int) (A : Option Addr) (n c : Nat) (W : World), P50 a → P50 b → zs.length = n → RdI W W.heap.size A zs → n ≤ c → c ≤ 9223372036854775807 → Below w0.heap.size w0 W →
    Calls Try.prog 46 #[.agg #[.int .i64 a, .int .i64 b], .slice A n c, FV] W fun e w' => e = .returned (.int .i64 (dwF g a b zs)) ∧ Below W.heap.size W w'
theorem RdI.tail {w : World} {B b off : Nat} {L : List Int} (h : RdI w B (some ⟨b, off, none⟩) L) : RdI w B (some ⟨b, off + 1, none⟩) L.tail := fun hp => by
  rw [List.length_tail] at hp
  obtain ⟨b', off', e, hb, hc⟩ := h (by omega)
  injection e with e
  injection e with e1 e2
  subst e1 e2
  refine ⟨b, off + 1, rfl, hb, fun i hi => ?_⟩
  rw [List.length_tail] at hi
  have hg : L.tail.getD i 0 = L.getD (i + 1) 0 := by cases L <;> simp
  rw [hg, show off + 1 + i = off + (i + 1) by omega]
  exact hc (i + 1) (by omega)
theorem belowJ {a w : World} (h : Below a.drew.heap.size a.drew w) : Below a.heap.size a w := ⟨h.os, h.tape, h.output, h.size, h.block⟩
theorem RdI.short {w : World} {B : Nat} {A : Option Addr} {L : List Int} (h : L.length = 0) : RdI w B A L := fun hp => by omega
theorem m_low (x y : Int) (w : World) : (method 185 65 (.agg #[.int .i64 x, .int .i64 y]) "loop.example/helpersinreach/impl.length").run Try.prog w = .ok (78, .agg #[.int .i64 x, .int .i64 y]) w := by kernel_rfl
theorem m_high (x y : Int) (w : World) : (method 185 66 (.agg #[.int .i64 x, .int .i64 y]) "loop.example/helpersinreach/impl.length").run Try.prog w = .ok (79, .agg #[.int .i64 x, .int .i64 y]) w := by kernel_rfl
/-- The calls behind the first one. -/
theorem tail_run (bw ow n c : Nat) (hc : n + 1 ≤ c) : ∃ A' c', (A' = some (⟨bw, ow + 1, none⟩ : Addr) ∨ n = 0) ∧ n ≤ c' ∧ c' ≤ c ∧ ∀ W' : World, (Instr.slice 23 (.slice (some ⟨bw, ow, none⟩) (n + 1) c) (some (.int .i64 1)) none none).run Try.prog W' = .ok (.slice A' n c') W' := by
  refine ⟨if c = 1 then some ⟨bw, ow, none⟩ else some ⟨bw, ow + 1, none⟩, c - 1, ?_, by omega, by omega, fun W' => ?_⟩
  · split
    · right; omega
    · left; rfl
  · have h1 : (1 : Int) ≤ ((n + 1 : Nat) : Int) := by omega
    go_simp
    exact fun h => absurd h (by omega)

set_option maxHeartbeats 1600000 in
theorem wayLow_any (F : Nat) (caps : Array Value) (g : Int → Int → Int) (w0 : World) (r : List Int) (IH : LwAt (.func (.func F) #[] caps) g w0 r) (hbd : ∀ a b, P50 a → P50 b → 0 ≤ dwF g a b r ∧ dwF g a b r ≤ 600)
    (a b x : Int) (n c bw ow sb cb lb : Nat) (W : World) (ha : P50 a) (hb : P50 b) (hx : P50 x) (hn : r.length = n) (hr : RdI W W.heap.size (some ⟨bw, ow, none⟩) (x :: r)) (hc : n + 1 ≤ c) (hm : c ≤ 9223372036854775807) (hw : Below w0.heap.size w0 W)
    (c0 : W.cell? ⟨sb, 0, none⟩ = some (.int .i64 a)) (c1 : W.cell? ⟨sb, 1, none⟩ = some (.int .i64 b)) (cc : W.cell? ⟨cb, 0, none⟩ = some (.slice (some ⟨bw, ow, none⟩) (n + 1) c)) (cl : W.cell? ⟨lb, 0, none⟩ = some (.func (.func F) #[] caps)) :
    Calls Try.prog 61 #[.iface 65 (.agg #[.int .i64 a, .int .i64 x]), .pointer (some ⟨sb, 0, none⟩), .pointer (some ⟨cb, 0, none⟩), .pointer (some ⟨lb, 0, none⟩)] W fun e w' => e = .returned (.int .i64 (gapI a x + dwF g (min x b) (max x b) r)) ∧ Below W.heap.size W w' := by
  have HL := Lib.hid (fun W' => lowLength_any a x W' ha hx)
  have HBe := Lib.hid (fun W' => behindLow_any a b a x W')
  have hlo : P50 (min x b) := ⟨by have := hx.1; have := hb.1; omega, by have := hx.2; omega⟩
  have hhi : P50 (max x b) := ⟨by have := hx.1; omega, by have := hx.2; have := hb.2; omega⟩
  have hg0 := gapI_nonneg a x
  have hg1 := gapI_in50 ha.1 ha.2 hx.1 hx.2
  have hd := hbd _ _ hlo hhi
  obtain ⟨y, Hy⟩ : ∃ y, Hid (dwF g (min x b) (max x b) r = y) := ⟨_, rfl⟩
  obtain ⟨u, Hu⟩ : ∃ u, Hid (min x b = u) := ⟨_, rfl⟩
  obtain ⟨v, Hv⟩ : ∃ v, Hid (max x b = v) := ⟨_, rfl⟩
  rw [Hy.out] at hd ⊢
  rw [Hu.out] at hlo Hy HBe
  rw [Hv.out] at hhi Hy HBe
  have HR : Hid (∀ (W' : World) A' c', Below W.heap.size W W' → (A' = some ⟨bw, ow + 1, none⟩ ∨ n = 0) → n ≤ c' → c' ≤ 9223372036854775807 → Calls Try.prog 46 #[.agg #[.int .i64 u, .int .i64 v], .slice A' n c', .func (.func F) #[] caps] W' fun e w' => e = .returned (.int .i64 y) ∧ Below W'.heap.size W' w') := fun W' A' c' hW hA h1 h2 => by
    have hrd : RdI W' W'.heap.size A' r := by
      rcases hA with rfl | h0
      · exact ((hr.tail).below hW).more hW.size
      · exact RdI.short (by rw [hn]; exact h0)
    have := IH u v A' n c' W' hlo hhi hn hrd h1 h2 (hw.trans (hW.mono hw.size))
    rw [Hy.out] at this
    exact this
  obtain ⟨A', c', hA, hc1, hc2, hsl⟩ := tail_run bw ow n c hc
  have ls := World.block_lt_of_cell? W _ c0
  have lc := World.block_lt_of_cell? W _ cc
  have ll := World.block_lt_of_cell? W _ cl
  have hm1 := m_low a x
  have i1 : (0 : Int) ≤ 1 := by omega
  have i2 : (1 : Int) ≤ (n : Int) + 1 := by omega
  have i3 : (n : Int) + 1 ≤ (c : Int) := by omega
  have hwx : IntKind.i64.wrap (gapI a x + y) = gapI a x + y := IntWalk.i64_in _ (by omega)
  have K : Hid (∀ W', Below W.heap.size W W' → W'.cell? ⟨sb, 0, none⟩ = some (.int .i64 a) ∧ W'.cell? ⟨sb, 1, none⟩ = some (.int .i64 b) ∧ W'.cell? ⟨cb, 0, none⟩ = some (.slice (some ⟨bw, ow, none⟩) (n + 1) c) ∧ W'.cell? ⟨lb, 0, none⟩ = some (.func (.func F) #[] caps)) := fun W' h =>
    ⟨(h.cell (p := ⟨sb, 0, none⟩) ls).trans c0, (h.cell (p := ⟨sb, 1, none⟩) ls).trans c1, (h.cell (p := ⟨cb, 0, none⟩) lc).trans cc, (h.cell (p := ⟨lb, 0, none⟩) ll).trans cl⟩
  clear IH hbd hr ha hb hx
  go_enter Try.func61, Try.ntmps61
  go_wp2
  go_region_held3 (fun w' => w'.cell? ⟨sb, 0, none⟩ = some (.int .i64 a) ∧ w'.cell? ⟨sb, 1, none⟩ = some (.int .i64 b) ∧ w'.cell? ⟨cb, 0, none⟩ = some (.slice (some ⟨bw, ow, none⟩) (n + 1) c) ∧ w'.cell? ⟨lb, 0, none⟩ = some (.func (.func F) #[] caps))
    (first
      | go_keep
      | exact K.out _ hbl
      | exact K.out _ hbh
      | exact K.out _ hbr)
    (first
      | (go_at_call 78
         refine (HL.out _).mono ?_
         rintro e wl ⟨rfl, hql⟩
         have hbl : Below W.heap.size W wl := belowJ hql)
      | (go_at_call 62
         refine (HBe.out _).mono ?_
         rintro e wh ⟨rfl, hqh⟩
         have hbh : Below W.heap.size W wh := hbl.trans (hqh.mono hbl.size))
      | (go_at_call 46
         refine (HR.out _ A' c' hbh hA hc1 (by omega)).mono ?_
         rintro e wr ⟨rfl, hqr⟩
         have hbr : Below W.heap.size W wr := hbh.trans (hqr.mono hbh.size)))
  go_wp2
  go_ret
  exact ⟨rfl, hbr⟩
set_option maxHeartbeats 1600000 in
theorem wayHigh_any (F : Nat) (caps : Array Value) (g : Int → Int → Int) (w0 : World) (r : List Int) (IH : LwAt (.func (.func F) #[] caps) g w0 r) (hbd : ∀ a b, P50 a → P50 b → 0 ≤ dwF g a b r ∧ dwF g a b r ≤ 600)
    (a b x : Int) (n c bw ow sb cb lb : Nat) (W : World) (ha : P50 a) (hb : P50 b) (hx : P50 x) (hn : r.length = n) (hr : RdI W W.heap.size (some ⟨bw, ow, none⟩) (x :: r)) (hc : n + 1 ≤ c) (hm : c ≤ 9223372036854775807) (hw : Below w0.heap.size w0 W)
    (c0 : W.cell? ⟨sb, 0, none⟩ = some (.int .i64 a)) (c1 : W.cell? ⟨sb, 1, none⟩ = some (.int .i64 b)) (cc : W.cell? ⟨cb, 0, none⟩ = some (.slice (some ⟨bw, ow, none⟩) (n + 1) c)) (cl : W.cell? ⟨lb, 0, none⟩ = some (.func (.func F) #[] caps)) :
    Calls Try.prog 61 #[.iface 66 (.agg #[.int .i64 b, .int .i64 x]), .pointer (some ⟨sb, 0, none⟩), .pointer (some ⟨cb, 0, none⟩), .pointer (some ⟨lb, 0, none⟩)] W fun e w' => e = .returned (.int .i64 (gapI b x + dwF g (min a x) (max a x) r)) ∧ Below W.heap.size W w' := by
  have HL := Lib.hid (fun W' => highLength_any b x W' hb hx)
  have HBe := Lib.hid (fun W' => behindHigh_any a b b x W')
  have hlo : P50 (min a x) := ⟨by have := ha.1; have := hx.1; omega, by have := hx.2; omega⟩
  have hhi : P50 (max a x) := ⟨by have := hx.1; omega, by have := ha.2; have := hx.2; omega⟩
  have hg0 := gapI_nonneg b x
  have hg1 := gapI_in50 hb.1 hb.2 hx.1 hx.2
  have hd := hbd _ _ hlo hhi
  obtain ⟨y, Hy⟩ : ∃ y, Hid (dwF g (min a x) (max a x) r = y) := ⟨_, rfl⟩
  obtain ⟨u, Hu⟩ : ∃ u, Hid (min a x = u) := ⟨_, rfl⟩
  obtain ⟨v, Hv⟩ : ∃ v, Hid (max a x = v) := ⟨_, rfl⟩
  rw [Hy.out] at hd ⊢
  rw [Hu.out] at hlo Hy HBe
  rw [Hv.out] at hhi Hy HBe
  have HR : Hid (∀ (W' : World) A' c', Below W.heap.size W W' → (A' = some ⟨bw, ow + 1, none⟩ ∨ n = 0) → n ≤ c' → c' ≤ 9223372036854775807 → Calls Try.prog 46 #[.agg #[.int .i64 u, .int .i64 v], .slice A' n c', .func (.func F) #[] caps] W' fun e w' => e = .returned (.int .i64 y) ∧ Below W'.heap.size W' w') := fun W' A' c' hW hA h1 h2 => by
    have hrd : RdI W' W'.heap.size A' r := by
      rcases hA with rfl | h0
      · exact ((hr.tail).below hW).more hW.size
      · exact RdI.short (by rw [hn]; exact h0)
    have := IH u v A' n c' W' hlo hhi hn hrd h1 h2 (hw.trans (hW.mono hw.size))
    rw [Hy.out] at this
    exact this
  obtain ⟨A', c', hA, hc1, hc2, hsl⟩ := tail_run bw ow n c hc
  have ls := World.block_lt_of_cell? W _ c0
  have lc := World.block_lt_of_cell? W _ cc
  have ll := World.block_lt_of_cell? W _ cl
  have hm1 := m_high b x
  have i1 : (0 : Int) ≤ 1 := by omega
  have i2 : (1 : Int) ≤ (n : Int) + 1 := by omega
  have i3 : (n : Int) + 1 ≤ (c : Int) := by omega
  have hwx : IntKind.i64.wrap (gapI b x + y) = gapI b x + y := IntWalk.i64_in _ (by omega)
  have K : Hid (∀ W', Below W.heap.size W W' → W'.cell? ⟨sb, 0, none⟩ = some (.int .i64 a) ∧ W'.cell? ⟨sb, 1, none⟩ = some (.int .i64 b) ∧ W'.cell? ⟨cb, 0, none⟩ = some (.slice (some ⟨bw, ow, none⟩) (n + 1) c) ∧ W'.cell? ⟨lb, 0, none⟩ = some (.func (.func F) #[] caps)) := fun W' h =>
    ⟨(h.cell (p := ⟨sb, 0, none⟩) ls).trans c0, (h.cell (p := ⟨sb, 1, none⟩) ls).trans c1, (h.cell (p := ⟨cb, 0, none⟩) lc).trans cc, (h.cell (p := ⟨lb, 0, none⟩) ll).trans cl⟩
  clear IH hbd hr ha hb hx
  go_enter Try.func61, Try.ntmps61
  go_wp2
  go_region_held3 (fun w' => w'.cell? ⟨sb, 0, none⟩ = some (.int .i64 a) ∧ w'.cell? ⟨sb, 1, none⟩ = some (.int .i64 b) ∧ w'.cell? ⟨cb, 0, none⟩ = some (.slice (some ⟨bw, ow, none⟩) (n + 1) c) ∧ w'.cell? ⟨lb, 0, none⟩ = some (.func (.func F) #[] caps))
    (first
      | go_keep
      | exact K.out _ hbl
      | exact K.out _ hbh
      | exact K.out _ hbr)
    (first
      | (go_at_call 79
         refine (HL.out _).mono ?_
         rintro e wl ⟨rfl, hql⟩
         have hbl : Below W.heap.size W wl := belowJ hql)
      | (go_at_call 62
         refine (HBe.out _).mono ?_
         rintro e wh ⟨rfl, hqh⟩
         have hbh : Below W.heap.size W wh := hbl.trans (hqh.mono hbl.size))
      | (go_at_call 46
         refine (HR.out _ A' c' hbh hA hc1 (by omega)).mono ?_
         rintro e wr ⟨rfl, hqr⟩
         have hbr : Below W.heap.size W wr := hbh.trans (hqr.mono hbh.size)))
  go_wp2
  go_ret
  exact ⟨rfl, hbr⟩
end Go.Proofs.Ythgllpiclaihjaa
