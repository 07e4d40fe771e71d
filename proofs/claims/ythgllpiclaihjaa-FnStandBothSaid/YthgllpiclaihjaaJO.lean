/-
  The drawn arguments of chapter 5's laws.
  Conditions: none beyond what each theorem states.
-/
import Derived.Test.YthgllpiclaihjaaJN
namespace Go.Proofs.Ythgllpiclaihjaa
open Go.ChangeShapes Go.WideShapes Go.ChangeAt Go.RowKit
set_option linter.unusedVariables false
set_option maxRecDepth 4000

theorem gb_belowJ {R B : Nat} {a b : World} (h : a.grownBy b (some R)) (hB : B ≤ R) (hR : R ≤ a.heap.size) : Below B a b :=
  ⟨h.os, h.tape, h.output, h.size, fun i hi => h.block i (by omega) (by intro e; injection e with e; omega)⟩
def DrawnCalls (w : World) (e : Ending) (w' : World) : Prop :=
  ∃ a b A c n, ∃ zs : List Int, e = .returned (.tuple #[.int .i64 a, .int .i64 b, .slice A n c]) ∧ n ≤ 9 ∧ Hid (CallsIn w' A c n zs) ∧ Hid (Below w.heap.size w w')

theorem drawValidCalls_any (A : Option Addr) (c n : Nat) (bs : List Int) (w : World) (hr : RdB w w.heap.size A bs) (hn : bs.length = n) (hc : n ≤ c) (hm : c ≤ 9223372036854775807) :
    Calls Try.prog 17 #[.slice A n c] w (DrawnCalls w) := by
  have H := Lib.hid (newReader_any A c n bs w hr hn hc hm)
  clear hn
  go_enter Try.func17, Try.ntmps17
  go_wp2_with fail
  refine H.out.mono ?_
  rintro e w1 ⟨rfl, hg1, hnx1⟩
  have hlt := hg1.lt
  go_wp2_with fail
  refine (someCalls_any w.heap.size w.heap.size 0 w1 hg1 (by omega)).mono ?_
  rintro e w2 ⟨a, b, A2, c2, n2, zs, rfl, -, -, h9, hin, -, -, hb⟩
  have Hb : Hid (Below w.heap.size w w2) := hnx1.trans (gb_belowJ hb.out (Nat.le_refl _) (Nat.le_of_lt hlt))
  clear hb
  go_wp2
  go_ret3
  exact ⟨a, b, A2, c2, n2, zs, rfl, h9, hin.out.1, Hb⟩

theorem drawWayAhead_any (A : Option Addr) (c n : Nat) (bs : List Int) (w : World) (hr : RdB w w.heap.size A bs) (hn : bs.length = n) (hc : n ≤ c) (hm : c ≤ 9223372036854775807) :
    Calls Try.prog 20 #[.slice A n c] w (DrawnCalls w) := by
  have H := Lib.hid (newReader_any A c n bs w hr hn hc hm)
  clear hn
  go_enter Try.func20, Try.ntmps20
  go_wp2_with fail
  refine H.out.mono ?_
  rintro e w1 ⟨rfl, hg1, hnx1⟩
  have hlt := hg1.lt
  go_wp2_with fail
  refine (someCalls_any w.heap.size w.heap.size 0 w1 hg1 (by omega)).mono ?_
  rintro e w2 ⟨a, b, A2, c2, n2, zs, rfl, -, -, h9, hin, -, -, hb⟩
  have Hb : Hid (Below w.heap.size w w2) := hnx1.trans (gb_belowJ hb.out (Nat.le_refl _) (Nat.le_of_lt hlt))
  clear hb
  go_wp2
  go_ret3
  exact ⟨a, b, A2, c2, n2, zs, rfl, h9, hin.out.1, Hb⟩

theorem drawWayGreedy_any (A : Option Addr) (c n : Nat) (bs : List Int) (w : World) (hr : RdB w w.heap.size A bs) (hn : bs.length = n) (hc : n ≤ c) (hm : c ≤ 9223372036854775807) :
    Calls Try.prog 25 #[.slice A n c] w (DrawnCalls w) := by
  have H := Lib.hid (newReader_any A c n bs w hr hn hc hm)
  clear hn
  go_enter Try.func25, Try.ntmps25
  go_wp2_with fail
  refine H.out.mono ?_
  rintro e w1 ⟨rfl, hg1, hnx1⟩
  have hlt := hg1.lt
  go_wp2_with fail
  refine (someCalls_any w.heap.size w.heap.size 0 w1 hg1 (by omega)).mono ?_
  rintro e w2 ⟨a, b, A2, c2, n2, zs, rfl, -, -, h9, hin, -, -, hb⟩
  have Hb : Hid (Below w.heap.size w w2) := hnx1.trans (gb_belowJ hb.out (Nat.le_refl _) (Nat.le_of_lt hlt))
  clear hb
  go_wp2
  go_ret3
  exact ⟨a, b, A2, c2, n2, zs, rfl, h9, hin.out.1, Hb⟩

theorem drawWayBoth_any (A : Option Addr) (c n : Nat) (bs : List Int) (w : World) (hr : RdB w w.heap.size A bs) (hn : bs.length = n) (hc : n ≤ c) (hm : c ≤ 9223372036854775807) :
    Calls Try.prog 27 #[.slice A n c] w (DrawnCalls w) := by
  have H := Lib.hid (newReader_any A c n bs w hr hn hc hm)
  clear hn
  go_enter Try.func27, Try.ntmps27
  go_wp2_with fail
  refine H.out.mono ?_
  rintro e w1 ⟨rfl, hg1, hnx1⟩
  have hlt := hg1.lt
  go_wp2_with fail
  refine (someCalls_any w.heap.size w.heap.size 0 w1 hg1 (by omega)).mono ?_
  rintro e w2 ⟨a, b, A2, c2, n2, zs, rfl, -, -, h9, hin, -, -, hb⟩
  have Hb : Hid (Below w.heap.size w w2) := hnx1.trans (gb_belowJ hb.out (Nat.le_refl _) (Nat.le_of_lt hlt))
  clear hb
  go_wp2
  go_ret3
  exact ⟨a, b, A2, c2, n2, zs, rfl, h9, hin.out.1, Hb⟩

theorem drawStandBoth_any (A : Option Addr) (c n : Nat) (bs : List Int) (w : World) (hr : RdB w w.heap.size A bs) (hn : bs.length = n) (hc : n ≤ c) (hm : c ≤ 9223372036854775807) :
    Calls Try.prog 29 #[.slice A n c] w (DrawnCalls w) := by
  have H := Lib.hid (newReader_any A c n bs w hr hn hc hm)
  clear hn
  go_enter Try.func29, Try.ntmps29
  go_wp2_with fail
  refine H.out.mono ?_
  rintro e w1 ⟨rfl, hg1, hnx1⟩
  have hlt := hg1.lt
  go_wp2_with fail
  refine (someCalls_any w.heap.size w.heap.size 0 w1 hg1 (by omega)).mono ?_
  rintro e w2 ⟨a, b, A2, c2, n2, zs, rfl, -, -, h9, hin, -, -, hb⟩
  have Hb : Hid (Below w.heap.size w w2) := hnx1.trans (gb_belowJ hb.out (Nat.le_refl _) (Nat.le_of_lt hlt))
  clear hb
  go_wp2
  go_ret3
  exact ⟨a, b, A2, c2, n2, zs, rfl, h9, hin.out.1, Hb⟩

def DrawnWork (w : World) (e : Ending) (w' : World) : Prop :=
  ∃ a b A c n x y, ∃ zs : List Int, e = .returned (.tuple #[.int .i64 a, .int .i64 b, .slice A n c, .int .i64 x, .int .i64 y]) ∧ n ≤ 9 ∧ Hid (CallsIn w' A c n zs) ∧ Hid (∃ g, A = some ⟨g, 0, none⟩) ∧ Hid (Below w.heap.size w w')
theorem results_tmp5 {fn : Func} {t u v x y : Tmp} (h : fn.results = #[.tmp t, .tmp u, .tmp v, .tmp x, .tmp y]) (tmps : Array Value) (P : Program) (w : World) :
    (results fn tmps).run P w = .ok (.tuple #[tmps.getD t undef, tmps.getD u undef, tmps.getD v undef, tmps.getD x undef, tmps.getD y undef]) w := by
  simp [results, h]
theorem GR.belowJ {w w' : World} {B R k : Nat} (h : GR w B R k) : R < w.heap.size := h.lt
theorem CallsIn.drawnJ {w w' : World} {R : Nat} {A : Option Addr} {c n : Nat} {zs : List Int} (h : CallsIn w A c n zs) (hA : ∀ b off, A = some ⟨b, off, none⟩ → b ≠ R) (hg : w.grownBy w' (some R)) : CallsIn w' A c n zs := by
  refine ⟨fun hp => ?_, h.len, h.cap, h.most⟩
  obtain ⟨b, off, e, hb, hc⟩ := h.rd hp
  have hne := hA b off e
  exact ⟨b, off, e, Nat.lt_of_lt_of_le hb hg.size, fun i hi => (World.cell?_of_block (hg.block b hb (by intro e; injection e with e; exact hne e))).trans (hc i hi)⟩
set_option maxHeartbeats 3200000 in
theorem drawWorkOf_any (A : Option Addr) (c n : Nat) (bs : List Int) (w : World) (hr : RdB w w.heap.size A bs) (hn : bs.length = n) (hc : n ≤ c) (hm : c ≤ 9223372036854775807) :
    Calls Try.prog 33 #[.slice A n c] w (DrawnWork w) := by
  have H := Lib.hid (newReader_any A c n bs w hr hn hc hm)
  clear hn
  go_enter Try.func33, Try.ntmps33
  go_wp2_with fail
  refine H.out.mono ?_
  rintro e w1 ⟨rfl, hg1, hnx1⟩
  have hlt := hg1.lt
  go_wp2_with fail
  refine (someCalls_any w.heap.size w.heap.size 0 w1 hg1 (by omega)).mono ?_
  rintro e w2 ⟨a, b, A2, c2, n2, zs, rfl, ⟨ha0, ha1⟩, ⟨hb0, hb1⟩, h9, hin, hA2, hg2, hb⟩
  have HB2 : Hid (Below w.heap.size w w2) := hnx1.trans (gb_belowJ hb.out (Nat.le_refl _) (Nat.le_of_lt hlt))
  have HA2 := Lib.hid hA2
  clear hA2
  have HI2 : Hid (CallsIn w2 A2 c2 n2 zs) := hin.out.1
  have HAR : Hid (∀ b off, A2 = some ⟨b, off, none⟩ → b ≠ w.heap.size) := fun b off e => by have := hin.out.2 b off e; omega
  clear hb hg1 hnx1 hin
  go_wp2_with fail
  refine (pick_any w.heap.size w.heap.size 30 51 w2 hg2.out (by omega) (by omega) (by omega)).mono ?_
  rintro e w3 ⟨p, rfl, hp0, hp1, -, hg3, hgw3⟩
  have hp1 := hp1 (by omega)
  have HG3 := Lib.hid hg3
  have HI3 := Lib.hid (HI2.out.drawnJ HAR.out hgw3)
  have HB3 := Lib.hid (HB2.out.trans (gb_belowJ (B := w.heap.size) hgw3 (Nat.le_refl _) (Nat.le_of_lt hg2.out.lt)))
  clear hg3 hgw3 hg2 HI2 HB2
  go_wp2_with fail
  refine (oneLitAt _ w.heap.size w.heap.size 31 [p, a, 0, -1] 4 (-1) 51 w3 _ HG3.out (by omega) rfl (by omega) (by omega) rfl (by intro z hz; simp at hz; omega) rfl).mono ?_
  rintro e w4 ⟨x, rfl, hx0, hx1, hg4, hgw4⟩
  have HG4 := Lib.hid hg4
  have HI4 := Lib.hid (HI3.out.drawnJ HAR.out hgw4)
  have HB4 := Lib.hid (HB3.out.trans (gb_belowJ (B := w.heap.size) hgw4 (Nat.le_refl _) (Nat.le_of_lt HG3.out.lt)))
  clear hg4 hgw4 HG3 HI3 HB3
  go_wp2_with fail
  refine (pick_any w.heap.size w.heap.size 32 20 w4 HG4.out (by omega) (by omega) (by omega)).mono ?_
  rintro e w5 ⟨t, rfl, ht0, ht1, -, hg5, hgw5⟩
  have ht1 := ht1 (by omega)
  have HG5 := Lib.hid hg5
  have HI5 := Lib.hid (HI4.out.drawnJ HAR.out hgw5)
  have HB5 := Lib.hid (HB4.out.trans (gb_belowJ (B := w.heap.size) hgw5 (Nat.le_refl _) (Nat.le_of_lt HG4.out.lt)))
  have hwt : IntKind.i64.wrap (x + t) = x + t := IntWalk.i64_in _ (by omega)
  have HL := Lib.hid (fun (z1 z2 : Int) (h1 : -1 ≤ z1 ∧ z1 ≤ 51) (h2 : -1 ≤ z2 ∧ z2 ≤ 51) => oneLitAt _ w.heap.size w.heap.size 33 [z1, 50, x, 51, z2] 5 (-1) 51 w5 #[.int .i64 z1, .int .i64 50, .int .i64 x, .int .i64 51, .int .i64 z2] HG5.out (by omega) rfl (by omega) (by omega) rfl (by intro z hz; simp at hz; omega) rfl)
  clear hg5 hgw5 HG4 HI4 HB4
  go_wp2_with fail
  all_goals
    refine (HL.out _ _ (by first | omega | (split <;> omega)) (by first | omega | (split <;> omega))).mono ?_
    rintro e w6 ⟨y, rfl, hy0, hy1, hg6, hgw6⟩
    have HI6 := Lib.hid (HI5.out.drawnJ HAR.out hgw6)
    have HB6 := Lib.hid (HB5.out.trans (gb_belowJ (B := w.heap.size) hgw6 (Nat.le_refl _) (Nat.le_of_lt HG5.out.lt)))
    clear hg6 hgw6
    go_wp2
    refine bodyPost_ret (results_tmp5 rfl _ _ _) rfl ?_
    exact ⟨a, b, A2, c2, n2, x, y, zs, rfl, h9, HI6, HA2, HB6⟩
end Go.Proofs.Ythgllpiclaihjaa
