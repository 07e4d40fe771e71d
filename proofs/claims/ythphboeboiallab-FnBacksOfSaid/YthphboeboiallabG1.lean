/-
  The reader that draws inputs: what it answers lies in its range, and it writes its own place alone.
  Conditions: fewer than 100000 draws.
-/
import Derived.Test.YthphboeboiallabUA
namespace Go.Proofs.Ythphboeboiallab
open Go.ChangeShapes Go.WideShapes Go.ChangeAt Go.RowKit
set_option linter.unusedVariables false

/-- Block R is a reader over bytes below B, at most k draws on. -/
def GR (w : World) (B R k : Nat) : Prop :=
  ∃ A c bs, ∃ p : Int, B ≤ R ∧ w.heap[R]? = some (.cells #[.slice A bs.length c, .int .i64 p] 73 (0, 0)) ∧ RdB w B A bs ∧ bs.length ≤ 2000 ∧ 0 ≤ p ∧ p ≤ k
theorem GR.lt {w : World} {B R k : Nat} (h : GR w B R k) : R < w.heap.size := by
  obtain ⟨A, c, bs, p, hB, hh, _⟩ := h
  rcases Nat.lt_or_ge R w.heap.size with hlt | hge
  · exact hlt
  · rw [Array.getElem?_eq_none hge] at hh; cases hh
theorem GR.le {w : World} {B R k : Nat} (h : GR w B R k) : B ≤ R := by obtain ⟨A, c, bs, p, hB, _⟩ := h; exact hB
theorem GR.more {w : World} {B R k k' : Nat} (h : GR w B R k) (hk : k ≤ k') : GR w B R k' := by
  obtain ⟨A, c, bs, p, hB, hh, hr, hl, h0, h1⟩ := h
  exact ⟨A, c, bs, p, hB, hh, hr, hl, h0, by omega⟩
/-- What is done elsewhere leaves the reader. -/
theorem GR.kept {w w' : World} {B R k : Nat} {row : Option Nat} (h : GR w B R k) (hg : w.grownBy w' row) (hr : ∀ g, row = some g → R < g) : GR w' B R k := by
  have hlt := h.lt
  obtain ⟨A, c, bs, p, hB, hh, hrd, hl, h0, h1⟩ := h
  refine ⟨A, c, bs, p, hB, ?_, hrd.keep fun q hq => World.cell?_of_block (hg.block q.block (by omega) (fun e => by have := hr _ e.symm; omega)), hl, h0, h1⟩
  rw [hg.block R hlt (fun e => by have := hr _ e.symm; omega)]
  exact hh

def PickPost (B R k : Nat) (n : Int) (w : World) (e : Ending) (w' : World) : Prop :=
  ∃ v : Int, e = .returned (.int .i64 v) ∧ 0 ≤ v ∧ (1 ≤ n → v < n) ∧ (n < 1 → v = 0) ∧ GR w' B R (k + 1) ∧ w.grownBy w' (some R)

theorem pick_world {w : World} {B R k : Nat} {A : Option Addr} {c : Nat} {bs : List Int} {p : Int} (hB : B ≤ R) (hh : w.heap[R]? = some (.cells #[.slice A bs.length c, .int .i64 p] 73 (0, 0)))
    (hrd : RdB w B A bs) (hl : bs.length ≤ 2000) (h0 : 0 ≤ p) (h1 : p ≤ k) (q : Nat) :
    GR ((w.setCell ⟨R, 1, none⟩ (.int .i64 (p + 1))).drewN q) B R (k + 1) ∧ w.grownBy ((w.setCell ⟨R, 1, none⟩ (.int .i64 (p + 1))).drewN q) (some R) := by
  refine ⟨⟨A, c, bs, p + 1, hB, ?_, ?_, hl, by omega, by omega⟩, ⟨rfl, rfl, rfl, by simp [World.setCell], fun i hi hne => ?_⟩⟩
  · show (w.setCell ⟨R, 1, none⟩ (.int .i64 (p + 1))).heap[R]? = _
    simp [World.setCell, Array.getElem?_modify, hh]
  · exact hrd.keep fun x hx => World.cell?_setCell_other w ⟨R, 1, none⟩ x _ (fun e => by subst e; simp at hx; omega)
  · exact Below.heap_setCell w _ _ i (by rintro rfl; exact hne rfl)

theorem pick_world0 {w : World} {B R k : Nat} {A : Option Addr} {c : Nat} {bs : List Int} {p : Int} (hB : B ≤ R) (hh : w.heap[R]? = some (.cells #[.slice A bs.length c, .int .i64 p] 73 (0, 0)))
    (hrd : RdB w B A bs) (hl : bs.length ≤ 2000) (h0 : 0 ≤ p) (h1 : p ≤ k) :
    GR (w.setCell ⟨R, 1, none⟩ (.int .i64 (p + 1))) B R (k + 1) ∧ w.grownBy (w.setCell ⟨R, 1, none⟩ (.int .i64 (p + 1))) (some R) := by
  have h := pick_world (k := k) hB hh hrd hl h0 h1 0
  exact ⟨h.1, ⟨h.2.os, h.2.tape, h.2.output, h.2.size, h.2.block⟩⟩

theorem rem_bd {x n : Int} (hx : 0 ≤ x) (hn : 1 ≤ n) : 0 ≤ x % n ∧ x % n < n := ⟨Int.emod_nonneg _ (by omega), Int.emod_lt_of_pos _ (by omega)⟩

theorem i64_xor_small (a b : Nat) (ha : a < 1073741824) (hb : b < 1073741824) : 0 ≤ bits .xor .i64 (a : Int) (b : Int) := by
  have hx : a ^^^ b < 2 ^ 30 := Nat.xor_lt_two_pow (by omega) (by omega)
  show 0 ≤ IntKind.i64.wrap ((BitVec.ofInt 64 (a : Int) ^^^ BitVec.ofInt 64 (b : Int)).toNat : Int)
  rw [BitVec.toNat_xor, ofInt_u64 a (by omega), ofInt_u64 b (by omega), IntWalk.i64_in _ (by omega)]
  omega
theorem pick_num {S n : Int} (h0 : 0 ≤ S) (h1 : S ≤ 1000000000) (hn : 1 ≤ n) : 0 ≤ (bits .xor .i64 S (S / 64)).tmod n ∧ (bits .xor .i64 S (S / 64)).tmod n < n := by
  obtain ⟨s, rfl⟩ := Int.eq_ofNat_of_zero_le h0
  have hx := i64_xor_small s (s / 64) (by omega) (by omega)
  rw [show ((s : Int) / 64) = ((s / 64 : Nat) : Int) by omega, Int.tmod_eq_emod_of_nonneg hx]
  exact ⟨Int.emod_nonneg _ (by omega), Int.emod_lt_of_pos _ (by omega)⟩

set_option maxHeartbeats 800000 in
theorem pick_any (R B k : Nat) (n : Int) (w : World) (hg : GR w B R k) (hk : k ≤ 100000) (hn1 : -1000000 ≤ n) (hn2 : n ≤ 1000000) :
    Calls Try.prog 60 #[.pointer (some ⟨R, 0, none⟩), .int .i64 n] w (PickPost B R k n w) := by
  obtain ⟨A, c, bs, p, hB, hh, hrd, hl, h0, h1⟩ := hg
  have Hw := Lib.hid (fun q => pick_world hB hh hrd hl h0 h1 q)
  have Hw0 := Lib.hid (pick_world0 hB hh hrd hl h0 h1)
  have c0 : w.cell? ⟨R, 0, none⟩ = some (.slice A bs.length c) := by simp [World.cell?, hh]
  have c1 : w.cell? ⟨R, 1, none⟩ = some (.int .i64 p) := by simp [World.cell?, hh]
  have f1 : w.frozen? ⟨R, 1, none⟩ = false := by simp [World.frozen?, hh]
  clear hh
  obtain ⟨m, rfl⟩ := Int.eq_ofNat_of_zero_le h0
  by_cases hn : n < 1
  · go_enter Try.func60, Try.ntmps60
    go_wp2
    go_ret
    exact ⟨0, rfl, by omega, fun h => by omega, fun _ => rfl, Hw0.out.1, Hw0.out.2⟩
  · have hn' : 1 ≤ n := by omega
    clear hn
    obtain ⟨L, HL⟩ : ∃ L, Hid (bs.length = L) := ⟨_, rfl⟩
    rw [HL.out] at c0 hl
    by_cases hL : L = 0
    · subst hL
      go_enter Try.func60, Try.ntmps60
      go_wp2
      go_ret
      exact ⟨0, rfl, by omega, fun h => by omega, fun _ => rfl, Hw0.out.1, Hw0.out.2⟩
    · have hL1 : 1 ≤ L := by omega
      have hLb : ((L : Int) == 0) = false := by rw [beq_eq_false_iff_ne]; omega
      clear hL
      by_cases hm : m < L
      · obtain ⟨b, off, x, rfl, hb, Hx, hx0, hx1, hcx⟩ := hrd.x (k := m) (by rw [HL.out]; exact hm)
        have hcx' : (w.setCell ⟨R, 1, none⟩ (.int .i64 (↑m + 1))).cell? ⟨b, off + m, none⟩ = some (.int .u8 x) := by
          rw [World.cell?_setCell_other w ⟨R, 1, none⟩ _ _ (by intro e; injection e with e; omega)]; exact hcx
        clear hcx
        have hr := rem_bd hx0 hn'
        have Hr := Lib.hid hr
        clear hr
        go_enter Try.func60, Try.ntmps60
        go_wp2
        go_ret
        exact ⟨_, rfl, Hr.out.1, fun _ => Hr.out.2, fun h => by omega, Hw0.out.1, Hw0.out.2⟩
      · have hm' : L ≤ m := by omega
        clear hm
        have hmk : m ≤ 100000 := by omega
        have hi1 : m % L < L := Nat.mod_lt _ (by omega)
        have hi2 : (m * 7 + 3) % L < L := Nat.mod_lt _ (by omega)
        obtain ⟨b, off, x, rfl, hb, Hx, hx0, hx1, hcx⟩ := hrd.x (k := m % L) (by rw [HL.out]; exact hi1)
        obtain ⟨b', off', y, he, hb', Hy, hy0, hy1, hcy⟩ := hrd.x (k := (m * 7 + 3) % L) (by rw [HL.out]; exact hi2)
        injection he with he
        injection he with he1 he2
        subst he1 he2
        have hcx' : (w.setCell ⟨R, 1, none⟩ (.int .i64 (↑m + 1))).cell? ⟨b, off + m % L, none⟩ = some (.int .u8 x) := by
          rw [World.cell?_setCell_other w ⟨R, 1, none⟩ _ _ (by intro e; injection e with e; omega)]; exact hcx
        have hcy' : (w.setCell ⟨R, 1, none⟩ (.int .i64 (↑m + 1))).cell? ⟨b, off + (m * 7 + 3) % L, none⟩ = some (.int .u8 y) := by
          rw [World.cell?_setCell_other w ⟨R, 1, none⟩ _ _ (by intro e; injection e with e; omega)]; exact hcy
        clear hcx hcy
        obtain ⟨i1, Hi1⟩ : ∃ i1, Hid (m % L = i1) := ⟨_, rfl⟩
        obtain ⟨i2, Hi2⟩ : ∃ i2, Hid ((m * 7 + 3) % L = i2) := ⟨_, rfl⟩
        obtain ⟨d, Hd⟩ : ∃ d, Hid (m / L = d) := ⟨_, rfl⟩
        have hd : d ≤ m := by rw [← Hd.out]; exact Nat.div_le_self _ _
        rw [Hi1.out] at hcx' hi1
        rw [Hi2.out] at hcy' hi2
        have e1 : (m : Int).tmod (L : Int) = (i1 : Int) := by rw [← Hi1.out]; exact (Int.ofNat_tmod m L).symm
        have e2 : ((m : Int) * 7 + 3).tmod (L : Int) = (i2 : Int) := by rw [← Hi2.out]; exact (Int.ofNat_tmod (m * 7 + 3) L).symm
        have e3 : (m : Int).tdiv (L : Int) = (d : Int) := by rw [← Hd.out]; exact (Int.ofNat_tdiv m L).symm
        have w1 : IntKind.i64.wrap ((m : Int) * 7) = (m : Int) * 7 := IntWalk.i64_in _ (by omega)
        have w2 : IntKind.i64.wrap ((m : Int) * 7 + 3) = (m : Int) * 7 + 3 := IntWalk.i64_in _ (by omega)
        have w3 : IntKind.i64.wrap (x * 131) = x * 131 := IntWalk.i64_in _ (by omega)
        have w4 : IntKind.i64.wrap (y * 1117) = y * 1117 := IntWalk.i64_in _ (by omega)
        have w5 : IntKind.i64.wrap (x * 131 + y * 1117) = x * 131 + y * 1117 := IntWalk.i64_in _ (by omega)
        have w6 : IntKind.i64.wrap ((m : Int) * 29) = (m : Int) * 29 := IntWalk.i64_in _ (by omega)
        have w7 : IntKind.i64.wrap (x * 131 + y * 1117 + (m : Int) * 29) = x * 131 + y * 1117 + (m : Int) * 29 := IntWalk.i64_in _ (by omega)
        have w8 : IntKind.i64.wrap ((d : Int) * 53) = (d : Int) * 53 := IntWalk.i64_in _ (by omega)
        have w9 : IntKind.i64.wrap (x * 131 + y * 1117 + (m : Int) * 29 + (d : Int) * 53) = x * 131 + y * 1117 + (m : Int) * 29 + (d : Int) * 53 := IntWalk.i64_in _ (by omega)
        have hLn : ¬ (L : Int) = 0 := by omega
        have hLn' : ¬ L = 0 := by omega
        have j1 : (i1 : Int) < (L : Int) := by omega
        have j2 : (i2 : Int) < (L : Int) := by omega
        go_enter Try.func60, Try.ntmps60
        go_wp2
        go_quiet (fail)
        clear w1 w2 w3 w4 w5 w6 w7 w8 w9 e1 e2 e3
        have hS0 : 0 ≤ x * 131 + y * 1117 + (m : Int) * 29 + (d : Int) * 53 := by omega
        have hS1 : x * 131 + y * 1117 + (m : Int) * 29 + (d : Int) * 53 ≤ 1000000000 := by omega
        generalize x * 131 + y * 1117 + (m : Int) * 29 + (d : Int) * 53 = S at hS0 hS1 ⊢
        have Hf := Lib.hid (pick_num hS0 hS1 hn')
        go_wp2
        go_ret
        exact ⟨_, rfl, Hf.out.1, fun _ => Hf.out.2, fun h => by omega, (Hw.out nq).1, (Hw.out nq).2⟩
end Go.Proofs.Ythphboeboiallab
