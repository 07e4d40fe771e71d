/-
  The reader that draws inputs: what it answers lies in its range, and it writes its own place alone.
  Conditions: fewer than 100000 draws.
  The reader made; one of a list drawn; homes drawn.
  Conditions: none beyond what each theorem states.
  Numbers drawn out of a list that is written out.
  Conditions: none beyond what each theorem states.
  ValidShops of the program; shops as a function is given them; the answers of chapter 10 and the contracts.
  Conditions: fewer than 2^20 numbers.
  Shares as the program finds them: from near to far, house by house.
  Conditions: as each theorem states.
  The set of houses of the program: made, asked, taken from; the shops that are just so far from a house.
  Conditions: at most nine houses and four shops.
  housesOf and shopsAway of the program, walked.
  Conditions: at most nine houses and four shops.
-/
import Derived.Test.YtoohfipicmdohaaZ0
import Derived.Deep.AppendLies
import Derived.Maps.AppendAt
import Derived.Deep.CutBlock
import Derived.Maps.RangeWalk
import Derived.Maps.Views
import Derived.Maps.OwnOps
import Derived.Maps.OwnSet
namespace Go.Proofs.Ytoohfipicmdohaa
open Go.ChangeShapes Go.WideShapes Go.ChangeAt Go.RowKit
set_option linter.unusedVariables false

/-- Block R is a reader over bytes below B, at most k draws on. -/
def GR (w : World) (B R k : Nat) : Prop :=
  ∃ A c bs, ∃ p : Int, B ≤ R ∧ w.heap[R]? = some (.cells #[.slice A bs.length c, .int .i64 p] 60 (0, 0)) ∧ RdB w B A bs ∧ bs.length ≤ 2000 ∧ 0 ≤ p ∧ p ≤ k
theorem GR.lt {w : World} {B R k : Nat} (h : GR w B R k) : R < w.heap.size := by
  obtain ⟨A, c, bs, p, hB, hh, _⟩ := h
  rcases Nat.lt_or_ge R w.heap.size with hlt | hge
  · exact hlt
  · rw [Array.getElem?_eq_none hge] at hh; cases hh
theorem GR.le {w : World} {B R k : Nat} (h : GR w B R k) : B ≤ R := by obtain ⟨A, c, bs, p, hB, _⟩ := h; exact hB
theorem GR.more {w : World} {B R k k' : Nat} (h : GR w B R k) (hk : k ≤ k') : GR w B R k' := by
  obtain ⟨A, c, bs, p, hB, hh, hr, hl, h0, h1⟩ := h
  exact ⟨A, c, bs, p, hB, hh, hr, hl, h0, by omega⟩
/-- What is done elsewhere leaves the reader. -/
theorem GR.kept {w w' : World} {B R k : Nat} {row : Option Nat} (h : GR w B R k) (hg : w.grownBy w' row) (hr : ∀ g, row = some g → R < g) : GR w' B R k := by
  have hlt := h.lt
  obtain ⟨A, c, bs, p, hB, hh, hrd, hl, h0, h1⟩ := h
  refine ⟨A, c, bs, p, hB, ?_, hrd.keep fun q hq => World.cell?_of_block (hg.block q.block (by omega) (fun e => by have := hr _ e.symm; omega)), hl, h0, h1⟩
  rw [hg.block R hlt (fun e => by have := hr _ e.symm; omega)]
  exact hh

def PickPost (B R k : Nat) (n : Int) (w : World) (e : Ending) (w' : World) : Prop :=
  ∃ v : Int, e = .returned (.int .i64 v) ∧ 0 ≤ v ∧ (1 ≤ n → v < n) ∧ (n < 1 → v = 0) ∧ GR w' B R (k + 1) ∧ w.grownBy w' (some R)

theorem pick_world {w : World} {B R k : Nat} {A : Option Addr} {c : Nat} {bs : List Int} {p : Int} (hB : B ≤ R) (hh : w.heap[R]? = some (.cells #[.slice A bs.length c, .int .i64 p] 60 (0, 0)))
    (hrd : RdB w B A bs) (hl : bs.length ≤ 2000) (h0 : 0 ≤ p) (h1 : p ≤ k) (q : Nat) :
    GR ((w.setCell ⟨R, 1, none⟩ (.int .i64 (p + 1))).drewN q) B R (k + 1) ∧ w.grownBy ((w.setCell ⟨R, 1, none⟩ (.int .i64 (p + 1))).drewN q) (some R) := by
  refine ⟨⟨A, c, bs, p + 1, hB, ?_, ?_, hl, by omega, by omega⟩, ⟨rfl, rfl, rfl, by simp [World.setCell], fun i hi hne => ?_⟩⟩
  · show (w.setCell ⟨R, 1, none⟩ (.int .i64 (p + 1))).heap[R]? = _
    simp [World.setCell, Array.getElem?_modify, hh]
  · exact hrd.keep fun x hx => World.cell?_setCell_other w ⟨R, 1, none⟩ x _ (fun e => by subst e; simp at hx; omega)
  · exact Below.heap_setCell w _ _ i (by rintro rfl; exact hne rfl)

theorem pick_world0 {w : World} {B R k : Nat} {A : Option Addr} {c : Nat} {bs : List Int} {p : Int} (hB : B ≤ R) (hh : w.heap[R]? = some (.cells #[.slice A bs.length c, .int .i64 p] 60 (0, 0)))
    (hrd : RdB w B A bs) (hl : bs.length ≤ 2000) (h0 : 0 ≤ p) (h1 : p ≤ k) :
    GR (w.setCell ⟨R, 1, none⟩ (.int .i64 (p + 1))) B R (k + 1) ∧ w.grownBy (w.setCell ⟨R, 1, none⟩ (.int .i64 (p + 1))) (some R) := by
  have h := pick_world (k := k) hB hh hrd hl h0 h1 0
  exact ⟨h.1, ⟨h.2.os, h.2.tape, h.2.output, h.2.size, h.2.block⟩⟩

theorem rem_bd {x n : Int} (hx : 0 ≤ x) (hn : 1 ≤ n) : 0 ≤ x % n ∧ x % n < n := ⟨Int.emod_nonneg _ (by omega), Int.emod_lt_of_pos _ (by omega)⟩

theorem i64_xor_small (a b : Nat) (ha : a < 1073741824) (hb : b < 1073741824) : 0 ≤ bits .xor .i64 (a : Int) (b : Int) := by
  have hx : a ^^^ b < 2 ^ 30 := Nat.xor_lt_two_pow (by omega) (by omega)
  show 0 ≤ IntKind.i64.wrap ((BitVec.ofInt 64 (a : Int) ^^^ BitVec.ofInt 64 (b : Int)).toNat : Int)
  rw [BitVec.toNat_xor, ofInt_u64 a (by omega), ofInt_u64 b (by omega), IntWalk.i64_in _ (by omega)]
  omega
theorem pick_num {S n : Int} (h0 : 0 ≤ S) (h1 : S ≤ 1000000000) (hn : 1 ≤ n) : 0 ≤ (bits .xor .i64 S (S / 64)).tmod n ∧ (bits .xor .i64 S (S / 64)).tmod n < n := by
  obtain ⟨s, rfl⟩ := Int.eq_ofNat_of_zero_le h0
  have hx := i64_xor_small s (s / 64) (by omega) (by omega)
  rw [show ((s : Int) / 64) = ((s / 64 : Nat) : Int) by omega, Int.tmod_eq_emod_of_nonneg hx]
  exact ⟨Int.emod_nonneg _ (by omega), Int.emod_lt_of_pos _ (by omega)⟩

set_option maxHeartbeats 800000 in
theorem pick_any (R B k : Nat) (n : Int) (w : World) (hg : GR w B R k) (hk : k ≤ 100000) (hn1 : -1000000 ≤ n) (hn2 : n ≤ 1000000) :
    Calls Try.prog 46 #[.pointer (some ⟨R, 0, none⟩), .int .i64 n] w (PickPost B R k n w) := by
  obtain ⟨A, c, bs, p, hB, hh, hrd, hl, h0, h1⟩ := hg
  have Hw := Lib.hid (fun q => pick_world hB hh hrd hl h0 h1 q)
  have Hw0 := Lib.hid (pick_world0 hB hh hrd hl h0 h1)
  have c0 : w.cell? ⟨R, 0, none⟩ = some (.slice A bs.length c) := by simp [World.cell?, hh]
  have c1 : w.cell? ⟨R, 1, none⟩ = some (.int .i64 p) := by simp [World.cell?, hh]
  have f1 : w.frozen? ⟨R, 1, none⟩ = false := by simp [World.frozen?, hh]
  clear hh
  obtain ⟨m, rfl⟩ := Int.eq_ofNat_of_zero_le h0
  by_cases hn : n < 1
  · go_enter Try.func46, Try.ntmps46
    go_wp2
    go_ret
    exact ⟨0, rfl, by omega, fun h => by omega, fun _ => rfl, Hw0.out.1, Hw0.out.2⟩
  · have hn' : 1 ≤ n := by omega
    clear hn
    obtain ⟨L, HL⟩ : ∃ L, Hid (bs.length = L) := ⟨_, rfl⟩
    rw [HL.out] at c0 hl
    by_cases hL : L = 0
    · subst hL
      go_enter Try.func46, Try.ntmps46
      go_wp2
      go_ret
      exact ⟨0, rfl, by omega, fun h => by omega, fun _ => rfl, Hw0.out.1, Hw0.out.2⟩
    · have hL1 : 1 ≤ L := by omega
      have hLb : ((L : Int) == 0) = false := by rw [beq_eq_false_iff_ne]; omega
      clear hL
      by_cases hm : m < L
      · obtain ⟨b, off, x, rfl, hb, Hx, hx0, hx1, hcx⟩ := hrd.x (k := m) (by rw [HL.out]; exact hm)
        have hcx' : (w.setCell ⟨R, 1, none⟩ (.int .i64 (↑m + 1))).cell? ⟨b, off + m, none⟩ = some (.int .u8 x) := by
          rw [World.cell?_setCell_other w ⟨R, 1, none⟩ _ _ (by intro e; injection e with e; omega)]; exact hcx
        clear hcx
        have hr := rem_bd hx0 hn'
        have Hr := Lib.hid hr
        clear hr
        go_enter Try.func46, Try.ntmps46
        go_wp2
        go_ret
        exact ⟨_, rfl, Hr.out.1, fun _ => Hr.out.2, fun h => by omega, Hw0.out.1, Hw0.out.2⟩
      · have hm' : L ≤ m := by omega
        clear hm
        have hmk : m ≤ 100000 := by omega
        have hi1 : m % L < L := Nat.mod_lt _ (by omega)
        have hi2 : (m * 7 + 3) % L < L := Nat.mod_lt _ (by omega)
        obtain ⟨b, off, x, rfl, hb, Hx, hx0, hx1, hcx⟩ := hrd.x (k := m % L) (by rw [HL.out]; exact hi1)
        obtain ⟨b', off', y, he, hb', Hy, hy0, hy1, hcy⟩ := hrd.x (k := (m * 7 + 3) % L) (by rw [HL.out]; exact hi2)
        injection he with he
        injection he with he1 he2
        subst he1 he2
        have hcx' : (w.setCell ⟨R, 1, none⟩ (.int .i64 (↑m + 1))).cell? ⟨b, off + m % L, none⟩ = some (.int .u8 x) := by
          rw [World.cell?_setCell_other w ⟨R, 1, none⟩ _ _ (by intro e; injection e with e; omega)]; exact hcx
        have hcy' : (w.setCell ⟨R, 1, none⟩ (.int .i64 (↑m + 1))).cell? ⟨b, off + (m * 7 + 3) % L, none⟩ = some (.int .u8 y) := by
          rw [World.cell?_setCell_other w ⟨R, 1, none⟩ _ _ (by intro e; injection e with e; omega)]; exact hcy
        clear hcx hcy
        obtain ⟨i1, Hi1⟩ : ∃ i1, Hid (m % L = i1) := ⟨_, rfl⟩
        obtain ⟨i2, Hi2⟩ : ∃ i2, Hid ((m * 7 + 3) % L = i2) := ⟨_, rfl⟩
        obtain ⟨d, Hd⟩ : ∃ d, Hid (m / L = d) := ⟨_, rfl⟩
        have hd : d ≤ m := by rw [← Hd.out]; exact Nat.div_le_self _ _
        rw [Hi1.out] at hcx' hi1
        rw [Hi2.out] at hcy' hi2
        have e1 : (m : Int).tmod (L : Int) = (i1 : Int) := by rw [← Hi1.out]; exact (Int.ofNat_tmod m L).symm
        have e2 : ((m : Int) * 7 + 3).tmod (L : Int) = (i2 : Int) := by rw [← Hi2.out]; exact (Int.ofNat_tmod (m * 7 + 3) L).symm
        have e3 : (m : Int).tdiv (L : Int) = (d : Int) := by rw [← Hd.out]; exact (Int.ofNat_tdiv m L).symm
        have w1 : IntKind.i64.wrap ((m : Int) * 7) = (m : Int) * 7 := IntWalk.i64_in _ (by omega)
        have w2 : IntKind.i64.wrap ((m : Int) * 7 + 3) = (m : Int) * 7 + 3 := IntWalk.i64_in _ (by omega)
        have w3 : IntKind.i64.wrap (x * 131) = x * 131 := IntWalk.i64_in _ (by omega)
        have w4 : IntKind.i64.wrap (y * 1117) = y * 1117 := IntWalk.i64_in _ (by omega)
        have w5 : IntKind.i64.wrap (x * 131 + y * 1117) = x * 131 + y * 1117 := IntWalk.i64_in _ (by omega)
        have w6 : IntKind.i64.wrap ((m : Int) * 29) = (m : Int) * 29 := IntWalk.i64_in _ (by omega)
        have w7 : IntKind.i64.wrap (x * 131 + y * 1117 + (m : Int) * 29) = x * 131 + y * 1117 + (m : Int) * 29 := IntWalk.i64_in _ (by omega)
        have w8 : IntKind.i64.wrap ((d : Int) * 53) = (d : Int) * 53 := IntWalk.i64_in _ (by omega)
        have w9 : IntKind.i64.wrap (x * 131 + y * 1117 + (m : Int) * 29 + (d : Int) * 53) = x * 131 + y * 1117 + (m : Int) * 29 + (d : Int) * 53 := IntWalk.i64_in _ (by omega)
        have hLn : ¬ (L : Int) = 0 := by omega
        have hLn' : ¬ L = 0 := by omega
        have j1 : (i1 : Int) < (L : Int) := by omega
        have j2 : (i2 : Int) < (L : Int) := by omega
        go_enter Try.func46, Try.ntmps46
        go_wp2
        go_quiet (fail)
        clear w1 w2 w3 w4 w5 w6 w7 w8 w9 e1 e2 e3
        have hS0 : 0 ≤ x * 131 + y * 1117 + (m : Int) * 29 + (d : Int) * 53 := by omega
        have hS1 : x * 131 + y * 1117 + (m : Int) * 29 + (d : Int) * 53 ≤ 1000000000 := by omega
        generalize x * 131 + y * 1117 + (m : Int) * 29 + (d : Int) * 53 = S at hS0 hS1 ⊢
        have Hf := Lib.hid (pick_num hS0 hS1 hn')
        go_wp2
        go_ret
        exact ⟨_, rfl, Hf.out.1, fun _ => Hf.out.2, fun h => by omega, (Hw.out nq).1, (Hw.out nq).2⟩
end Go.Proofs.Ytoohfipicmdohaa
namespace Go.Proofs.Ytoohfipicmdohaa
open Go.ChangeShapes Go.WideShapes Go.ChangeAt Go.RowKit
set_option linter.unusedVariables false

theorem gr_new {w : World} {A : Option Addr} {c : Nat} {bs : List Int} {n : Nat} (hr : RdB w w.heap.size A bs) (hn : bs.length = n) (hl : n ≤ 2000) :
    GR (w.alloc (.cells #[.slice A n c, .int .i64 0] 60)) w.heap.size w.heap.size 0 := by
  subst hn
  exact ⟨A, c, bs, 0, Nat.le_refl _, heap_alloc_new w _, hr.keep (fun p hp => World.cell?_alloc_lt w _ p hp), hl, by omega, by omega⟩

def MadeReader (w : World) (e : Ending) (w' : World) : Prop :=
  e = .returned (.pointer (some ⟨w.heap.size, 0, none⟩)) ∧ GR w' w.heap.size w.heap.size 0 ∧ Below w.heap.size w w'

set_option maxHeartbeats 400000 in
theorem newReader_any (A : Option Addr) (c n : Nat) (bs : List Int) (w : World) (hr : RdB w w.heap.size A bs) (hn : bs.length = n) (hc : n ≤ c) (hm : c ≤ 9223372036854775807) :
    Calls Try.prog 44 #[.slice A n c] w (MadeReader w) := by
  by_cases h2 : 2000 < n
  · have hr2 : RdB w w.heap.size A (bs.take 2000) := by
      refine ⟨fun x hx => hr.1 x (List.mem_of_mem_take hx), fun hp => ?_⟩
      obtain ⟨b, off, e, hb, hcl⟩ := hr.2 (by omega)
      refine ⟨b, off, e, hb, fun i hi => ?_⟩
      have hi2 : i < 2000 := by rw [List.length_take] at hi; omega
      rw [hcl i (by omega)]
      simp [hi2]
    have hg := gr_new (n := 2000) (c := c) hr2 (by rw [List.length_take]; omega) (Nat.le_refl _)
    have Hg := Lib.hid hg
    clear hg hr2
    have Hn := Lib.hid hn
    clear hn
    have hc2 : 2000 ≤ c := by omega
    go_enter Try.func44, Try.ntmps44
    go_wp2
    go_ret
    exact ⟨rfl, Hg.out, (Below.refl _ _).alloc (Nat.le_refl _) _⟩
  · have hg := gr_new (c := c) hr hn (by omega)
    have Hg := Lib.hid hg
    clear hg
    have Hn := Lib.hid hn
    clear hn
    go_enter Try.func44, Try.ntmps44
    go_wp2
    go_ret
    exact ⟨rfl, Hg.out, (Below.refl _ _).alloc (Nat.le_refl _) _⟩

/-- One of a list of numbers that lies in a block of its own. -/
def OnePost (B R k : Nat) (lo hi : Int) (w : World) (e : Ending) (w' : World) : Prop :=
  ∃ v : Int, e = .returned (.int .i64 v) ∧ lo ≤ v ∧ v ≤ hi ∧ GR w' B R (k + 1) ∧ w.grownBy w' (some R)

set_option maxHeartbeats 400000 in
theorem one_any (R B k g : Nat) (zs : List Int) (n c : Nat) (lo hi : Int) (w : World) (hg : GR w B R k) (hk : k ≤ 100000) (hn : zs.length = n) (hn1 : 1 ≤ n) (hn2 : n ≤ 1000)
    (hgR : g ≠ R) (hcl : ∀ i, i < n → w.cell? ⟨g, i, none⟩ = some (.int .i64 (zs.getD i 0))) (hbd : ∀ x ∈ zs, lo ≤ x ∧ x ≤ hi) :
    Calls Try.prog 59 #[.pointer (some ⟨R, 0, none⟩), .slice (some ⟨g, 0, none⟩) n c] w (OnePost B R k lo hi w) := by
  have Hn := Lib.hid hn
  clear hn
  have Hcl := Lib.hid hcl
  clear hcl
  have Hbd := Lib.hid hbd
  clear hbd
  go_enter Try.func59, Try.ntmps59
  go_wp2_with fail
  refine (pick_any R B k n w hg hk (by omega) (by omega)).mono ?_
  rintro e w1 ⟨v, rfl, hv0, hv1, -, hg1, hgr⟩
  obtain ⟨i, rfl⟩ := Int.eq_ofNat_of_zero_le hv0
  have hin : i < n := by have := hv1 (by omega); omega
  have hgl : g < w.heap.size := by
    have h0 := Hcl.out 0 (by omega)
    exact World.block_lt_of_cell? w _ h0
  have hc1 : w1.cell? ⟨g, i, none⟩ = some (.int .i64 (zs.getD i 0)) := (World.cell?_of_block (hgr.block g hgl (by intro e; injection e with e; exact hgR e))).trans (Hcl.out i hin)
  obtain ⟨x, Hx⟩ : ∃ x, Hid (zs.getD i 0 = x) := ⟨_, rfl⟩
  rw [Hx.out] at hc1
  clear hv1
  go_wp2
  go_ret
  have hm : x ∈ zs := by rw [← Hx.out]; simp [List.getD, List.getElem?_eq_getElem (show i < zs.length by rw [Hn.out]; exact hin)]
  exact ⟨x, rfl, (Hbd.out x hm).1, (Hbd.out x hm).2, hg1, hgr⟩
end Go.Proofs.Ytoohfipicmdohaa
namespace Go.Proofs.Ytoohfipicmdohaa
open Go.ChangeShapes Go.WideShapes Go.ChangeAt Go.RowKit
set_option linter.unusedVariables false
set_option maxRecDepth 4000

theorem lit_cells (w : World) (zs : List Int) (g : Nat) (hg : g = w.heap.size) (t : TypeId) : ∀ i, i < zs.length → (w.alloc (.cells (zs.map (Value.int .i64)).toArray t)).cell? ⟨g, i, none⟩ = some (.int .i64 (zs.getD i 0)) := by
  intro i hi
  subst hg
  rw [cell_of_row _ _ _ _ t (0, 0) (heap_alloc_new w _)]
  simp [hi]
theorem own_slice {w : World} {B n : Nat} {v : Value} {zs : List Int} (h : w.ownsRow B 3 1 v n (zs.map (Value.int .i64))) (hn : zs.length = n) :
    ∃ A c, v = .slice A n c ∧ n ≤ c ∧ c ≤ 9223372036854775807 ∧ RdI w w.heap.size A zs := by
  have h0 := h
  rcases h.2 with ⟨rfl, rfl⟩ | ⟨g, cap, cur, rfl, _, _, hnc, hmx, _⟩
  · exact ⟨none, 0, rfl, Nat.le_refl _, by omega, fun hp => by omega⟩
  · exact ⟨_, cap, rfl, hnc, hmx, rdI_of_own h0 hn⟩

/-- One of the numbers of a list that is written out. -/
theorem oneLit (R B k : Nat) (zs : List Int) (n : Nat) (lo hi : Int) (w : World) (cs : Array Value) (hg : GR w B R k) (hk : k ≤ 100000) (hn : zs.length = n) (hn1 : 1 ≤ n) (hn2 : n ≤ 1000)
    (hcs : (zs.map (Value.int .i64)).toArray = cs) (hbd : ∀ x ∈ zs, lo ≤ x ∧ x ≤ hi) :
    Calls Try.prog 59 #[.pointer (some ⟨R, 0, none⟩), .slice (some ⟨w.heap.size, 0, none⟩) n n] (w.alloc (.cells cs 3)) (OnePost B R k lo hi w) := by
  have hga : GR (w.alloc (.cells cs 3)) B R k := hg.kept (row := none) (World.grownBy_alloc _ _ _) (fun g h => by cases h)
  refine (one_any R B k w.heap.size zs n n lo hi _ hga hk hn hn1 hn2 (by have := hg.lt; omega) (by rw [← hn, ← hcs]; exact lit_cells w zs _ rfl _) hbd).mono ?_
  rintro e w2 ⟨m, rfl, hm2, hm3, hg2, hgr2⟩
  exact ⟨m, rfl, hm2, hm3, hg2, gb_trans (World.grownBy_alloc w _ _) hgr2 (.inl rfl)⟩
/-- The same where the list's block is given by its number. -/
theorem oneLitAt (g : Nat) (R B k : Nat) (zs : List Int) (n : Nat) (lo hi : Int) (w : World) (cs : Array Value) (hg : GR w B R k) (hk : k ≤ 100000) (hn : zs.length = n) (hn1 : 1 ≤ n) (hn2 : n ≤ 1000)
    (hcs : (zs.map (Value.int .i64)).toArray = cs) (hbd : ∀ x ∈ zs, lo ≤ x ∧ x ≤ hi) (he : w.heap.size = g) :
    Calls Try.prog 59 #[.pointer (some ⟨R, 0, none⟩), .slice (some ⟨g, 0, none⟩) n n] (w.alloc (.cells cs 3)) (OnePost B R k lo hi w) := by
  subst he
  exact oneLit R B k zs n lo hi w cs hg hk hn hn1 hn2 hcs hbd
end Go.Proofs.Ytoohfipicmdohaa
namespace Go.Proofs.Ytoohfipicmdohaa
open Go.ChangeShapes Go.WideShapes Go.ChangeAt Go.RowKit
set_option linter.unusedVariables false
set_option maxRecDepth 4000

/-- Places as a function is given them. -/
structure PIn (w : World) (A : Option Addr) (c m : Nat) (zs : List Int) : Prop where
  rd : RdI w w.heap.size A zs
  len : zs.length = m
  cap : m ≤ c ∧ c ≤ 9223372036854775807
  most : m ≤ 1048576
theorem PIn.later {w w' : World} {A : Option Addr} {c m : Nat} {zs : List Int} (h : PIn w A c m zs) (hb : Below w.heap.size w w') : PIn w' A c m zs :=
  ⟨(h.rd.below hb).more hb.size, h.len, h.cap, h.most⟩
/-- A row of ints of the call's own. -/
def RowQ (xs : List Int) (w : World) (e : Ending) (w' : World) : Prop :=
  ∃ A' c', e = .returned (.slice A' xs.length c') ∧ Hid (w'.ownsRow w.heap.size 3 1 (.slice A' xs.length c') xs.length (xs.map (Value.int .i64))) ∧ Hid (Below w.heap.size w w')
/-- A row of ints of the call's own, of length L. -/
def OwnQ (wr : World) (B : Nat) (g c L : Nat) (xs : List Int) : Prop := xs.length = L ∧ wr.ownsRow B 3 1 (.slice (some ⟨g, 0, none⟩) L c) L (xs.map (Value.int .i64))
theorem ownQ_push {w3 : World} {B g3 c3 L : Nat} {xs : List Int} {x : Int} (h : xs.length = L) (ho : w3.ownsRow B 3 1 (.slice (some ⟨g3, 0, none⟩) (L + 1) c3) (L + 1) (xs.map (Value.int .i64) ++ [Value.int .i64 x])) : OwnQ w3 B g3 c3 (L + 1) (xs ++ [x]) :=
  ⟨by simp [h], by rw [List.map_append]; exact ho⟩
theorem own_lowQ {w : World} {B B' s n : Nat} {e : TypeId} {v : Value} {xs : List Value} (h : w.ownsRow B e s v n xs) (hB : B' ≤ B) : w.ownsRow B' e s v n xs := by
  refine ⟨h.1, ?_⟩
  rcases h.2 with h0 | ⟨g, cap, cur, h1, h2, h3⟩
  · exact .inl h0
  · exact .inr ⟨g, cap, cur, h1, by omega, h3⟩
theorem OwnQ.row {w wr : World} {B g c L : Nat} {xs : List Int} (h : OwnQ wr B g c L xs) (hB : w.heap.size ≤ B) (hb : Below w.heap.size w wr) : RowQ xs w (.returned (.slice (some ⟨g, 0, none⟩) L c)) wr := by
  obtain ⟨h1, h2⟩ := h
  subst h1
  exact ⟨_, _, rfl, own_lowQ h2 hB, hb⟩
theorem rowQ_nil (w w' : World) (h : Below w.heap.size w w') : RowQ [] w (.returned (.slice none 0 0)) w' := ⟨none, 0, rfl, World.ownsRow_nil _ _ _ _, h⟩
theorem RowQ.from {xs : List Int} {w w1 w2 : World} {e : Ending} (h : RowQ xs w1 e w2) (hb : Below w.heap.size w w1) : RowQ xs w e w2 := by
  obtain ⟨A', c', he, h1, h2⟩ := h
  exact ⟨A', c', he, own_lowQ h1.out hb.size, hb.trans (h2.out.mono hb.size)⟩
theorem below_drew0 {B : Nat} {a w : World} (h : Below B a w) (n : Nat) : Below B a (w.drewN n) := ⟨h.os, h.tape, h.output, h.size, h.block⟩

/-- Ints as places. -/
def toQ (zs : List Int) : List Nat := zs.map Int.toNat
theorem toQ_cI : ∀ ss : List Nat, toQ (cI ss) = ss
  | [] => rfl
  | s :: r => by have := toQ_cI r; simp only [toQ, cI, List.map_cons] at this ⊢; rw [this]; simp
/-- The answers. -/
def shQ (n : Int) (zs : List Int) : List Int := if vsh n zs = true then cI (shL n.toNat (toQ zs)) else []
def bpQ (n : Int) (zs : List Int) : Int := if vsh n zs = true ∧ zs.length < 4 then ((bpS n.toNat (toQ zs) : Nat) : Int) else -1
def rtQ (n : Int) (zs : List Int) : Bool := vsh n zs && (decide (2 ≤ zs.length) && rstS n.toNat (toQ zs))
def okR (n k : Int) : Bool := decide (1 ≤ n) && decide (n ≤ 9) && (decide (2 ≤ k) && decide (k ≤ 4))
def rsQ (n k : Int) : List (List Nat) := if okR n k = true then rsS n.toNat k.toNat else []
theorem shQ_yes {n : Nat} {ss : List Nat} (h : Sh n ss) : shQ (n : Int) (cI ss) = cI (shL n ss) := by unfold shQ; rw [if_pos h.vsh, toQ_cI, Int.toNat_natCast]
theorem shQ_no {n : Int} {zs : List Int} (h : vsh n zs = false) : shQ n zs = [] := by unfold shQ; rw [if_neg (by simp [h])]
theorem bpQ_yes {n : Nat} {ss : List Nat} (h : Sh n ss) (h4 : ss.length < 4) : bpQ (n : Int) (cI ss) = ((bpS n ss : Nat) : Int) := by unfold bpQ; rw [if_pos ⟨h.vsh, by rw [cI_length]; exact h4⟩, toQ_cI, Int.toNat_natCast]
theorem bpQ_no {n : Int} {zs : List Int} (h : vsh n zs = false ∨ 4 ≤ zs.length) : bpQ n zs = -1 := by
  unfold bpQ
  rw [if_neg]
  rintro ⟨h1, h2⟩
  rcases h with h | h
  · rw [h1] at h; cases h
  · omega
theorem rtQ_yes {n : Nat} {ss : List Nat} (h : Sh n ss) (h2 : 2 ≤ ss.length) : rtQ (n : Int) (cI ss) = rstS n ss := by unfold rtQ; rw [h.vsh, toQ_cI, Int.toNat_natCast, cI_length]; simp [h2]
theorem rtQ_no {n : Int} {zs : List Int} (h : vsh n zs = false ∨ zs.length < 2) : rtQ n zs = false := by
  unfold rtQ
  rcases h with h | h
  · simp [h]
  · simp [show ¬ 2 ≤ zs.length by omega]
theorem rsQ_yes {n k : Nat} (h1 : 1 ≤ n) (h9 : n ≤ 9) (h2 : 2 ≤ k) (h4 : k ≤ 4) : rsQ n k = rsS n k := by
  unfold rsQ okR
  rw [if_pos (by simp; omega)]; rfl
theorem okR_get {n k : Int} (h : okR n k = true) : ∃ N K : Nat, n = N ∧ k = K ∧ 1 ≤ N ∧ N ≤ 9 ∧ 2 ≤ K ∧ K ≤ 4 := by
  simp only [okR, Bool.and_eq_true, decide_eq_true_eq] at h
  exact ⟨n.toNat, k.toNat, by omega, by omega, by omega, by omega, by omega, by omega⟩
theorem okR_of {n k : Nat} (h1 : 1 ≤ n) (h9 : n ≤ 9) (h2 : 2 ≤ k) (h4 : k ≤ 4) : okR n k = true := by simp [okR]; omega
theorem rsQ_no {n k : Int} (h : okR n k = false) : rsQ n k = [] := by unfold rsQ; rw [if_neg (by simp [h])]
/-- The contracts. -/
def QBool (F : Nat) (ans : Int → List Int → Bool) : Prop := ∀ (n : Int) (A : Option Addr) (c m : Nat) (zs : List Int) (w : World), PIn w A c m zs →
  Calls Try.prog F #[.int .i64 n, .slice A m c] w fun e w' => e = .returned (.bool (ans n zs)) ∧ Below w.heap.size w w'
def QNum (F : Nat) (ans : Int → List Int → Int) : Prop := ∀ (n : Int) (A : Option Addr) (c m : Nat) (zs : List Int) (w : World), PIn w A c m zs →
  Calls Try.prog F #[.int .i64 n, .slice A m c] w fun e w' => e = .returned (.int .i64 (ans n zs)) ∧ Below w.heap.size w w'
def QRow (F : Nat) (ans : Int → List Int → List Int) : Prop := ∀ (n : Int) (A : Option Addr) (c m : Nat) (zs : List Int) (w : World), PIn w A c m zs →
  Calls Try.prog F #[.int .i64 n, .slice A m c] w (RowQ (ans n zs) w)

theorem validStreet_any (n : Int) (w : World) : Calls Try.prog 47 #[.int .i64 n] w fun e w' => e = .returned (.bool (decide (1 ≤ n) && decide (n ≤ 9))) ∧ w = w' := by
  by_cases h1 : 1 ≤ n <;> by_cases h2 : n ≤ 9
  all_goals
    go_enter Try.func47, Try.ntmps47
    go_wp2
    go_ret
    exact ⟨ret_bool (by simp [h1, h2]), rfl⟩
theorem iValidShops_any (n : Int) (A : Option Addr) (c m : Nat) (zs : List Int) (w : World) (h : PIn w A c m zs) :
    Calls Try.prog 16 #[.int .i64 n, .slice A m c] w fun e w' => e = .returned (.bool (vsh n zs)) ∧ w = w' := by
  have hm := h.most
  have hl := h.len
  have HS := Lib.hid (validStreet_any n w)
  by_cases hn : 1 ≤ n ∧ n ≤ 9
  · have hv : (decide (1 ≤ n) && decide (n ≤ 9)) = true := by simp [hn.1, hn.2]
    rw [hv] at HS
    have hn1 := hn.1
    have hn9 := hn.2
    by_cases h1 : 1 ≤ m
    · by_cases h4 : m ≤ 4
      · have H := Lib.hid (inOrder_any A c m zs (n - 1) w _ h.rd h.len (by omega))
        have hs : vsh n zs = okUp (n - 1) 0 zs := by unfold vsh; rw [hv, hl]; simp [h1, h4]
        have hw : IntKind.i64.wrap (n - 1) = n - 1 := IntWalk.i64_in _ (by omega)
        rw [hs]
        clear h hl hm hv hn
        go_enter Try.func16, Try.ntmps16
        go_wp2_with fail
        refine HS.out.mono ?_
        rintro e w' ⟨rfl, rfl⟩
        go_wp2_with fail
        refine H.out.mono ?_
        rintro e w' ⟨rfl, rfl⟩
        go_wp2
        go_ret
        exact ⟨ret_bool (by simp), rfl⟩
      · have hs : vsh n zs = false := by unfold vsh; rw [hl]; simp [h4]
        rw [hs]
        clear h hl hm hv hn
        go_enter Try.func16, Try.ntmps16
        go_wp2_with fail
        refine HS.out.mono ?_
        rintro e w' ⟨rfl, rfl⟩
        go_wp2
        go_ret
        exact ⟨ret_bool rfl, rfl⟩
    · have hs : vsh n zs = false := by unfold vsh; rw [hl]; simp [h1]
      rw [hs]
      clear h hl hm hv hn
      go_enter Try.func16, Try.ntmps16
      go_wp2_with fail
      refine HS.out.mono ?_
      rintro e w' ⟨rfl, rfl⟩
      go_wp2
      go_ret
      exact ⟨ret_bool rfl, rfl⟩
  · have hv : (decide (1 ≤ n) && decide (n ≤ 9)) = false := by simp; omega
    have hs : vsh n zs = false := by unfold vsh; rw [hv]; rfl
    rw [hv] at HS
    rw [hs]
    clear h hl hm hv hn hs
    go_enter Try.func16, Try.ntmps16
    go_wp2_with fail
    refine HS.out.mono ?_
    rintro e w' ⟨rfl, rfl⟩
    go_wp2
    go_ret
    exact ⟨ret_bool rfl, rfl⟩
theorem iValidShops_ok : QBool 16 vsh := fun n A c m zs w h => (iValidShops_any n A c m zs w h).mono fun _ _ ⟨he, hw⟩ => ⟨he, hw ▸ Below.refl _ _⟩
end Go.Proofs.Ytoohfipicmdohaa
namespace Go.Proofs.Ytoohfipicmdohaa
open Go.ChangeShapes Go.WideShapes Go.ChangeAt Go.RowKit
set_option linter.unusedVariables false
set_option maxRecDepth 4000

/-- Houses that are shared already: those with a nearer shop, and the first ones of those with one as far. -/
def dnS (ss : List Nat) (far h x : Nat) : Bool := decide (nrS ss x < far) || (decide (nrS ss x = far) && decide (x < h))
/-- What a place has of the first houses so far. -/
def prK (ss : List Nat) (far h s : Nat) : Nat → Nat
  | 0 => 0
  | x + 1 => prK ss far h s x + (if dnS ss far h x = true then ptS ss x s else 0)
theorem prK_congr {ss : List Nat} {far h far' h' s : Nat} : ∀ {n : Nat}, (∀ x, x < n → dnS ss far h x = dnS ss far' h' x) → prK ss far h s n = prK ss far' h' s n
  | 0, _ => rfl
  | n + 1, e => by simp only [prK]; rw [prK_congr (n := n) fun x hx => e x (by omega), e n (by omega)]
theorem dnQ_start (ss : List Nat) (x : Nat) : dnS ss 0 0 x = false := by simp [dnS]
theorem pr_start (ss : List Nat) (s : Nat) : ∀ n, prK ss 0 0 s n = 0
  | 0 => rfl
  | n + 1 => by simp only [prK]; rw [pr_start ss s n, dnQ_start]; rfl
theorem dnQ_next {ss : List Nat} {far n x : Nat} (hx : x < n) : dnS ss far n x = dnS ss (far + 1) 0 x := by
  rw [Bool.eq_iff_iff]; simp [dnS]; omega
theorem pr_next (ss : List Nat) (far s n : Nat) : prK ss far n s n = prK ss (far + 1) 0 s n := prK_congr fun x hx => dnQ_next hx
theorem dnQ_other {ss : List Nat} {far h x : Nat} (e : nrS ss h ≠ far) : dnS ss far (h + 1) x = dnS ss far h x := by
  rw [Bool.eq_iff_iff]
  simp only [dnS, Bool.or_eq_true, Bool.and_eq_true, decide_eq_true_eq]
  by_cases hx : x = h
  · subst hx; constructor <;> intro hh <;> omega
  · constructor <;> intro hh <;> omega
theorem pr_other {ss : List Nat} {far h s n : Nat} (e : nrS ss h ≠ far) : prK ss far (h + 1) s n = prK ss far h s n := prK_congr fun x _ => dnQ_other e
theorem dnQ_same {ss : List Nat} {far h : Nat} (e : nrS ss h = far) : dnS ss far h h = false ∧ dnS ss far (h + 1) h = true := by
  simp [dnS, e]
theorem dnQ_else {ss : List Nat} {far h x : Nat} (hx : x ≠ h) : dnS ss far (h + 1) x = dnS ss far h x := by
  rw [Bool.eq_iff_iff]
  simp only [dnS, Bool.or_eq_true, Bool.and_eq_true, decide_eq_true_eq]
  constructor <;> intro hh <;> omega
theorem pr_same {ss : List Nat} {far h s : Nat} (e : nrS ss h = far) : ∀ {n : Nat}, h < n → prK ss far (h + 1) s n = prK ss far h s n + ptS ss h s
  | n + 1, hh => by
    simp only [prK]
    by_cases hn : h = n
    · subst hn
      rw [(dnQ_same e).1, (dnQ_same e).2, prK_congr (far' := far) (h' := h) (fun x hx => dnQ_else (by omega))]
      simp
    · rw [pr_same e (n := n) (by omega), dnQ_else (show n ≠ h by omega)]
      omega
theorem pr_done {ss : List Nat} {far s : Nat} : ∀ {n : Nat}, (∀ x, x < n → dnS ss far 0 x = true) → prK ss far 0 s n = shK ss s n
  | 0, _ => rfl
  | n + 1, h => by simp only [prK, shK]; rw [pr_done (n := n) fun x hx => h x (by omega), h n (by omega)]; rfl
theorem prK_le (ss : List Nat) (far h s : Nat) : ∀ n, prK ss far h s n ≤ 12 * n
  | 0 => Nat.le_refl _
  | n + 1 => by have := prK_le ss far h s n; have := ptS_le ss n s; simp only [prK]; split <;> omega
theorem dnQ_far {n : Nat} {ss : List Nat} (h : Sh n ss) {x : Nat} (hx : x < n) : dnS ss n 0 x = true := by
  have := h.nr_lt hx
  simp [dnS]; exact this

/-- The indices of the shops that are just so far from a house. -/
def awS (ss : List Nat) (h far : Nat) : List Nat := (List.range ss.length).filter fun i => gpS (ss.getD i 0) h == far
/-- The first ones of them. -/
def awK (ss : List Nat) (h far : Nat) (k : Nat) : List Nat := (List.range k).filter fun i => gpS (ss.getD i 0) h == far
theorem awK_succ (ss : List Nat) (h far k : Nat) : awK ss h far (k + 1) = awK ss h far k ++ (if gpS (ss.getD k 0) h = far then [k] else []) := by
  unfold awK
  rw [List.range_succ, List.filter_append]
  congr 1
  by_cases e : gpS (ss.getD k 0) h = far
  · rw [if_pos e, List.filter_cons_of_pos (by rw [e]; exact beq_self_eq_true far), List.filter_nil]
  · rw [if_neg e, List.filter_cons_of_neg (by simpa using e), List.filter_nil]
theorem awS_mem {ss : List Nat} {h far i : Nat} : i ∈ awS ss h far ↔ i < ss.length ∧ gpS (ss.getD i 0) h = far := by simp [awS]
theorem awS_nodup (ss : List Nat) (h far : Nat) : (awS ss h far).Nodup := List.nodup_range.filter _
theorem awK_length_le (ss : List Nat) (h far k : Nat) : (awK ss h far k).length ≤ k := by
  have := List.length_filter_le (fun i => gpS (ss.getD i 0) h == far) (List.range k)
  rwa [List.length_range] at this
theorem range_getD (ss : List Nat) : (List.range ss.length).map (fun i => ss.getD i 0) = ss := by
  apply List.ext_getElem?
  intro i
  by_cases hi : i < ss.length
  · simp [hi, List.getD]
  · simp [hi]
theorem awS_length (ss : List Nat) (h far : Nat) : (awS ss h far).length = ctS ss h far := by
  unfold awS ctS
  rw [← List.countP_eq_length_filter]
  conv => rhs; rw [← range_getD ss]
  rw [List.countP_map]
  rfl
theorem awS_none {n : Nat} {ss : List Nat} (hs : Sh n ss) {h far : Nat} (hh : far < nrS ss h) : awS ss h far = [] := by
  rw [List.eq_nil_iff_forall_not_mem]
  intro i hi
  have hm := awS_mem.1 hi
  have := nrS_le (h := h) (getDN_mem hm.1)
  omega
theorem awS_some {n : Nat} {ss : List Nat} (hs : Sh n ss) {h : Nat} (hh : h < n) : 0 < (awS ss h (nrS ss h)).length := by
  obtain ⟨s, h1, e⟩ := nrS_at hs.n9 hh hs.ne hs.lt
  obtain ⟨i, hi, rfl⟩ := List.getElem_of_mem h1
  refine List.length_pos_iff.2 (List.ne_nil_of_mem (a := i) (awS_mem.2 ⟨hi, ?_⟩))
  simpa [List.getD, hi] using e
/-- The part of a house, by indices. -/
theorem ptS_at {ss : List Nat} {h far i : Nat} (e : nrS ss h = far) (hi : i < ss.length) : ptS ss h (ss.getD i 0) = if i ∈ awS ss h far then 12 / (awS ss h far).length else 0 := by
  unfold ptS
  rw [awS_length, e]
  by_cases hc : gpS (ss.getD i 0) h = far
  · rw [if_pos hc, if_pos (awS_mem.2 ⟨hi, hc⟩)]
  · rw [if_neg hc, if_neg fun hm => hc (awS_mem.1 hm).2]
end Go.Proofs.Ytoohfipicmdohaa
namespace Go.Proofs.Ytoohfipicmdohaa
open Go.ChangeShapes Go.WideShapes Go.ChangeAt Go.RowKit Go.Maps
set_option linter.unusedVariables false
set_option maxRecDepth 4000

theorem kQ : Keyed Try.prog 3 := int_keyed Try.underlying3
theorem wfQ {x : Nat} (h : x ≤ 1000) : (Lit.int .i64 (x : Int)).wf = true := WalkArith.wf_i64 (by omega)
theorem keyQ {x : Nat} (h : x ≤ 1000) : keyOf Try.prog 3 (.int .i64 (x : Int)) = some (.int .i64 (x : Int)) := keyOf_int_mk Try.underlying3 (wfQ h)
/-- How many there are. -/
def cntQ (s : Nat → Bool) (n : Nat) : Nat := (List.range n).countP s
theorem cntQ_succ (s : Nat → Bool) (n : Nat) : cntQ s (n + 1) = cntQ s n + if s n = true then 1 else 0 := by
  unfold cntQ; rw [List.range_succ, List.countP_append]; simp [List.countP_cons]
def setQ (s : Nat → Bool) (h : Nat) (b : Bool) : Nat → Bool := fun x => if x = h then b else s x
theorem cntQ_set_out {s : Nat → Bool} {h : Nat} {b : Bool} : ∀ {n : Nat}, n ≤ h → cntQ (setQ s h b) n = cntQ s n
  | 0, _ => rfl
  | n + 1, hn => by rw [cntQ_succ, cntQ_succ, cntQ_set_out (n := n) (by omega)]; simp [setQ, show n ≠ h by omega]
theorem cntQ_set {s : Nat → Bool} {h : Nat} {b : Bool} : ∀ {n : Nat}, h < n → cntQ (setQ s h b) n + (if s h = true then 1 else 0) = cntQ s n + if b = true then 1 else 0
  | n + 1, hn => by
    rw [cntQ_succ, cntQ_succ]
    by_cases e : h = n
    · subst e
      rw [cntQ_set_out (Nat.le_refl _)]
      simp only [setQ, if_true]; omega
    · have ih := cntQ_set (s := s) (b := b) (h := h) (n := n) (by omega)
      simp only [setQ, show n ≠ h from fun h' => e h'.symm, if_false]
      have : setQ s h b = fun x => if x = h then b else s x := rfl
      rw [← this] at *
      omega
theorem cntQ_none {s : Nat → Bool} : ∀ {n : Nat}, cntQ s n = 0 → ∀ x, x < n → s x = false
  | n + 1, h, x, hx => by
    rw [cntQ_succ] at h
    by_cases e : x = n
    · subst e
      cases hs : s x with
      | false => rfl
      | true => rw [hs] at h; simp at h
    · exact cntQ_none (n := n) (by omega) x (by omega)
theorem cntQ_all_no {s : Nat → Bool} : ∀ {n : Nat}, (∀ x, x < n → s x = false) → cntQ s n = 0
  | 0, _ => rfl
  | n + 1, h => by rw [cntQ_succ, cntQ_all_no (n := n) fun x hx => h x (by omega), h n (by omega)]; rfl
/-- The map reads as a set of houses. -/
def SetQ (w : World) (mb cnt n : Nat) (s : Nat → Bool) : Prop :=
  ∃ D : DataW Unit, w.ownsMap Try.prog 3 (plainElem Try.prog 4) mb cnt D ∧ (∀ x, x < n → D.atKey (.int .i64 (x : Int)) (.lit (.bool false)) = .lit (.bool (s x)) ∧ has D (.int .i64 (x : Int)) = s x) ∧ Maps.size D = cntQ s n
theorem SetQ.lt {w : World} {mb cnt n : Nat} {s : Nat → Bool} (h : SetQ w mb cnt n s) : mb < w.heap.size := by obtain ⟨D, hD, -⟩ := h; exact hD.lt
theorem SetQ.below {w w' : World} {mb cnt n : Nat} {s : Nat → Bool} (h : SetQ w mb cnt n s) (hb : Below w.heap.size w w') : SetQ w' mb cnt n s := by
  obtain ⟨D, ⟨es, clock, hbk, hr⟩, r⟩ := h
  refine ⟨D, ⟨es, clock, ?_, hr⟩, r⟩
  rw [hb.block mb (World.ownsMap.lt ⟨es, clock, hbk, hr⟩)]; exact hbk
theorem SetQ.setCell {w : World} {mb cnt n : Nat} {s : Nat → Bool} (h : SetQ w mb cnt n s) {a : Addr} (ha : mb ≠ a.block) (u : Value) : SetQ (w.setCell a u) mb cnt n s := by
  obtain ⟨D, hD, r⟩ := h
  exact ⟨D, hD.setCell ha u, r⟩
theorem SetQ.congr {w : World} {mb cnt n : Nat} {s s' : Nat → Bool} (h : SetQ w mb cnt n s) (e : ∀ x, x < n → s x = s' x) : SetQ w mb cnt n s' := by
  obtain ⟨D, hD, r, hz⟩ := h
  refine ⟨D, hD, fun x hx => by rw [← e x hx]; exact r x hx, ?_⟩
  rw [hz]
  unfold cntQ
  exact List.countP_congr fun x hx => by rw [e x (List.mem_range.1 hx)]
theorem intQ_inj {x y : Nat} (h : (Lit.int .i64 (x : Int)) = .int .i64 (y : Int)) : x = y := by injection h with _ h; omega
theorem setQ_put {w' : World} {mb cnt n h : Nat} {s : Nat → Bool} {D : DataW Unit} (hT : Tidy D) (hat : ∀ x, x < n → D.atKey (.int .i64 (x : Int)) (.lit (.bool false)) = .lit (.bool (s x)) ∧ has D (.int .i64 (x : Int)) = s x) (hz : Maps.size D = cntQ s n) (hh : h < n) (hs : s h = false)
    (hown : w'.ownsMap Try.prog 3 (plainElem Try.prog 4) mb (cnt + 1) (D.put (.int .i64 (h : Int)) (.lit (.bool true)))) : SetQ w' mb (cnt + 1) n (setQ s h true) := by
  refine ⟨_, hown, fun x hx => ?_, ?_⟩
  · by_cases e : x = h
    · subst e
      exact ⟨by rw [atKey_put_same hT.isMap (show WideAt.IsKeyLit (.int .i64 (x : Int)) from trivial)]; simp [setQ], by rw [has_put_same hT.isMap (show WideAt.IsKeyLit (.int .i64 (x : Int)) from trivial)]; simp [setQ]⟩
    · rw [atKey_put_other (fun he => e (intQ_inj he)), has_put_other (fun he => e (intQ_inj he))]
      simp only [setQ, e, if_false]
      exact hat x hx
  · rw [size_put hT, (hat h hh).2, hs, hz]
    have := cntQ_set (s := s) (b := true) hh
    rw [hs] at this
    simp at this ⊢
    omega
theorem setQ_del {w' : World} {mb cnt n h : Nat} {s : Nat → Bool} {D : DataW Unit} (hT : Tidy D) (hat : ∀ x, x < n → D.atKey (.int .i64 (x : Int)) (.lit (.bool false)) = .lit (.bool (s x)) ∧ has D (.int .i64 (x : Int)) = s x) (hz : Maps.size D = cntQ s n) (hh : h < n) (hs : s h = true)
    (hown : w'.ownsMap Try.prog 3 (plainElem Try.prog 4) mb cnt (D.del (.int .i64 (h : Int)))) : SetQ w' mb cnt n (setQ s h false) := by
  refine ⟨_, hown, fun x hx => ?_, ?_⟩
  · by_cases e : x = h
    · subst e
      exact ⟨by rw [atKey_del_same]; simp [setQ], by rw [has_del_same]; simp [setQ]⟩
    · rw [atKey_del_other (fun he => e (intQ_inj he)), has_del_other (fun he => e (intQ_inj he))]
      simp only [setQ, e, if_false]
      exact hat x hx
  · have h1 := size_del (k := .int .i64 (h : Int)) hT
    have := cntQ_set (s := s) (b := false) hh
    rw [(hat h hh).2, hs, hz] at h1
    rw [hs] at this
    simp at this h1 ⊢
    omega
theorem zeroBoolQ (w : World) : (zeroValue 4).run Try.prog w = .ok (.bool false) w := Try.zeroValue4 w
/-- An element that reads as a bool's datum is that bool. -/
theorem boolQ_inv {v : Value} {z : DataW Unit × List MemPlace} (h : plainElem Try.prog 4 v = some z) : ∃ b, v = .bool b ∧ z = (.lit (.bool b), []) := by
  unfold plainElem at h
  rw [Try.underlying4] at h
  cases v <;> simp at h
  subst h
  exact ⟨_, rfl, rfl⟩
theorem SetQ.look {w : World} {mb cnt n h : Nat} {s : Nat → Bool} (hA : SetQ w mb cnt n s) (hh : h < n) (hn : n ≤ 9) :
    (Instr.lookup 49 (.map (some mb)) (.int .i64 (h : Int)) false).run Try.prog w = .ok (.bool (s h)) w := by
  obtain ⟨D, hD, hat, -⟩ := hA
  obtain ⟨v, ps, hrun, hv⟩ := hD.lookup kQ Try.underlying49 (z := .bool false) (zeroBoolQ w) (plainElem_bool Try.underlying4 false) (keyQ (x := h) (by omega))
  obtain ⟨c, rfl, hc⟩ := boolQ_inv hv
  simp only [Prod.mk.injEq] at hc
  rw [(hat h hh).1] at hc
  have := hc.1
  simp at this
  rw [this]; exact hrun
theorem has_any {mb cnt n h : Nat} {s : Nat → Bool} (w : World) (hA : SetQ w mb cnt n s) (hh : h < n) (hn : n ≤ 9) :
    Calls Try.prog 52 #[.map (some mb), .int .i64 (h : Int)] w fun e w' => e = .returned (.bool (s h)) ∧ w = w' := by
  have hl := hA.look hh hn
  go_enter Try.func52, Try.ntmps52
  go_wp2
  go_ret
  exact ⟨rfl, rfl⟩
def SetPost (W : World) (mb cnt n : Nat) (s : Nat → Bool) (e : Ending) (w' : World) : Prop := e = .returned (.tuple #[]) ∧ SetQ w' mb cnt n s ∧ W.grownBy w' (some mb)
theorem add_any {mb cnt n h : Nat} {s : Nat → Bool} (w : World) (hA : SetQ w mb cnt n s) (hh : h < n) (hn : n ≤ 9) (hs : s h = false) (hc : cnt ≤ 1000) :
    Calls Try.prog 65 #[.map (some mb), .int .i64 (h : Int)] w (SetPost w mb (cnt + 1) n (setQ s h true)) := by
  obtain ⟨D, hD, hat, hz⟩ := hA
  have HP : Hid (∀ w', w'.ownsMap Try.prog 3 (plainElem Try.prog 4) mb (cnt + 1) (D.put (.int .i64 (h : Int)) (.lit (.bool true))) → SetQ w' mb (cnt + 1) n (setQ s h true)) := fun w' hw => setQ_put (hD.tidy kQ) hat hz hh hs hw
  have HD := Lib.hid hD
  have hkey := keyQ (x := h) (by omega)
  clear hat hz hs hD
  go_enter Try.func65, Try.ntmps65
  go_wp2_with (at_mapUpdate; refine wpList_mapUpdate_own _ rfl _ _ _ 49 rfl 3 4 kQ Try.underlying49 _ mb cnt D rfl HD.out (by unfold maxLen; omega) _ _ _ rfl rfl hkey _ [] (plainElem_bool Try.underlying4 true) ?_; intro w1 hown1 hgrow1)
  have HS := Lib.hid (HP.out _ hown1)
  clear hown1
  go_end0
  exact ⟨rfl, HS.out, hgrow1⟩
theorem remove_any {mb cnt n h : Nat} {s : Nat → Bool} (w : World) (hA : SetQ w mb cnt n s) (hh : h < n) (hn : n ≤ 9) (hs : s h = true) :
    Calls Try.prog 53 #[.map (some mb), .int .i64 (h : Int)] w (SetPost w mb cnt n (setQ s h false)) := by
  obtain ⟨D, hD, hat, hz⟩ := hA
  have HP : Hid (∀ w', w'.ownsMap Try.prog 3 (plainElem Try.prog 4) mb cnt (D.del (.int .i64 (h : Int))) → SetQ w' mb cnt n (setQ s h false)) := fun w' hw => setQ_del (hD.tidy kQ) hat hz hh hs hw
  have HD := Lib.hid hD
  have hkey := keyQ (x := h) (by omega)
  clear hat hz hs hD
  go_enter Try.func53, Try.ntmps53
  go_wp2_with (at_delete; refine wpList_delete_own _ rfl _ _ 49 3 rfl 4 kQ Try.underlying49 _ mb cnt D rfl HD.out _ _ rfl hkey ?_; intro w1 hown1 hturn1)
  have HS := Lib.hid (HP.out _ hown1)
  have hg := hturn1.grown
  clear hown1 hturn1
  go_end0
  exact ⟨rfl, HS.out, hg⟩
end Go.Proofs.Ytoohfipicmdohaa
namespace Go.Proofs.Ytoohfipicmdohaa
open Go.ChangeShapes Go.WideShapes Go.ChangeAt Go.RowKit Go.Maps
set_option linter.unusedVariables false
set_option maxRecDepth 4000

def HsRel (n mb : Nat) (w : World) (i : Value) (wr : World) : Prop := ∃ k : Nat, k ≤ n ∧ i = .int .i64 k ∧ Hid (SetQ wr mb k n (fun x => decide (x < k))) ∧ Hid (Below w.heap.size w wr)
def HsPost (n : Nat) (w : World) (e : Ending) (w' : World) : Prop := ∃ mb, e = .returned (.map (some mb)) ∧ Hid (w.heap.size ≤ mb) ∧ Hid (SetQ w' mb n n (fun _ => true)) ∧ Hid (Below w.heap.size w w')
theorem setQ_made (w : World) (n : Nat) : SetQ (w.alloc (.map #[] 0)) w.heap.size 0 n (fun x => decide (x < 0)) :=
  ⟨.map [], World.ownsMap_made _ _ _ _, fun x hx => ⟨by simp [DataW.atKey], by simp [has]⟩, by rw [cntQ_all_no (fun x hx => by simp)]; rfl⟩
set_option maxHeartbeats 800000 in
theorem housesOf_any (n : Nat) (w : World) (hn : n ≤ 9) : Calls Try.prog 50 #[.int .i64 (n : Int)] w (HsPost n w) := by
  have hmm := @run_makeMap Try.prog
  have HS0 := Lib.hid (setQ_made w n)
  have HB0 : Hid (Below w.heap.size w (w.alloc (.map #[] 0))) := (Below.refl _ _).alloc (Nat.le_refl _) _
  have HA := Lib.hid (fun (k : Nat) (W : World) (hk : k < n) (h : SetQ W w.heap.size k n (fun x => decide (x < k))) => add_any W h hk hn (by simp) (by omega))
  go_enter Try.func50, Try.ntmps50
  go_wp2
  go_loopw [7] (fun i wr => HsRel n w.heap.size w i wr) (fun i _ => n - (intOf i).toNat)
  case atStart => exact ⟨0, Nat.zero_le _, rfl, HS0, HB0⟩
  case round =>
    clear HS0 HB0
    obtain ⟨k, hk, rfl, HS, HB⟩ := hrel
    by_cases hlt : k < n
    · go_wp2_with fail
      refine (HA.out k wr hlt HS.out).mono ?_
      rintro e w2 ⟨rfl, hs2, hg2⟩
      have HS2 : Hid (SetQ w2 w.heap.size (k + 1) n (fun x => decide (x < k + 1))) := hs2.congr fun x hx => by
        show setQ _ _ _ _ = _
        unfold setQ
        by_cases e : x = k
        · simp [e]
        · simp only [e, if_false]; rw [decide_eq_decide]; omega
      have HB2 : Hid (Below w.heap.size w w2) := HB.out.grown hg2 HB.out.size (fun j hj => by injection hj with hj; omega)
      clear hs2 hg2
      go_wp2
      go_roundw
      case rel => exact ⟨k + 1, by omega, by go_num, HS2, HB2⟩
      case measure => simp [intOf]; omega
    · obtain rfl : k = n := by omega
      have HS2 : Hid (SetQ wr w.heap.size k k (fun _ => true)) := HS.out.congr fun x hx => by simp [hx]
      go_wp2
      go_ret
      exact ⟨_, rfl, Nat.le_refl _, HS2, HB⟩

theorem distQ (a b : Nat) (w : World) (ha : a ≤ 100) (hb : b ≤ 100) :
    Calls Try.prog 66 #[.int .i64 (a : Int), .int .i64 (b : Int)] w fun e w' => e = .returned (.int .i64 ((gpS a b : Nat) : Int)) ∧ w = w' := by
  have h := distance_any (a : Int) (b : Int) w (by omega) (by omega) (by omega) (by omega)
  rw [gpS_int] at h
  exact h
theorem gapQ (a b : Nat) (w : World) (ha : a ≤ 100) (hb : b ≤ 100) :
    Calls Try.prog 68 #[.int .i64 (a : Int), .int .i64 (b : Int)] w fun e w' => e = .returned (.int .i64 ((gpS a b : Nat) : Int)) ∧ w = w' := by
  have h := gap_any (a : Int) (b : Int) w (by omega) (by omega) (by omega) (by omega)
  rw [gpS_int] at h
  exact h
/-- A place read out of a row. -/
theorem RdI.q {w : World} {B : Nat} {A : Option Addr} {ss : List Nat} (h : RdI w B A (cI ss)) {k : Nat} (hk : k < ss.length) :
    ∃ b off s, A = some ⟨b, off, none⟩ ∧ b < B ∧ Hid (ss.getD k 0 = s) ∧ w.cell? ⟨b, off + k, none⟩ = some (.int .i64 ((s : Nat) : Int)) := by
  obtain ⟨b, off, e, hb, hc⟩ := h.at_ (k := k) (by rw [cI_length]; exact hk)
  rw [cI_getD] at hc
  exact ⟨b, off, _, e, hb, rfl, hc⟩
def AwRel (ss : List Nat) (h far m B : Nat) (w : World) (o i : Value) (wr : World) : Prop :=
  ∃ k g c L : Nat, k ≤ m ∧ L ≤ k ∧ o = .slice (some ⟨g, 0, none⟩) L c ∧ i = .int .i64 k ∧ Hid (OwnQ wr B g c L (cI (awK ss h far k))) ∧ Hid (Below w.heap.size w wr)
set_option maxHeartbeats 1600000 in
theorem shopsAway_any (A : Option Addr) (c m : Nat) (ss : List Nat) (h far : Nat) (w : World) (B : Nat) (hB : B ≤ w.heap.size) (hr : RdI w B A (cI ss)) (hm : ss.length = m) (hm4 : m ≤ 100) (hss : ∀ s ∈ ss, s ≤ 100) (hh : h ≤ 100) (hf : far ≤ 100) :
    Calls Try.prog 51 #[.slice A m c, .int .i64 (h : Int), .int .i64 (far : Int)] w (RowQ (cI (awS ss h far)) w) := by
  obtain ⟨i0, hi0, hz0, hz1, hz2⟩ := info_parts intInfo
  have Hm := Lib.hid hm
  have Hr := Lib.hid hr
  have HD := Lib.hid (fun (k : Nat) (W : World) (hk : k < ss.length) => distQ (ss.getD k 0) h W (hss _ (getDN_mem hk)) hh)
  have HE : Hid (awS ss h far = awK ss h far m) := by show _ = _; rw [← hm]; rfl
  have HO0 : Hid (OwnQ (w.alloc (.cells #[] 3)) w.heap.size w.heap.size 0 0 (cI (awK ss h far 0))) := ⟨rfl, World.ownsRow_lit w #[] 0 (Nat.le_refl _) (by decide) rfl⟩
  have HB0 : Hid (Below w.heap.size w (w.alloc (.cells #[] 3))) := (Below.refl _ _).alloc (Nat.le_refl _) _
  clear hm hr hss
  rw [HE.out]
  go_enter Try.func51, Try.ntmps51
  go_wp2
  go_loopw [7, 13] (fun o i wr => AwRel ss h far m w.heap.size w o i wr) (fun _ i _ => m - (intOf i).toNat)
  case atStart => exact ⟨0, _, _, 0, by omega, by omega, rfl, rfl, HO0, HB0⟩
  case round =>
    clear HO0 HB0
    obtain ⟨k, g, c1, L, hk, hLk, rfl, rfl, HO, HB⟩ := hrel
    by_cases hlt : k < m
    · obtain ⟨b, off, s, rfl, hbw, Hs, hc⟩ := ((Hr.out.more hB).below HB.out).q (k := k) (by rw [Hm.out]; exact hlt)
      have HDk := Lib.hid (HD.out k wr (by rw [Hm.out]; exact hlt))
      have HT := Lib.hid (awK_succ ss h far k)
      rw [Hs.out] at HDk HT
      obtain ⟨d, Hd⟩ : ∃ d, Hid (gpS s h = d) := ⟨_, rfl⟩
      rw [Hd.out] at HDk HT
      go_wp2_with fail
      refine HDk.out.mono ?_
      rintro e w2 ⟨rfl, rfl⟩
      by_cases he : d = far
      · have ht : ((d : Int) == (far : Int)) = true := by rw [beq_iff_eq]; omega
        have HT2 : Hid (cI (awK ss h far (k + 1)) = cI (awK ss h far k) ++ [(k : Int)]) := by show _ = _; rw [HT.out, if_pos he, cI_append]; rfl
        have Hlen := Lib.hid HO.out.1
        have Hown := Lib.hid HO.out.2
        have hsz : L + 1 ≤ maxLen := by unfold maxLen; omega
        have hsz2 : (L + 1) * 8 ≤ 140737488355328 := by omega
        have hsz3 : w.heap.size ≤ (wr.alloc (.cells #[.int .i64 k] 3)).heap.size := by rw [size_alloc1]; have := HB.out.size; omega
        clear he HT HDk
        go_wp2_with (at_builtin; refine wpList_append_lies _ rfl _ _ 23 rfl w.heap.size 3 i0 _ 1 8 Try.underlying23 hi0 hz0 hz1 hz2 rfl (by decide) _ _ _ rfl (Hown.out.alloc _) ⟨wr.heap.size, 0, none⟩ 1 1 [.int .i64 k] rfl rfl (cell_one_new _ _ _) (by intro u hu; simp at hu; subst hu; rfl) (by decide) hsz hsz2 hsz3 _ rfl ?_; intro g3 c3 w4 hown4 hgrow4 hat4 hlt4)
        have HO4 : Hid (OwnQ w4 w.heap.size g3 c3 (L + 1) (cI (awK ss h far (k + 1)))) := by show OwnQ _ _ _ _ _ _; rw [HT2.out]; exact ownQ_push Hlen.out hown4
        have HB4 : Hid (Below w.heap.size w w4) := (HB.out.alloc HB.out.size _).grown hgrow4 hsz3 (fun q hq => (Hown.out.lt q hq).1)
        clear hown4 hgrow4 hat4 hlt4 Hown HO hsz hsz2 hsz3
        go_wp2
        go_roundw
        case rel => exact ⟨k + 1, g3, c3, L + 1, by omega, by omega, rfl, by go_num, HO4, HB4⟩
        case measure => simp [intOf]; omega
      · have ht : ((d : Int) == (far : Int)) = false := by rw [beq_eq_false_iff_ne]; omega
        have HO2 : Hid (OwnQ wr w.heap.size g c1 L (cI (awK ss h far (k + 1)))) := by show OwnQ _ _ _ _ _ _; rw [HT.out, if_neg he, List.append_nil]; exact HO.out
        clear he HT HDk
        go_wp2
        go_roundw
        case rel => exact ⟨k + 1, g, c1, L, by omega, by omega, rfl, by go_num, HO2, HB⟩
        case measure => simp [intOf]; omega
    · obtain rfl : k = m := by omega
      have HX := Lib.hid (HO.out.row (Nat.le_refl _) HB.out)
      go_wp2
      go_ret
      exact HX.out
end Go.Proofs.Ytoohfipicmdohaa
