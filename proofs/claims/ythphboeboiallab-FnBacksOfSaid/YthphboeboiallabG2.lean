/-
  The reader made; one of a list drawn; homes drawn.
  Conditions: none beyond what each theorem states.
-/
import Derived.Test.YthphboeboiallabG1
import Derived.Deep.AppendLies
import Derived.Maps.AppendAt
namespace Go.Proofs.Ythphboeboiallab
open Go.ChangeShapes Go.WideShapes Go.ChangeAt Go.RowKit
set_option linter.unusedVariables false

theorem gr_new {w : World} {A : Option Addr} {c : Nat} {bs : List Int} {n : Nat} (hr : RdB w w.heap.size A bs) (hn : bs.length = n) (hl : n ≤ 2000) :
    GR (w.alloc (.cells #[.slice A n c, .int .i64 0] 73)) w.heap.size w.heap.size 0 := by
  subst hn
  exact ⟨A, c, bs, 0, Nat.le_refl _, heap_alloc_new w _, hr.keep (fun p hp => World.cell?_alloc_lt w _ p hp), hl, by omega, by omega⟩

def MadeReader (w : World) (e : Ending) (w' : World) : Prop :=
  e = .returned (.pointer (some ⟨w.heap.size, 0, none⟩)) ∧ GR w' w.heap.size w.heap.size 0 ∧ Below w.heap.size w w'

set_option maxHeartbeats 400000 in
theorem newReader_any (A : Option Addr) (c n : Nat) (bs : List Int) (w : World) (hr : RdB w w.heap.size A bs) (hn : bs.length = n) (hc : n ≤ c) (hm : c ≤ 9223372036854775807) :
    Calls Try.prog 34 #[.slice A n c] w (MadeReader w) := by
  by_cases h2 : 2000 < n
  · have hr2 : RdB w w.heap.size A (bs.take 2000) := by
      refine ⟨fun x hx => hr.1 x (List.mem_of_mem_take hx), fun hp => ?_⟩
      obtain ⟨b, off, e, hb, hcl⟩ := hr.2 (by omega)
      refine ⟨b, off, e, hb, fun i hi => ?_⟩
      have hi2 : i < 2000 := by rw [List.length_take] at hi; omega
      rw [hcl i (by omega)]
      simp [hi2]
    have hg := gr_new (n := 2000) (c := c) hr2 (by rw [List.length_take]; omega) (Nat.le_refl _)
    have Hg := Lib.hid hg
    clear hg hr2
    have Hn := Lib.hid hn
    clear hn
    have hc2 : 2000 ≤ c := by omega
    go_enter Try.func34, Try.ntmps34
    go_wp2
    go_ret
    exact ⟨rfl, Hg.out, (Below.refl _ _).alloc (Nat.le_refl _) _⟩
  · have hg := gr_new (c := c) hr hn (by omega)
    have Hg := Lib.hid hg
    clear hg
    have Hn := Lib.hid hn
    clear hn
    go_enter Try.func34, Try.ntmps34
    go_wp2
    go_ret
    exact ⟨rfl, Hg.out, (Below.refl _ _).alloc (Nat.le_refl _) _⟩

/-- One of a list of numbers that lies in a block of its own. -/
def OnePost (B R k : Nat) (lo hi : Int) (w : World) (e : Ending) (w' : World) : Prop :=
  ∃ v : Int, e = .returned (.int .i64 v) ∧ lo ≤ v ∧ v ≤ hi ∧ GR w' B R (k + 1) ∧ w.grownBy w' (some R)

set_option maxHeartbeats 400000 in
theorem one_any (R B k g : Nat) (zs : List Int) (n c : Nat) (lo hi : Int) (w : World) (hg : GR w B R k) (hk : k ≤ 100000) (hn : zs.length = n) (hn1 : 1 ≤ n) (hn2 : n ≤ 1000)
    (hgR : g ≠ R) (hcl : ∀ i, i < n → w.cell? ⟨g, i, none⟩ = some (.int .i64 (zs.getD i 0))) (hbd : ∀ x ∈ zs, lo ≤ x ∧ x ≤ hi) :
    Calls Try.prog 53 #[.pointer (some ⟨R, 0, none⟩), .slice (some ⟨g, 0, none⟩) n c] w (OnePost B R k lo hi w) := by
  have Hn := Lib.hid hn
  clear hn
  have Hcl := Lib.hid hcl
  clear hcl
  have Hbd := Lib.hid hbd
  clear hbd
  go_enter Try.func53, Try.ntmps53
  go_wp2_with fail
  refine (pick_any R B k n w hg hk (by omega) (by omega)).mono ?_
  rintro e w1 ⟨v, rfl, hv0, hv1, -, hg1, hgr⟩
  obtain ⟨i, rfl⟩ := Int.eq_ofNat_of_zero_le hv0
  have hin : i < n := by have := hv1 (by omega); omega
  have hgl : g < w.heap.size := by
    have h0 := Hcl.out 0 (by omega)
    exact World.block_lt_of_cell? w _ h0
  have hc1 : w1.cell? ⟨g, i, none⟩ = some (.int .i64 (zs.getD i 0)) := (World.cell?_of_block (hgr.block g hgl (by intro e; injection e with e; exact hgR e))).trans (Hcl.out i hin)
  obtain ⟨x, Hx⟩ : ∃ x, Hid (zs.getD i 0 = x) := ⟨_, rfl⟩
  rw [Hx.out] at hc1
  clear hv1
  go_wp2
  go_ret
  have hm : x ∈ zs := by rw [← Hx.out]; simp [List.getD, List.getElem?_eq_getElem (show i < zs.length by rw [Hn.out]; exact hin)]
  exact ⟨x, rfl, (Hbd.out x hm).1, (Hbd.out x hm).2, hg1, hgr⟩
end Go.Proofs.Ythphboeboiallab
