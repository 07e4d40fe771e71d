/-
  deepestFirst: a slice of its own with the nodes, the farthest first, those as far in their order.
  Conditions: at most seven nodes.
-/
import Derived.Test.YtggpdlcompokoaaC6
import Derived.Test.YtggpdlcompokoaaC7
import Derived.Deep.Onto
namespace Go.Proofs.Ytggpdlcompokoaa
open Go.ChangeShapes Go.WideShapes Go.ChangeAt Go.RowKit
set_option linter.unusedVariables false
set_option maxRecDepth 4000

set_option maxHeartbeats 800000 in
theorem stable_any (P : Nat → Nat) (RV : Nat → Value) (B n cap g : Nat) (t : List (Int × Int)) (w wr : World) (ht : Ahead t) (hnt : n ≤ t.length) (hn1 : 1 ≤ n) (hn7 : n ≤ 7) (hcap : n ≤ cap) (hlk : LkN w B n P RV t) (hs : SRow w wr P g n cap (List.range n)) :
    Calls Try.prog 92 #[.slice (some ⟨g, 0, none⟩) n cap, .int .i64 n, .func (.func 82) #[] #[]] wr fun e w' => e = .returned (.tuple #[]) ∧
      ∃ ord, SortO t n n ord ∧ SRow w w' P g n cap ord := by
  have HI := Lib.hid (insort_any P RV B n cap g t w wr ht hnt hn1 hn7 hcap hlk hs)
  have h20 : (n : Int) < 20 := by omega
  have h20' : ¬ (20 : Int) ≤ (n : Int) := by omega
  have h20'' : ¬ (20 : Int) < (n : Int) := by omega
  clear hlk hs
  go_enter Try.func92, Try.ntmps92
  go_wp2
  go_loopw [7, 8] (fun a b wq => a = .int .i64 0 ∧ b = .int .i64 20 ∧ wq = wr) (fun _ _ _ => 0)
  case atStart => exact ⟨rfl, rfl, rfl⟩
  case round =>
    obtain ⟨rfl, rfl, rfl⟩ := hrel
    go_wp2_with fail
    refine HI.out.mono ?_
    rintro e w' ⟨rfl, ord, hO, hS⟩
    have HO := Lib.hid hO
    have HS := Lib.hid hS
    clear hO hS
    go_wp2
    go_loopw [6] (fun b wq => b = .int .i64 20 ∧ wq = w') (fun _ _ => 0)
    case atStart => exact ⟨rfl, rfl⟩
    case round =>
      obtain ⟨rfl, rfl⟩ := hrel
      go_wp2
      go_end0
      exact ⟨rfl, ord, HO.out, HS.out⟩

set_option maxHeartbeats 800000 in
theorem sortStable_any (P : Nat → Nat) (RV : Nat → Value) (B n cap g : Nat) (t : List (Int × Int)) (w wr : World) (ht : Ahead t) (hnt : n ≤ t.length) (hn1 : 1 ≤ n) (hn7 : n ≤ 7) (hcap : n ≤ cap) (hlk : LkN w B n P RV t) (hs : SRow w wr P g n cap (List.range n)) :
    Calls Try.prog 89 #[.slice (some ⟨g, 0, none⟩) n cap, .func (.func 82) #[] #[]] wr fun e w' => e = .returned (.tuple #[]) ∧
      ∃ ord, SortO t n n ord ∧ SRow w w' P g n cap ord := by
  have HI := Lib.hid (stable_any P RV B n cap g t w wr ht hnt hn1 hn7 hcap hlk hs)
  clear hlk hs
  go_enter Try.func89, Try.ntmps89
  go_wp2_with fail
  refine HI.out.mono ?_
  rintro e w' ⟨rfl, ord, hO, hS⟩
  have HO := Lib.hid hO
  have HS := Lib.hid hS
  clear hO hS
  go_wp2
  go_end0
  exact ⟨rfl, ord, HO.out, HS.out⟩

set_option maxHeartbeats 800000 in
theorem collect_any (Bs b len cap : Nat) (P : Nat → Nat) (hl7 : len ≤ 7) (w : World) (hBs : Bs < w.heap.size) (hb : b < w.heap.size)
    (hc : w.cell? ⟨Bs, 0, none⟩ = some (.slice (some ⟨b, 0, none⟩) len cap)) (hI : ∀ j, j < len → w.cell? ⟨b, j, none⟩ = some (.pointer (some ⟨P j, 0, none⟩))) :
    Calls Try.prog 88 #[.func (.func 90) #[] #[.pointer (some ⟨Bs, 0, none⟩)]] w fun e W' => ∃ v, e = .returned v ∧
      W'.ownsRow w.heap.size 62 1 v len (ptrsO P (List.range len)) ∧ Below w.heap.size w W' := by
  have HA := Lib.hid (callsIn_wide.1 (appendSeq_in Fence.wide 3 trivial trivial rfl (by decide) Bs b len cap P hl7 w hBs hb hc hI))
  clear hc hI
  go_enter Try.func88, Try.ntmps88
  go_wp2_with fail
  refine HA.out.mono ?_
  rintro e w' ⟨v, rfl, hO, hB⟩
  have HO := Lib.hid hO
  have HB := Lib.hid hB
  clear hO hB
  go_wp2
  go_ret
  exact ⟨v, rfl, HO.out, HB.out⟩

set_option maxHeartbeats 800000 in
/-- slices.SortedStableFunc over the iterator. -/
theorem sortedStable_any (P : Nat → Nat) (RV : Nat → Value) (B n cap Bs b : Nat) (t : List (Int × Int)) (w w1 : World) (ht : Ahead t) (hnt : n ≤ t.length) (hn1 : 1 ≤ n) (hn7 : n ≤ 7) (hlk : LkN w B n P RV t) (hbel : Below w.heap.size w w1)
    (hBs : Bs < w1.heap.size) (hb : b < w1.heap.size)
    (hc : w1.cell? ⟨Bs, 0, none⟩ = some (.slice (some ⟨b, 0, none⟩) n cap)) (hI : ∀ j, j < n → w1.cell? ⟨b, j, none⟩ = some (.pointer (some ⟨P j, 0, none⟩))) :
    Calls Try.prog 80 #[.func (.func 90) #[] #[.pointer (some ⟨Bs, 0, none⟩)], .func (.func 82) #[] #[]] w1 fun e w' =>
      ∃ g cap ord, e = .returned (.slice (some ⟨g, 0, none⟩) n cap) ∧ n ≤ cap ∧ SortO t n n ord ∧ SRow w w' P g n cap ord := by
  have HA := Lib.hid (collect_any Bs b n cap P hn7 w1 hBs hb hc hI)
  have Hlk := Lib.hid hlk
  have Hbel := Lib.hid hbel
  clear hc hI hlk hbel
  go_enter Try.func80, Try.ntmps80
  go_wp2_with fail
  refine HA.out.mono ?_
  rintro e w2 ⟨v, rfl, hO, hB⟩
  obtain ⟨A, cA, rfl, hcA, -, hg⟩ := own_sliceN hO
  obtain ⟨g, rfl, hg1, hg2⟩ := hg (by omega)
  have hO' := hO.mono Hbel.out.size
  have hS : SRow w w2 P g n cA (List.range n) := ⟨hO', Hbel.out.trans (hB.mono Hbel.out.size), Nat.le_trans Hbel.out.size hg1⟩
  have HI := Lib.hid (sortStable_any P RV B n cA g t w w2 ht hnt hn1 hn7 hcA Hlk.out hS)
  clear hO hB hO' hS
  go_wp2_with fail
  refine HI.out.mono ?_
  rintro e w' ⟨rfl, ord, hO, hS⟩
  have HO := Lib.hid hO
  have HS := Lib.hid hS
  clear hO hS
  go_wp2
  go_ret
  exact ⟨g, cA, ord, rfl, hcA, HO.out, HS.out⟩

set_option maxHeartbeats 800000 in
theorem deepest_any (P : Nat → Nat) (RV : Nat → Value) (B n cap b : Nat) (t : List (Int × Int)) (w : World) (ht : Ahead t) (hnt : n ≤ t.length) (hn1 : 1 ≤ n) (hn7 : n ≤ 7) (hlk : LkN w B n P RV t) (hb : b < w.heap.size)
    (hI : ∀ j, j < n → w.cell? ⟨b, j, none⟩ = some (.pointer (some ⟨P j, 0, none⟩))) :
    Calls Try.prog 70 #[.slice (some ⟨b, 0, none⟩) n cap] w fun e w' =>
      ∃ g cap ord, e = .returned (.slice (some ⟨g, 0, none⟩) n cap) ∧ n ≤ cap ∧ SortO t n n ord ∧ SRow w w' P g n cap ord := by
  have HV := Lib.hid (values_any (some ⟨b, 0, none⟩) n cap w)
  have Hbel := Lib.hid ((Below.refl w.heap.size w).alloc (Nat.le_refl _) (.cells #[.slice (some ⟨b, 0, none⟩) n cap] 63))
  have HS := Lib.hid (sortedStable_any P RV B n cap w.heap.size b t w (w.alloc (.cells #[.slice (some ⟨b, 0, none⟩) n cap] 63)) ht hnt hn1 hn7 hlk Hbel.out (by rw [size_alloc1]; omega) (by rw [size_alloc1]; omega)
    (by rw [cell_of_row _ _ _ _ _ _ (heap_alloc_new w _)]; rfl) (fun j hj => (Hbel.out.cell (p := ⟨b, j, none⟩) hb).trans (hI j hj)))
  clear hlk hI
  go_enter Try.func70, Try.ntmps70
  go_wp2_with fail
  refine HV.out.mono ?_
  rintro e w1 ⟨rfl, rfl⟩
  go_wp2_with fail
  refine HS.out.mono ?_
  rintro e w2 ⟨g, cA, ord, rfl, hcA, hO, hS⟩
  have HO := Lib.hid hO
  have HS2 := Lib.hid hS
  clear hO hS
  go_wp2
  go_ret
  exact ⟨g, cA, ord, rfl, hcA, HO.out, HS2.out⟩
end Go.Proofs.Ytggpdlcompokoaa
