/-
  Slices of slices of ints in the exact laws: as the frame hands them over, how much there may be, their copy, their comparison.
  Conditions: fewer than 2^20 rows, each shorter than 2^20.
-/
import Derived.Test.YtakljcpneghgnaaUG
import Derived.Test.YtakljcpneghgnaaUT
import Derived.Test.YtakljcpneghgnaaV5
import Derived.Deep.Matrix
namespace Go.Proofs.Ytakljcpneghgnaa
open Go.ChangeShapes Go.WideShapes Go.ChangeAt Go.RowKit Go.Deep
set_option linter.unusedVariables false
set_option maxRecDepth 4000

theorem RdV.nil (w : World) (B : Nat) (A : Option Addr) : RdV w B A [] := fun h => absurd h (by simp)
theorem addr_addV {b off k : Nat} : (⟨b, off, none⟩ : Addr).add k = ⟨b, off + k, none⟩ := by unfold Addr.add; split <;> simp_all
theorem open_rowsV {H : Type} {enc : TypeId × Value → H} {w : World} {base : Nat} {held : Bool} {fuel : Nat} {a : Option Addr} {len cap : Nat} {x : DataW H × List MemPlace}
    (h : DataW.trod enc Try.prog w base (fun _ => true) held fuel 24 (Value.slice a len cap).cells.toList = some x) : ∃ L, RdV w w.heap.size a L ∧ L.length = len ∧ L.length ≤ maxLen := by
  rcases open_int_rows Try.underlying24 Try.underlying23 Try.underlying3 (by kernel_rfl) (by kernel_rfl) h with ⟨hcs, _⟩ | ⟨x, l, c, A, L, C, Z, hcs, _, hl, hm, _, hall⟩
  · simp [Value.cells] at hcs
    obtain ⟨rfl, rfl, rfl⟩ := hcs
    exact ⟨[], RdV.nil _ _ _, rfl, by simp⟩
  · simp [Value.cells] at hcs
    obtain ⟨rfl, rfl, rfl⟩ := hcs
    refine ⟨(List.range len).map fun r => (Z r).take (L r), ?_, by simp, by simp; omega⟩
    intro hp
    rw [List.length_map, List.length_range] at hp
    obtain ⟨c0, -⟩ := hall 0 (by omega)
    obtain ⟨b, off, spot⟩ := x
    have hspot : spot = none := by simpa [Addr.add] using World.cell?_spot c0
    subst hspot
    refine ⟨b, off, rfl, World.block_lt_of_cell? w _ (by simpa [Addr.add] using c0), fun i hi => ?_⟩
    rw [List.length_map, List.length_range] at hi
    obtain ⟨e0, e1, e2, e3, e4, e5, e6⟩ := hall i (by omega)
    have hg : ((List.range len).map fun r => (Z r).take (L r)).getD i [] = (Z i).take (L i) := by simp [List.getD, hi]
    have hlen : ((Z i).take (L i)).length = L i := by rw [List.length_take]; omega
    rw [hg, hlen]
    rw [addr_addV] at e0
    refine ⟨A i, C i, e0, e1, by unfold maxLen at e2; omega, ?_⟩
    cases hA : A i with
    | none =>
      have : (Z i).take (L i) = [] := by have := e5 hA; apply List.eq_nil_of_length_eq_zero; omega
      rw [this]; exact RdI.nil _ _ _
    | some a' =>
      obtain ⟨h1, h2⟩ := e6 a' hA
      exact (rdI_row e1 e3 (fun i hi => h2 i (by omega)) e4).1

theorem szI_any (A : Option Addr) (c n : Nat) (left : Int) (w : World) (hn : n ≤ 9223372036854775807) (hl : 0 ≤ left ∧ left ≤ 1048576) :
    Calls Try.prog 67 #[.slice A n c, .int .i64 left] w fun e w' => e = .returned (.int .i64 (if left < n then -1 else left - n)) ∧ w = w' := by
  by_cases h : left < n
  · have h' : left - n < 0 := by omega
    rw [if_pos h]
    go_enter Try.func67, Try.ntmps67
    go_wp2
    go_ret
    exact ⟨rfl, rfl⟩
  · have h' : ¬ left - n < 0 := by omega
    rw [if_neg h]
    go_enter Try.func67, Try.ntmps67
    go_wp2
    go_ret
    exact ⟨rfl, rfl⟩
theorem szI_neg (A : Option Addr) (c n : Nat) (left : Int) (w : World) (hn : n ≤ 9223372036854775807) (hl : 0 ≤ left ∧ left ≤ 1048576) (h : left < n) :
    Calls Try.prog 67 #[.slice A n c, .int .i64 left] w fun e w' => e = .returned (.int .i64 (-1)) ∧ w = w' :=
  (szI_any A c n left w hn hl).mono fun _ _ ⟨he, hw⟩ => ⟨by rw [he, if_pos h], hw⟩
theorem szI_pos (A : Option Addr) (c n : Nat) (left : Int) (w : World) (hn : n ≤ 9223372036854775807) (hl : 0 ≤ left ∧ left ≤ 1048576) (h : ¬ left < n) :
    Calls Try.prog 67 #[.slice A n c, .int .i64 left] w fun e w' => e = .returned (.int .i64 (left - n)) ∧ w = w' :=
  (szI_any A c n left w hn hl).mono fun _ _ ⟨he, hw⟩ => ⟨by rw [he, if_neg h], hw⟩

/-- Rows few and short enough for the exact laws. -/
def Small (L : List (List Int)) : Prop := L.length ≤ 1048576 ∧ ∀ i, i < L.length → (L.getD i []).length ≤ 1048576
set_option maxHeartbeats 800000 in
theorem szV_any (A : Option Addr) (c n : Nat) (L : List (List Int)) (w : World) (hr : RdV w w.heap.size A L) (hn : L.length = n) (hb : n ≤ 9223372036854775807) :
    Calls Try.prog 37 #[.slice A n c, .int .i64 1048576] w fun e w' => ∃ q : Int, e = .returned (.int .i64 q) ∧ w = w' ∧ (0 ≤ q → Small L) := by
  by_cases h0 : (1048576 : Int) < n
  · have h' : (1048576 : Int) - n < 0 := by omega
    have Hq : Hid (∀ q : Int, q = -1 → 0 ≤ q → Small L) := fun q e h => by omega
    clear hr hn
    go_enter Try.func37, Try.ntmps37
    go_wp2
    go_ret
    exact ⟨-1, rfl, rfl, Hq.out _ rfl⟩
  · have h' : ¬ (1048576 : Int) - n < 0 := by omega
    have Hr := Lib.hid hr
    have Hn := Lib.hid hn
    have Hq : Hid (∀ q : Int, q = -1 → 0 ≤ q → Small L) := fun q e h => by omega
    clear hr hn
    go_enter Try.func37, Try.ntmps37
    go_wp2
    go_loopw [1, 5] (fun l i wr => ∃ k : Nat, ∃ left : Int, k ≤ n ∧ i = .int .i64 k ∧ l = .int .i64 left ∧ 0 ≤ left ∧ left ≤ 1048576 ∧ wr = w ∧ Hid (∀ i, i < k → (L.getD i []).length ≤ 1048576)) (fun _ i _ => n - (intOf i).toNat)
    case atStart => exact ⟨0, _, Nat.zero_le _, rfl, rfl, by omega, by omega, rfl, fun i hi => by omega⟩
    case round =>
      obtain ⟨k, left, hk, rfl, rfl, hl0, hl1, rfl, HK⟩ := hrel
      by_cases hlt : k < n
      · obtain ⟨b, off, a, ca, ls, rfl, hbw, Hl, hcl, hca, hcm, hrl⟩ := Hr.out.x (k := k) (by rw [Hn.out]; exact hlt)
        obtain ⟨t, Ht⟩ : ∃ t, Hid (ls.length = t) := ⟨_, rfl⟩
        rw [Ht.out] at hcl hca
        by_cases hs : left < t
        · have Hc := Lib.hid (fun w => szI_neg a ca t left w (by omega) ⟨hl0, hl1⟩ hs)
          clear hrl
          go_wp2_with fail
          refine (Hc.out _).mono ?_
          rintro e w' ⟨rfl, rfl⟩
          go_wp2
          go_ret
          exact ⟨-1, rfl, rfl, Hq.out _ rfl⟩
        · have Hc := Lib.hid (fun w => szI_pos a ca t left w (by omega) ⟨hl0, hl1⟩ hs)
          have HK2 : Hid (∀ i, i < k + 1 → (L.getD i []).length ≤ 1048576) := fun i hi => by
            by_cases e : i = k
            · rw [e, Hl.out, Ht.out]; omega
            · exact HK.out i (by omega)
          have hs2 : ¬ left - t < 0 := by omega
          obtain ⟨l2, hl2⟩ : ∃ l2 : Int, left - t = l2 := ⟨_, rfl⟩
          rw [hl2] at Hc hs2
          have hb2 : 0 ≤ l2 ∧ l2 ≤ 1048576 := by omega
          clear hrl hl2 hs
          go_wp2_with fail
          refine (Hc.out _).mono ?_
          rintro e w' ⟨rfl, rfl⟩
          go_wp2
          go_roundw
          case rel => exact ⟨k + 1, l2, by omega, by go_num, rfl, by omega, by omega, by trivial, HK2⟩
          case measure => simp [intOf]; omega
      · have Hs : Hid (Small L) := ⟨by rw [Hn.out]; omega, fun i hi => HK.out i (by rw [Hn.out] at hi; omega)⟩
        go_wp2
        go_ret
        exact ⟨left, rfl, rfl, fun _ => Hs.out⟩
end Go.Proofs.Ytakljcpneghgnaa
