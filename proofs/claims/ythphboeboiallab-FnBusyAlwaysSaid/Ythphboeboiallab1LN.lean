/-
  What the laws of MeanReached share: homes, spots and a chance in memory; fractions compared.
  Conditions: none beyond what each theorem states.
-/
import Derived.Test.Ythphboeboiallab1LM
import Derived.Test.Ythphboeboiallab1MC
import Derived.Laws.StructEq
namespace Go.Proofs.Ythphboeboiallab
open Go.ChangeShapes Go.WideShapes Go.ChangeAt Go.RowKit
set_option linter.unusedVariables false
set_option maxRecDepth 4000

theorem eqlU_same (x y : Int) (w : World) : (binOp .eql 30 (.agg #[.int .i64 x, .int .i64 y]) (.agg #[.int .i64 x, .int .i64 y])).run Try.prog w = .ok (.bool true) w := by
  rw [run_eql_struct]
  simp [go_sem]
theorem neqU_same (x y : Int) (w : World) : (binOp .neq 30 (.agg #[.int .i64 x, .int .i64 y]) (.agg #[.int .i64 x, .int .i64 y])).run Try.prog w = .ok (.bool false) w := by
  rw [run_neq_struct]
  simp [go_sem]
/-- Homes, spots and a chance, as they lie in memory. -/
structure MAt (w : World) (pb : Nat) (u d : Int) (A : Option Addr) (c n : Nat) (zs : List Int) (A' : Option Addr) (c' m : Nat) (ss : List Int) (W : World) : Prop where
  lat : LAt w pb u d A c n zs W
  sp : PIn W A' c' m ss
  pt : PartQ W A' m c' ss
theorem MAt.later {w : World} {pb : Nat} {u d : Int} {A : Option Addr} {c n : Nat} {zs : List Int} {A' : Option Addr} {c' m : Nat} {ss : List Int} {W W' : World} (h : MAt w pb u d A c n zs A' c' m ss W) (hb : Below W.heap.size W W') : MAt w pb u d A c n zs A' c' m ss W' :=
  ⟨h.lat.later hb, h.sp.later hb, h.pt.later hb⟩
theorem OwnQ.partU {w : World} {B g c L : Nat} {xs : List Int} (h : OwnQ w B g c L xs) : PartQ w (some ⟨g, 0, none⟩) L c xs := by
  obtain ⟨A', c', e', hp⟩ := part_own h.2 h.1
  injection e' with e1 _ e3
  subst e1 e3
  exact hp
theorem PartQ.headU {w : World} {b : Nat} {c m k : Nat} {zs : List Int} (h : PartQ w (some ⟨b, 0, none⟩) m c zs) (hk : k ≤ m) : PartQ w (some ⟨b, 0, none⟩) k c (zs.take k) := by
  refine ⟨fun hp => ?_, by rw [List.length_take, h.len]; omega, (fun e => by cases e), fun a ha => ⟨b, 0, by injection ha with ha; exact ha.symm⟩⟩
  have hp2 : 0 < zs.length := by rw [List.length_take] at hp; omega
  obtain ⟨b', off, e, hb, hc⟩ := h.rd hp2
  refine ⟨b', off, e, hb, fun i hi => ?_⟩
  rw [List.length_take] at hi
  rw [hc i (by omega)]
  congr 2
  simp only [List.getD, List.getElem?_take]
  rw [if_pos (by omega)]
theorem okM_some {zs ss : List Int} {far u d : Int} (h : okM zs ss far u d = true) : ∃ U D : Nat, u = U ∧ d = D ∧ vh zs = true ∧ vh ss = true ∧ ss.length ≤ 4 ∧ 0 ≤ far ∧ far ≤ 50 ∧ U ≤ D ∧ 1 ≤ D ∧ D ≤ 10 := by
  obtain ⟨h1, U, D, rfl, rfl, h2, h3, h4⟩ := okM_get h
  obtain ⟨a1, a2, a3, a4, a5⟩ := vbB_get h1
  exact ⟨U, D, rfl, rfl, a1, a2, a3, a4, a5, h2, h3, h4⟩
end Go.Proofs.Ythphboeboiallab
