/-
  A row of the call's own, nil or not, marked.
  Conditions: none beyond what each theorem states.
-/
import Derived.Test.YthphboeboiallaaHK
namespace Go.Proofs.Ythphboeboiallaa
open Go.ChangeShapes Go.WideShapes Go.ChangeAt Go.RowKit
set_option linter.unusedVariables false
set_option maxRecDepth 4000

/-- A row of the call's own, nil or not, marked. -/
def MarkRow (B n c : Nat) (A : Option Addr) (w : World) (e : Ending) (w' : World) : Prop :=
  e = .returned (.int .i64 (1 + (n : Nat))) ∧ w'.ownsRow B 3 1 (.slice A n c) n ((mk 1 n).map (Value.int .i64)) ∧ Below B w w'
theorem markRow_any (w : World) (B n c : Nat) (A : Option Addr) (zs : List Int) (hown : w.ownsRow B 3 1 (.slice A n c) n (zs.map (Value.int .i64))) (hn : zs.length = n) (hn7 : n ≤ 1048576) (hB : B ≤ w.heap.size) :
    Calls Try.prog 39 #[.slice A n c, .int .i64 1] w (MarkRow B n c A w) := by
  have h0 := hown
  rcases hown.2 with ⟨he, hx⟩ | ⟨g, cap, cur, he, hg1, hg2, _⟩
  · injection he with h1 h2 h3
    subst h1 h2 h3
    clear h0 hown
    go_enter Try.func39, Try.ntmps39
    go_wp2
    go_loopw [1, 5] (fun a i wr => i = .int .i64 0 ∧ a = .int .i64 1 ∧ wr = w) (fun _ i _ => 0)
    case atStart => exact ⟨rfl, rfl, rfl⟩
    case round =>
      obtain ⟨rfl, rfl, rfl⟩ := hrel
      go_wp2
      go_ret
      exact ⟨rfl, World.ownsRow_nil _ _ _ _, Below.refl _ _⟩
  · injection he with h1 h2 h3
    subst h1 h3
    refine (markI_any w B g n c 1 zs h0 hn hn7 (by omega) (by omega)).mono ?_
    rintro e w' ⟨rfl, ho, hgr⟩
    exact ⟨rfl, ho, (Below.refl _ _).grown hgr hB (fun k hk => by injection hk with hk; omega)⟩

end Go.Proofs.Ythphboeboiallaa
