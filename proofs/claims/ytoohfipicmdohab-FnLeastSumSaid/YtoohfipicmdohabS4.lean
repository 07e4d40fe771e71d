/-
  Lists of lists of ints in memory; all choices of so many numbers, as a list.
  Conditions: none beyond what each theorem states.
-/
import Derived.Test.YtoohfipicmdohabU2
import Derived.Test.YtoohfipicmdohabE0
import Derived.Test.YtoohfipicmdohabLL
import Derived.Deep.AppendLies
import Derived.Maps.AppendAt
namespace Go.Proofs.Ytoohfipicmdohab
open Go.ChangeShapes Go.WideShapes Go.ChangeAt Go.RowKit
set_option linter.unusedVariables false

def chs (prev : Nat → List (List Int)) (tu : Nat) : Nat → List (List Int)
  | 0 => []
  | d + 1 => (prev d).map (fun l => ((tu - (d + 1) : Nat) : Int) :: l) ++ chs prev tu d
def chd (tu : Nat) : Nat → Nat → List (List Int)
  | 0 => fun _ => [[]]
  | k + 1 => chs (chd tu k) tu
theorem chd_len_all : ∀ tu : Fin 8, ∀ k : Fin 5, ∀ d : Fin 8, (chd tu.val k.val d.val).length ≤ 128 := by decide +kernel
theorem chd_len {tu k d : Nat} (h1 : tu ≤ 7) (h2 : k ≤ 4) (h3 : d ≤ 7) : (chd tu k d).length ≤ 128 := chd_len_all ⟨tu, by omega⟩ ⟨k, by omega⟩ ⟨d, by omega⟩
theorem chd_each : ∀ (k tu d : Nat), ∀ l ∈ chd tu k d, l.length = k
  | 0, tu, d, l, h => by simp [chd] at h; subst h; rfl
  | k + 1, tu, d, l, h => by
    have hrec : ∀ d, ∀ l ∈ chs (chd tu k) tu d, l.length = k + 1 := by
      intro d
      induction d with
      | zero => intro l h; simp [chs] at h
      | succ d ih =>
        intro l h
        simp only [chs, List.mem_append, List.mem_map] at h
        rcases h with ⟨l', h1, rfl⟩ | h
        · simp [chd_each k tu d l' h1]
        · exact ih l h
    exact hrec d l h
end Go.Proofs.Ytoohfipicmdohab
