/-
  Rows of ints marked, and the marks read again.
  Conditions: none beyond what each theorem states.
-/
import Derived.Test.YthphboeboiallaaUG
import Derived.Test.YthphboeboiallaaE0
import Derived.Deep.Quiet
namespace Go.Proofs.Ythphboeboiallaa
open Go.ChangeShapes Go.WideShapes Go.ChangeAt Go.RowKit
set_option linter.unusedVariables false
set_option maxRecDepth 4000

/-- The numbers from k on. -/
def mk (k : Int) (n : Nat) : List Int := (List.range n).map fun (i : Nat) => k + (i : Int)
theorem mk_len (k : Int) (n : Nat) : (mk k n).length = n := by simp [mk]
theorem mk_get {k : Int} {n i : Nat} (h : i < n) : (mk k n).getD i 0 = k + i := by simp [mk, List.getD, h]
/-- The first k elements are marks, the others as they were. -/
def mkL (k : Int) (zs : List Int) (m : Nat) : List Value := ((mk k m) ++ zs.drop m).map (Value.int .i64)
theorem mkL_step {w : World} {B b n cap m : Nat} {t : TypeId} {k : Int} {zs : List Int} (hm : m < zs.length) (hown : w.ownsRow B t 1 (.slice (some ⟨b, 0, none⟩) n cap) n (mkL k zs m)) :
    (w.setCell ⟨b, m, none⟩ (Value.int .i64 (k + m))).ownsRow B t 1 (.slice (some ⟨b, 0, none⟩) n cap) n (mkL k zs (m + 1)) := by
  have h := (hown.stored m (Value.int .i64 (k + m))).1
  have e : (mkL k zs m).set m (Value.int .i64 (k + m)) = mkL k zs (m + 1) := by
    unfold mkL
    rw [← List.map_set]
    congr 1
    apply List.ext_getElem?
    intro i
    rw [List.getElem?_set]
    by_cases e : m = i
    · subst e
      rw [if_pos rfl, if_pos (by simp [mk_len]; omega), List.getElem?_append_left (by simp [mk_len])]
      simp [mk]
    · rw [if_neg e]
      by_cases hi : i < m
      · rw [List.getElem?_append_left (by simp [mk_len, hi]), List.getElem?_append_left (by simp [mk_len]; omega)]
        simp [mk, hi, show i < m + 1 by omega]
      · rw [List.getElem?_append_right (by simp [mk_len]; omega), List.getElem?_append_right (by simp [mk_len]; omega)]
        simp only [mk_len, List.getElem?_drop]
        congr 1; omega
  rw [e] at h
  exact h
def MarkPost (B g n cap : Nat) (k : Int) (w : World) (e : Ending) (w' : World) : Prop :=
  e = .returned (.int .i64 (k + n)) ∧ w'.ownsRow B 3 1 (.slice (some ⟨g, 0, none⟩) n cap) n ((mk k n).map (Value.int .i64)) ∧ w.grownBy w' (some g)
set_option maxHeartbeats 800000 in
theorem markI_any (w : World) (B g n cap : Nat) (k : Int) (zs : List Int) (hown : w.ownsRow B 3 1 (.slice (some ⟨g, 0, none⟩) n cap) n (zs.map (Value.int .i64))) (hn : zs.length = n) (hn7 : n ≤ 1048576) (hk0 : 0 ≤ k) (hk : k ≤ 100000000) :
    Calls Try.prog 39 #[.slice (some ⟨g, 0, none⟩) n cap, .int .i64 k] w (MarkPost B g n cap k w) := by
  have Hn := Lib.hid hn
  have Hown := Lib.hid hown
  clear hn hown
  go_enter Try.func39, Try.ntmps39
  go_wp2
  go_loopw [1, 5] (fun a i wr => ∃ m : Nat, m ≤ n ∧ i = .int .i64 m ∧ a = .int .i64 (k + m) ∧ wr.ownsRow B 3 1 (.slice (some ⟨g, 0, none⟩) n cap) n (mkL k zs m) ∧ w.grownBy wr (some g)) (fun _ i _ => n - (intOf i).toNat)
  case atStart => exact ⟨0, by omega, rfl, by simp, by simpa [mkL, mk] using Hown.out, ⟨rfl, rfl, rfl, Nat.le_refl _, fun _ _ _ => rfl⟩⟩
  case round =>
    obtain ⟨m, hm, rfl, rfl, hown, hg⟩ := hrel
    by_cases hlt : m < n
    · have hst := mkL_step (by rw [Hn.out]; exact hlt) hown
      obtain ⟨v, hv⟩ := own_cell hown (j := m) (by omega) (by unfold mkL; simp [mk_len, Hn.out]; omega)
      have hf := hown.frozenAt m
      have hgs := (hown.stored m (.int .i64 (k + m))).2
      have HST := Lib.hid hst
      have HG := Lib.hid (gb_trans hg hgs (.inl rfl))
      clear hst hgs hown hg
      go_wp2
      go_roundw
      case rel => exact ⟨m + 1, by omega, by go_num, by congr 1; omega, HST.out, HG.out⟩
      case measure => simp [intOf]; omega
    · have hmn : m = n := by omega
      subst hmn
      have HO := Lib.hid hown
      clear hown
      go_wp2
      go_ret
      refine ⟨rfl, ?_, hg⟩
      have := HO.out
      unfold mkL at this
      rw [List.drop_of_length_le (by rw [Hn.out]; omega), List.append_nil] at this
      exact this
set_option maxHeartbeats 800000 in
theorem heldI_any (w : World) (B n c : Nat) (k : Int) (A : Option Addr) (hr : RdI w B A (mk k n)) (hn7 : n ≤ 1048576) (hk0 : 0 ≤ k) (hk : k ≤ 100000000) :
    Calls Try.prog 40 #[.slice A n c, .int .i64 k] w fun e w' => e = .returned (.int .i64 (k + n)) ∧ w = w' := by
  go_enter Try.func40, Try.ntmps40
  go_wp2
  go_loop [1, 5] (fun a i => ∃ m : Nat, m ≤ n ∧ i = .int .i64 m ∧ a = .int .i64 (k + m)) (fun _ i => n - (intOf i).toNat)
  case atStart => exact ⟨0, by omega, rfl, by simp⟩
  case round =>
    obtain ⟨m, hm, rfl, rfl⟩ := hrel
    by_cases hlt : m < n
    · obtain ⟨b, off, x, rfl, -, Hx, hcx⟩ := hr.x (k := m) (by rw [mk_len]; exact hlt)
      have hx := Hx.out
      rw [mk_get hlt] at hx
      subst hx
      have hb1 : (k + (m : Int) != k + (m : Int)) = false := by simp
      go_wp2
      go_round
      case rel => exact ⟨m + 1, by omega, by go_num, by congr 1; omega⟩
      case measure => simp [intOf]; omega
    · have hmn : m = n := by omega
      subst hmn
      go_wp2
      go_ret
      exact ⟨rfl, rfl⟩
end Go.Proofs.Ythphboeboiallaa
