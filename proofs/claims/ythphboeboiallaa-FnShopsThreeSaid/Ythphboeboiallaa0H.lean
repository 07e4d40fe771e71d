/-
  The set of houses of the program: made, asked, taken from; the shops that are just so far from a house.
  Conditions: at most nine houses and four shops.
-/
import Derived.Test.Ythphboeboiallaa0V
import Derived.Test.Ythphboeboiallaa0C
import Derived.Deep.AppendLies
import Derived.Maps.RangeWalk
import Derived.Maps.Views
import Derived.Maps.OwnOps
import Derived.Maps.OwnSet
namespace Go.Proofs.Ythphboeboiallaa
open Go.ChangeShapes Go.WideShapes Go.ChangeAt Go.RowKit Go.Maps
set_option linter.unusedVariables false
set_option maxRecDepth 4000

theorem kQ : Keyed Try.prog 3 := int_keyed Try.underlying3
theorem wfQ {x : Nat} (h : x ≤ 1000) : (Lit.int .i64 (x : Int)).wf = true := WalkArith.wf_i64 (by omega)
theorem keyQ {x : Nat} (h : x ≤ 1000) : keyOf Try.prog 3 (.int .i64 (x : Int)) = some (.int .i64 (x : Int)) := keyOf_int_mk Try.underlying3 (wfQ h)
/-- How many there are. -/
def cntQ (s : Nat → Bool) (n : Nat) : Nat := (List.range n).countP s
theorem cntQ_succ (s : Nat → Bool) (n : Nat) : cntQ s (n + 1) = cntQ s n + if s n = true then 1 else 0 := by
  unfold cntQ; rw [List.range_succ, List.countP_append]; simp [List.countP_cons]
def setQ (s : Nat → Bool) (h : Nat) (b : Bool) : Nat → Bool := fun x => if x = h then b else s x
theorem cntQ_set_out {s : Nat → Bool} {h : Nat} {b : Bool} : ∀ {n : Nat}, n ≤ h → cntQ (setQ s h b) n = cntQ s n
  | 0, _ => rfl
  | n + 1, hn => by rw [cntQ_succ, cntQ_succ, cntQ_set_out (n := n) (by omega)]; simp [setQ, show n ≠ h by omega]
theorem cntQ_set {s : Nat → Bool} {h : Nat} {b : Bool} : ∀ {n : Nat}, h < n → cntQ (setQ s h b) n + (if s h = true then 1 else 0) = cntQ s n + if b = true then 1 else 0
  | n + 1, hn => by
    rw [cntQ_succ, cntQ_succ]
    by_cases e : h = n
    · subst e
      rw [cntQ_set_out (Nat.le_refl _)]
      simp only [setQ, if_true]; omega
    · have ih := cntQ_set (s := s) (b := b) (h := h) (n := n) (by omega)
      simp only [setQ, show n ≠ h from fun h' => e h'.symm, if_false]
      have : setQ s h b = fun x => if x = h then b else s x := rfl
      rw [← this] at *
      omega
theorem cntQ_none {s : Nat → Bool} : ∀ {n : Nat}, cntQ s n = 0 → ∀ x, x < n → s x = false
  | n + 1, h, x, hx => by
    rw [cntQ_succ] at h
    by_cases e : x = n
    · subst e
      cases hs : s x with
      | false => rfl
      | true => rw [hs] at h; simp at h
    · exact cntQ_none (n := n) (by omega) x (by omega)
theorem cntQ_all_no {s : Nat → Bool} : ∀ {n : Nat}, (∀ x, x < n → s x = false) → cntQ s n = 0
  | 0, _ => rfl
  | n + 1, h => by rw [cntQ_succ, cntQ_all_no (n := n) fun x hx => h x (by omega), h n (by omega)]; rfl
/-- The map reads as a set of houses. -/
def SetQ (w : World) (mb cnt n : Nat) (s : Nat → Bool) : Prop :=
  ∃ D : DataW Unit, w.ownsMap Try.prog 3 (plainElem Try.prog 4) mb cnt D ∧ (∀ x, x < n → D.atKey (.int .i64 (x : Int)) (.lit (.bool false)) = .lit (.bool (s x)) ∧ has D (.int .i64 (x : Int)) = s x) ∧ Maps.size D = cntQ s n
theorem SetQ.lt {w : World} {mb cnt n : Nat} {s : Nat → Bool} (h : SetQ w mb cnt n s) : mb < w.heap.size := by obtain ⟨D, hD, -⟩ := h; exact hD.lt
theorem SetQ.below {w w' : World} {mb cnt n : Nat} {s : Nat → Bool} (h : SetQ w mb cnt n s) (hb : Below w.heap.size w w') : SetQ w' mb cnt n s := by
  obtain ⟨D, ⟨es, clock, hbk, hr⟩, r⟩ := h
  refine ⟨D, ⟨es, clock, ?_, hr⟩, r⟩
  rw [hb.block mb (World.ownsMap.lt ⟨es, clock, hbk, hr⟩)]; exact hbk
theorem SetQ.setCell {w : World} {mb cnt n : Nat} {s : Nat → Bool} (h : SetQ w mb cnt n s) {a : Addr} (ha : mb ≠ a.block) (u : Value) : SetQ (w.setCell a u) mb cnt n s := by
  obtain ⟨D, hD, r⟩ := h
  exact ⟨D, hD.setCell ha u, r⟩
theorem SetQ.congr {w : World} {mb cnt n : Nat} {s s' : Nat → Bool} (h : SetQ w mb cnt n s) (e : ∀ x, x < n → s x = s' x) : SetQ w mb cnt n s' := by
  obtain ⟨D, hD, r, hz⟩ := h
  refine ⟨D, hD, fun x hx => by rw [← e x hx]; exact r x hx, ?_⟩
  rw [hz]
  unfold cntQ
  exact List.countP_congr fun x hx => by rw [e x (List.mem_range.1 hx)]
theorem intQ_inj {x y : Nat} (h : (Lit.int .i64 (x : Int)) = .int .i64 (y : Int)) : x = y := by injection h with _ h; omega
theorem setQ_put {w' : World} {mb cnt n h : Nat} {s : Nat → Bool} {D : DataW Unit} (hT : Tidy D) (hat : ∀ x, x < n → D.atKey (.int .i64 (x : Int)) (.lit (.bool false)) = .lit (.bool (s x)) ∧ has D (.int .i64 (x : Int)) = s x) (hz : Maps.size D = cntQ s n) (hh : h < n) (hs : s h = false)
    (hown : w'.ownsMap Try.prog 3 (plainElem Try.prog 4) mb (cnt + 1) (D.put (.int .i64 (h : Int)) (.lit (.bool true)))) : SetQ w' mb (cnt + 1) n (setQ s h true) := by
  refine ⟨_, hown, fun x hx => ?_, ?_⟩
  · by_cases e : x = h
    · subst e
      exact ⟨by rw [atKey_put_same hT.isMap (show WideAt.IsKeyLit (.int .i64 (x : Int)) from trivial)]; simp [setQ], by rw [has_put_same hT.isMap (show WideAt.IsKeyLit (.int .i64 (x : Int)) from trivial)]; simp [setQ]⟩
    · rw [atKey_put_other (fun he => e (intQ_inj he)), has_put_other (fun he => e (intQ_inj he))]
      simp only [setQ, e, if_false]
      exact hat x hx
  · rw [size_put hT, (hat h hh).2, hs, hz]
    have := cntQ_set (s := s) (b := true) hh
    rw [hs] at this
    simp at this ⊢
    omega
theorem setQ_del {w' : World} {mb cnt n h : Nat} {s : Nat → Bool} {D : DataW Unit} (hT : Tidy D) (hat : ∀ x, x < n → D.atKey (.int .i64 (x : Int)) (.lit (.bool false)) = .lit (.bool (s x)) ∧ has D (.int .i64 (x : Int)) = s x) (hz : Maps.size D = cntQ s n) (hh : h < n) (hs : s h = true)
    (hown : w'.ownsMap Try.prog 3 (plainElem Try.prog 4) mb cnt (D.del (.int .i64 (h : Int)))) : SetQ w' mb cnt n (setQ s h false) := by
  refine ⟨_, hown, fun x hx => ?_, ?_⟩
  · by_cases e : x = h
    · subst e
      exact ⟨by rw [atKey_del_same]; simp [setQ], by rw [has_del_same]; simp [setQ]⟩
    · rw [atKey_del_other (fun he => e (intQ_inj he)), has_del_other (fun he => e (intQ_inj he))]
      simp only [setQ, e, if_false]
      exact hat x hx
  · have h1 := size_del (k := .int .i64 (h : Int)) hT
    have := cntQ_set (s := s) (b := false) hh
    rw [(hat h hh).2, hs, hz] at h1
    rw [hs] at this
    simp at this h1 ⊢
    omega
theorem zeroBoolQ (w : World) : (zeroValue 4).run Try.prog w = .ok (.bool false) w := Try.zeroValue4 w
/-- An element that reads as a bool's datum is that bool. -/
theorem boolQ_inv {v : Value} {z : DataW Unit × List MemPlace} (h : plainElem Try.prog 4 v = some z) : ∃ b, v = .bool b ∧ z = (.lit (.bool b), []) := by
  unfold plainElem at h
  rw [Try.underlying4] at h
  cases v <;> simp at h
  subst h
  exact ⟨_, rfl, rfl⟩
theorem SetQ.look {w : World} {mb cnt n h : Nat} {s : Nat → Bool} (hA : SetQ w mb cnt n s) (hh : h < n) (hn : n ≤ 9) :
    (Instr.lookup 49 (.map (some mb)) (.int .i64 (h : Int)) false).run Try.prog w = .ok (.bool (s h)) w := by
  obtain ⟨D, hD, hat, -⟩ := hA
  obtain ⟨v, ps, hrun, hv⟩ := hD.lookup kQ Try.underlying49 (z := .bool false) (zeroBoolQ w) (plainElem_bool Try.underlying4 false) (keyQ (x := h) (by omega))
  obtain ⟨c, rfl, hc⟩ := boolQ_inv hv
  simp only [Prod.mk.injEq] at hc
  rw [(hat h hh).1] at hc
  have := hc.1
  simp at this
  rw [this]; exact hrun
theorem has_any {mb cnt n h : Nat} {s : Nat → Bool} (w : World) (hA : SetQ w mb cnt n s) (hh : h < n) (hn : n ≤ 9) :
    Calls Try.prog 52 #[.map (some mb), .int .i64 (h : Int)] w fun e w' => e = .returned (.bool (s h)) ∧ w = w' := by
  have hl := hA.look hh hn
  go_enter Try.func52, Try.ntmps52
  go_wp2
  go_ret
  exact ⟨rfl, rfl⟩
def SetPost (W : World) (mb cnt n : Nat) (s : Nat → Bool) (e : Ending) (w' : World) : Prop := e = .returned (.tuple #[]) ∧ SetQ w' mb cnt n s ∧ W.grownBy w' (some mb)
theorem add_any {mb cnt n h : Nat} {s : Nat → Bool} (w : World) (hA : SetQ w mb cnt n s) (hh : h < n) (hn : n ≤ 9) (hs : s h = false) (hc : cnt ≤ 1000) :
    Calls Try.prog 66 #[.map (some mb), .int .i64 (h : Int)] w (SetPost w mb (cnt + 1) n (setQ s h true)) := by
  obtain ⟨D, hD, hat, hz⟩ := hA
  have HP : Hid (∀ w', w'.ownsMap Try.prog 3 (plainElem Try.prog 4) mb (cnt + 1) (D.put (.int .i64 (h : Int)) (.lit (.bool true))) → SetQ w' mb (cnt + 1) n (setQ s h true)) := fun w' hw => setQ_put (hD.tidy kQ) hat hz hh hs hw
  have HD := Lib.hid hD
  have hkey := keyQ (x := h) (by omega)
  clear hat hz hs hD
  go_enter Try.func66, Try.ntmps66
  go_wp2_with (at_mapUpdate; refine wpList_mapUpdate_own _ rfl _ _ _ 49 rfl 3 4 kQ Try.underlying49 _ mb cnt D rfl HD.out (by unfold maxLen; omega) _ _ _ rfl rfl hkey _ [] (plainElem_bool Try.underlying4 true) ?_; intro w1 hown1 hgrow1)
  have HS := Lib.hid (HP.out _ hown1)
  clear hown1
  go_end0
  exact ⟨rfl, HS.out, hgrow1⟩
theorem remove_any {mb cnt n h : Nat} {s : Nat → Bool} (w : World) (hA : SetQ w mb cnt n s) (hh : h < n) (hn : n ≤ 9) (hs : s h = true) :
    Calls Try.prog 53 #[.map (some mb), .int .i64 (h : Int)] w (SetPost w mb cnt n (setQ s h false)) := by
  obtain ⟨D, hD, hat, hz⟩ := hA
  have HP : Hid (∀ w', w'.ownsMap Try.prog 3 (plainElem Try.prog 4) mb cnt (D.del (.int .i64 (h : Int))) → SetQ w' mb cnt n (setQ s h false)) := fun w' hw => setQ_del (hD.tidy kQ) hat hz hh hs hw
  have HD := Lib.hid hD
  have hkey := keyQ (x := h) (by omega)
  clear hat hz hs hD
  go_enter Try.func53, Try.ntmps53
  go_wp2_with (at_delete; refine wpList_delete_own _ rfl _ _ 49 3 rfl 4 kQ Try.underlying49 _ mb cnt D rfl HD.out _ _ rfl hkey ?_; intro w1 hown1 hturn1)
  have HS := Lib.hid (HP.out _ hown1)
  have hg := hturn1.grown
  clear hown1 hturn1
  go_end0
  exact ⟨rfl, HS.out, hg⟩
end Go.Proofs.Ythphboeboiallaa
