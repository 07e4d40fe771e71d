/-
  The drawn arguments of TreeSum and TreeMiddle.
  Conditions: none beyond what each theorem states.
-/
import Derived.Test.YtoappopbjnlbdabD3
namespace Go.Proofs.Ytoappopbjnlbdab
open Go.ChangeShapes Go.WideShapes Go.ChangeAt Go.RowKit
set_option linter.unusedVariables false
set_option maxRecDepth 4000

def DrawnMiddle (w : World) (e : Ending) (w' : World) : Prop :=
  ∃ A c Af cf, ∃ ts : List (Int × Int), ∃ fs : List Int, e = .returned (.tuple #[.slice A ts.length c, .slice Af fs.length cf]) ∧ ts.length ≤ 7 ∧ fs.length ≤ 8 ∧ ts.length ≤ c ∧ RdR w' w'.heap.size A ts ∧ RdI w' w'.heap.size Af fs ∧ Below w.heap.size w w'
def DrawnSum (w : World) (e : Ending) (w' : World) : Prop :=
  ∃ A c Af cf, ∃ ts : List (Int × Int), ∃ fs : List Int, ∃ a : Int, e = .returned (.tuple #[.slice A ts.length c, .slice Af fs.length cf, .int .i64 a]) ∧ -1 ≤ a ∧ a ≤ 7 ∧ ts.length ≤ 7 ∧ fs.length ≤ 8 ∧ ts.length ≤ c ∧ RdR w' w'.heap.size A ts ∧ RdI w' w'.heap.size Af fs ∧ Below w.heap.size w w'

set_option maxHeartbeats 800000 in
theorem drawTreeMiddle_any (A : Option Addr) (c n : Nat) (bs : List Int) (w : World) (hr : RdB w w.heap.size A bs) (hn : bs.length = n) (hc : n ≤ c) (hm : c ≤ 9223372036854775807) :
    Calls Try.prog 20 #[.slice A n c] w (DrawnMiddle w) := by
  have H := Lib.hid (newReader_any A c n bs w hr hn hc hm)
  clear hn
  go_enter Try.func20, Try.ntmps20
  go_wp2_with fail
  refine H.out.mono ?_
  rintro e w1 ⟨rfl, hg1, hnx1⟩
  go_wp2_with fail
  refine (someTree_any w.heap.size w.heap.size 0 w1 hg1 (by omega)).mono ?_
  rintro e w2 ⟨v, ts, rfl, hl, hown, hg2, hgb2⟩
  obtain ⟨A', c', rfl, hc1, hc2, hrd⟩ := rdR_own hown rfl
  have hR1 := hg1.lt
  have Hown := Lib.hid hown
  clear hown hrd
  go_wp2_with fail
  refine (someFolk_any w.heap.size w.heap.size (0 + 40) ts.length w2 hg2 (by omega) hl).mono ?_
  rintro e w3 ⟨v3, fs, rfl, hl3, hown3, hg3, hgb3⟩
  have hownT := Hown.out.kept hgb3 (.inr (fun e => by have := (Hown.out.lt _ e).1; omega))
  obtain ⟨A3, c3, e3, -, -, hrd3⟩ := rdR_own hownT rfl
  injection e3 with e3 _ e4
  subst e3 e4
  obtain ⟨Af, cf, rfl, -, -, hrf⟩ := own_slice hown3 rfl
  have hB := hnx1.trans (gb_below (gb_trans hgb2 hgb3 (.inl rfl)) (Nat.le_refl _) hnx1.size)
  have HR := Lib.hid hrd3
  have HF := Lib.hid hrf
  have HB := Lib.hid hB
  clear hrd3 hrf hB hownT hown3 hgb3 hgb2
  go_wp2
  go_ret2
  exact ⟨_, _, _, _, ts, fs, rfl, hl, hl3, hc1, HR.out, HF.out, HB.out⟩
set_option maxHeartbeats 800000 in
theorem drawTreeSum_any (A : Option Addr) (c n : Nat) (bs : List Int) (w : World) (hr : RdB w w.heap.size A bs) (hn : bs.length = n) (hc : n ≤ c) (hm : c ≤ 9223372036854775807) :
    Calls Try.prog 16 #[.slice A n c] w (DrawnSum w) := by
  have H := Lib.hid (newReader_any A c n bs w hr hn hc hm)
  clear hn
  go_enter Try.func16, Try.ntmps16
  go_wp2_with fail
  refine H.out.mono ?_
  rintro e w1 ⟨rfl, hg1, hnx1⟩
  go_wp2_with fail
  refine (someTree_any w.heap.size w.heap.size 0 w1 hg1 (by omega)).mono ?_
  rintro e w2 ⟨v, ts, rfl, hl, hown, hg2, hgb2⟩
  obtain ⟨A', c', rfl, hc1, hc2, hrd⟩ := rdR_own hown rfl
  have hR1 := hg1.lt
  have Hown := Lib.hid hown
  clear hown hrd
  go_wp2_with fail
  refine (someFolk_any w.heap.size w.heap.size (0 + 40) ts.length w2 hg2 (by omega) hl).mono ?_
  rintro e w3 ⟨v3, fs, rfl, hl3, hown3, hg3, hgb3⟩
  have hownT := Hown.out.kept hgb3 (.inr (fun e => by have := (Hown.out.lt _ e).1; omega))
  have hwf := hown3.lt
  have hs2 := hgb2.size
  obtain ⟨Af, cf, rfl, -, -, -⟩ := own_slice hown3 rfl
  have HT3 := Lib.hid hownT
  have HF3 := Lib.hid hown3
  have Hwf := Lib.hid hwf
  have hgb3' := gb_trans hgb2 hgb3 (.inl rfl)
  clear hownT hown3 hwf hgb3 hgb2
  go_wp2_with fail
  refine (pick_any w.heap.size w.heap.size (0 + 40 + 20) ts.length w3 hg3 (by omega) (by omega) (by omega)).mono ?_
  rintro e w4 ⟨x, rfl, hx0, hx1, hx2, hg4, hgb4⟩
  have hx7 : x ≤ 7 := by
    by_cases h : (1 : Int) ≤ ts.length
    · have := hx1 h; omega
    · have := hx2 (by omega); omega
  have hownT4 := HT3.out.kept hgb4 (.inr (fun e => by have := (Hown.out.lt _ e).1; omega))
  have hownF4 := HF3.out.kept hgb4 (.inr (fun e => by have := (Hwf.out _ e).1; omega))
  have HT4 := Lib.hid hownT4
  have HF4 := Lib.hid hownF4
  have hgb4' := gb_trans hgb3' hgb4 (.inl rfl)
  clear hownT4 hownF4 hgb4 hx1 hx2 HT3 HF3
  go_wp2_with fail
  refine (pick_any w.heap.size w.heap.size (0 + 40 + 20 + 1) ts.length w4 hg4 (by omega) (by omega) (by omega)).mono ?_
  rintro e w5 ⟨y, rfl, hy0, hy1, hy2, hg5, hgb5⟩
  have hy7 : y ≤ 7 := by
    by_cases h : (1 : Int) ≤ ts.length
    · have := hy1 h; omega
    · have := hy2 (by omega); omega
  have hownT5 := HT4.out.kept hgb5 (.inr (fun e => by have := (Hown.out.lt _ e).1; omega))
  have hownF5 := HF4.out.kept hgb5 (.inr (fun e => by have := (Hwf.out _ e).1; omega))
  have HT5 := Lib.hid hownT5
  have HF5 := Lib.hid hownF5
  have hgb5' := gb_trans hgb4' hgb5 (.inl rfl)
  clear hownT5 hownF5 hgb5 hy1 hy2 HT4 HF4
  go_wp2_with fail
  refine (oneLitAt _ w.heap.size w.heap.size (0 + 40 + 20 + 1 + 1) [x, y, 0, ts.length, -1] 5 (-1) 7 w5 _ hg5 (by omega) rfl (by omega) (by omega) rfl (by intro z hz; simp at hz; omega) rfl).mono ?_
  rintro e w6 ⟨a, rfl, ha0, ha1, hg6, hgb6⟩
  have hownT6 := HT5.out.kept hgb6 (.inr (fun e => by have := (Hown.out.lt _ e).1; omega))
  have hownF6 := HF5.out.kept hgb6 (.inr (fun e => by have := (Hwf.out _ e).1; omega))
  obtain ⟨A3, c3, e3, -, -, hrd3⟩ := rdR_own hownT6 rfl
  injection e3 with e3 _ e4
  subst e3 e4
  obtain ⟨A4, c4, e5, -, -, hrf⟩ := own_slice hownF6 rfl
  injection e5 with e5 _ e6
  subst e5 e6
  have hB := hnx1.trans (gb_below (gb_trans hgb5' hgb6 (.inl rfl)) (Nat.le_refl _) hnx1.size)
  have HR := Lib.hid hrd3
  have HF := Lib.hid hrf
  have HB := Lib.hid hB
  clear hrd3 hrf hB hownT6 hownF6 hgb6
  go_wp2
  go_ret3
  exact ⟨_, _, _, _, ts, fs, a, rfl, ha0, ha1, hl, hl3, hc1, HR.out, HF.out, HB.out⟩
end Go.Proofs.Ytoappopbjnlbdab
