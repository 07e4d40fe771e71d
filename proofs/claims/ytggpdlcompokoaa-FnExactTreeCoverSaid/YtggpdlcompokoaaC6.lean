/-
  The library's insertion sort over pointers, by depth: walked.
  Conditions: as each theorem states.
-/
import Derived.Test.YtggpdlcompokoaaC5
namespace Go.Proofs.Ytggpdlcompokoaa
open Go.ChangeShapes Go.WideShapes Go.ChangeAt Go.RowKit
set_option linter.unusedVariables false
set_option maxRecDepth 4000

theorem SRow.cells {w wr : World} {P : Nat → Nat} {g n cap : Nat} {ord : List Nat} (h : SRow w wr P g n cap ord) (hl : ord.length = n) {j : Nat} (hj : j < n) :
    wr.cell? ⟨g, j, none⟩ = some (.pointer (some ⟨P (ord.getD j 0), 0, none⟩)) ∧ wr.frozen? ⟨g, j, none⟩ = false := by
  refine ⟨?_, h.own.frozenAt j⟩
  rw [h.own.cellAt j (by omega)]
  exact ptrsO_at P (by omega)

set_option maxHeartbeats 1600000 in
theorem insort_any (P : Nat → Nat) (RV : Nat → Value) (B n cap g : Nat) (t : List (Int × Int)) (w wr : World) (ht : Ahead t) (hnt : n ≤ t.length) (hn1 : 1 ≤ n) (hn7 : n ≤ 7) (hcap : n ≤ cap) (hlk : LkN w B n P RV t) (hs : SRow w wr P g n cap (List.range n)) :
    Calls Try.prog 93 #[.slice (some ⟨g, 0, none⟩) n cap, .int .i64 0, .int .i64 n, .func (.func 82) #[] #[]] wr fun e w' => e = .returned (.tuple #[]) ∧
      ∃ ord, SortO t n n ord ∧ SRow w w' P g n cap ord := by
  have Hlk := Lib.hid hlk
  have HS0 := Lib.hid hs
  have HO0 := Lib.hid (sortO_start t hn1)
  clear hlk hs
  go_enter Try.func93, Try.ntmps93
  go_wp2
  go_loopg [8] (n - 1) (fun g1 vi wo => ∃ (i : Nat) (ord : List Nat), vi = .int .i64 i ∧ 1 ≤ i ∧ i ≤ n ∧ n - i ≤ g1 ∧ Hid (SortO t n i ord) ∧ Hid (SRow w wo P g n cap ord))
  case atStart => exact ⟨1, _, by go_num, Nat.le_refl _, hn1, Nat.le_refl _, HO0, HS0⟩
  case round =>
    clear HO0 HS0
    obtain ⟨i, ord, rfl, hi1, hin, hg1, HO, HS⟩ := hrel
    by_cases hlt : i < n
    · have hltz : (i : Int) < (n : Int) := by omega
      go_wp2
      go_loopg [9] i (fun g2 vj wi => ∃ (j : Nat) (ord : List Nat), vj = .int .i64 j ∧ j ≤ i ∧ j ≤ g2 ∧ Hid (SortI t n i j ord) ∧ Hid (SRow w wi P g n cap ord))
      case atStart => exact ⟨i, ord, rfl, Nat.le_refl _, Nat.le_refl _, sortI_start HO.out hlt, HS⟩
      case round =>
        clear HO HS
        obtain ⟨j, ord, rfl, hji, hg2, HI, HS⟩ := hrel
        cases j with
        | zero =>
          have OUT := Lib.hid (sortI_stop HI.out (.inl rfl))
          go_wp2
          go_quiet (fail)
          have HS2 := Lib.hid (HS.out.drewN nq)
          go_wp2
          go_roundg (n - (i + 1))
          case measure => omega
          case rel => exact ⟨i + 1, ord, by go_num, by omega, by omega, Nat.le_refl _, OUT, HS2⟩
        | succ m =>
          have hlen := HI.out.all.1
          obtain ⟨ca, fa⟩ := HS.out.cells hlen (j := m + 1) (by omega)
          obtain ⟨cb, fb⟩ := HS.out.cells hlen (j := m) (by omega)
          have han := HI.out.all.2.1 (m + 1) (by omega)
          have hbn := HI.out.all.2.1 m (by omega)
          have HSTEP := Lib.hid (sortI_step HI.out)
          have HSTOP := Lib.hid (fun h => sortI_stop HI.out (.inr ⟨m, rfl, h⟩))
          have HSW := Lib.hid (SRow.swap (m := m) HS.out)
          have hlk2 := Hlk.out.below (HS.out.bel.mono (Nat.le_refl _))
          obtain ⟨-, da, -, -, -⟩ := hlk2.cells han
          obtain ⟨-, db, -, -, -⟩ := hlk2.cells hbn
          have ba := dn_bd ht n _ 0 hnt han (by omega)
          have bb := dn_bd ht n _ 0 hnt hbn (by omega)
          rw [dn_symm t n 0, dn_symm t n 0] at HSTEP HSTOP
          obtain ⟨DA, HDA⟩ : ∃ x, Hid (dn t n (ord.getD (m + 1) 0) 0 = x) := ⟨_, rfl⟩
          obtain ⟨DB, HDB⟩ : ∃ x, Hid (dn t n (ord.getD m 0) 0 = x) := ⟨_, rfl⟩
          rw [HDA.out] at da ba HSTEP HSTOP
          rw [HDB.out] at db bb HSTEP HSTOP
          obtain ⟨PA, HPA⟩ : ∃ x, Hid (P (ord.getD (m + 1) 0) = x) := ⟨_, rfl⟩
          obtain ⟨PB, HPB⟩ : ∃ x, Hid (P (ord.getD m 0) = x) := ⟨_, rfl⟩
          rw [HPA.out] at ca da HSW
          rw [HPB.out] at cb db HSW
          have hcmp : ∀ q, Calls Try.prog 82 #[.pointer (some ⟨PA, 0, none⟩), .pointer (some ⟨PB, 0, none⟩)] (wr.drewN q) fun e w' => e = .returned (.int .i64 (DB - DA)) ∧ ∃ k, w' = (wr.drewN q).drewN k :=
            fun q => cmp_any PA PB DA DB (wr.drewN q) da db (by omega) (by omega) (by omega) (by omega)
          have HC := Lib.hid hcmp
          have e0 : ((m : Int) + 1).toNat = m + 1 := by omega
          have p0 : (0 : Int) ≤ (m : Int) + 1 := by omega
          have g0 : (0 : Int) < (m : Int) + 1 := by omega
          have jz : (m : Int) + 1 < (n : Int) := by omega
          have jz1 : (m : Int) < (n : Int) := by omega
          have hwp : IntKind.i64.wrap (m : Int) = (m : Int) := IntWalk.i64_in _ (by omega)
          have hwp1 : IntKind.i64.wrap ((m : Int) + 1) = (m : Int) + 1 := IntWalk.i64_in _ (by omega)
          clear hlk2 han hbn hlen hcmp da db
          by_cases hc : DB < DA
          · have hd : decide (DB - DA < 0) = true := decide_eq_true (by omega)
            have hd' : DB - DA < 0 := by omega
            have HI2 := Lib.hid (HSTEP.out hc)
            clear HSTEP HSTOP
            go_wp2_with fail
            go_quiet (exact Calls.quiet_of (HC.out _))
            have ca2 : (wr.drewN nq).cell? ⟨g, m + 1, none⟩ = some (.pointer (some ⟨PA, 0, none⟩)) := ca
            have cb2 : (wr.drewN nq).cell? ⟨g, m, none⟩ = some (.pointer (some ⟨PB, 0, none⟩)) := cb
            have fa2 : (wr.drewN nq).frozen? ⟨g, m + 1, none⟩ = false := fa
            have fb2 : (wr.drewN nq).frozen? ⟨g, m, none⟩ = false := fb
            have hsw : SRow w (((wr.drewN nq).setCell ⟨g, m + 1, none⟩ (.pointer (some ⟨PB, 0, none⟩))).setCell ⟨g, m, none⟩ (.pointer (some ⟨PA, 0, none⟩))) P g n cap (swO ord m) := by
              have := SRow.swap (m := m) (HS.out.drewN nq)
              rw [HPA.out, HPB.out] at this
              exact this
            clear ca cb fa fb HSW HS
            generalize wr.drewN nq = wq at ca2 cb2 fa2 fb2 hsw ⊢
            obtain ⟨j1, hj1⟩ : ∃ j1, j1 = m + 1 := ⟨_, rfl⟩
            rw [← hj1] at ca2 fa2 e0 hsw
            have HSW := Lib.hid hsw
            clear hj1 hsw
            go_wp2_with fail
            go_region
            all_goals
              have HS2 := Lib.hid (HSW.out.drewN 1)
              go_wp2
              go_roundg m
              case measure => omega
              case rel => exact ⟨m, swO ord m, by go_num, by omega, by omega, HI2, HS2⟩
          · have hd : decide (DB - DA < 0) = false := decide_eq_false (by omega)
            have hd' : ¬ DB - DA < 0 := by omega
            have OUT := Lib.hid (HSTOP.out hc)
            clear HSTEP HSTOP HSW
            go_wp2_with fail
            go_quiet (exact Calls.quiet_of (HC.out _))
            have HS2 := Lib.hid (HS.out.drewN nq)
            go_wp2
            go_roundg (n - (i + 1))
            case measure => omega
            case rel => exact ⟨i + 1, ord, by go_num, by omega, by omega, Nat.le_refl _, OUT, HS2⟩
    · have hltz : ¬ (i : Int) < (n : Int) := by omega
      obtain rfl : i = n := by omega
      go_wp2
      go_end0
      exact ⟨rfl, ord, HO.out, HS.out⟩
end Go.Proofs.Ytggpdlcompokoaa
