/-
  fromEnd of the laws; FnValidShops and FnIsRest, walked.
  Conditions: as each theorem states.
-/
import Derived.Test.Ythphboeboiallaa0DR
import Derived.Test.Ythphboeboiallaa0MC
namespace Go.Proofs.Ythphboeboiallaa
open Go.ChangeShapes Go.WideShapes Go.ChangeAt Go.RowKit
set_option linter.unusedVariables false
set_option maxRecDepth 4000

theorem revS_cons (n x : Nat) (r : List Nat) : revS n (x :: r) = revS n r ++ [n - 1 - x] := by simp [revS]
def FeRel (n m : Nat) (ss : List Nat) (w : World) (o i : Value) (wr : World) : Prop :=
  ∃ j g c L : Nat, j ≤ m ∧ L + j = m ∧ o = .slice (some ⟨g, 0, none⟩) L c ∧ i = .int .i64 ((j : Int) - 1) ∧ Hid (OwnQ wr w.heap.size g c L (cI (revS n (ss.drop j)))) ∧ Hid (Below w.heap.size w wr)
set_option maxHeartbeats 800000 in
theorem fromEnd_any (n c m : Nat) (A : Option Addr) (ss : List Nat) (w : World) (h : PIn w A c m (cI ss)) (hS : Sh n ss) :
    Calls Try.prog 18 #[.int .i64 (n : Int), .slice A m c] w (RowQ (cI (revS n ss)) w) := by
  obtain ⟨i0, hi0, hz0, hz1, hz2⟩ := info_parts intInfo
  have hm0 : ss.length = m := by rw [← cI_length]; exact h.len
  have hn1 := hS.n1
  have hn9 := hS.n9
  have hl4 := hS.l4
  have Hm := Lib.hid hm0
  have hm4 : m ≤ 4 := by omega
  have HR := Lib.hid h.rd
  have Hlt : Hid (∀ k, k < m → ss.getD k 0 < n) := fun k hk => hS.at_ (by omega)
  have HO0 : Hid (OwnQ (w.alloc (.cells #[] 3)) w.heap.size w.heap.size 0 0 (cI (revS n (ss.drop m)))) := by
    show OwnQ _ _ _ _ _ _
    rw [List.drop_of_length_le (by omega)]
    exact ⟨rfl, World.ownsRow_lit w #[] 0 (Nat.le_refl _) (by decide) rfl⟩
  have HB0 : Hid (Below w.heap.size w (w.alloc (.cells #[] 3))) := (Below.refl _ _).alloc (Nat.le_refl _) _
  have hwn : IntKind.i64.wrap ((n : Int) - 1) = (n : Int) - 1 := IntWalk.i64_in _ (by omega)
  clear h hS hm0 hl4
  go_enter Try.func18, Try.ntmps18
  go_wp2
  go_loopw [5, 6] (fun o i wr => FeRel n m ss w o i wr) (fun _ i _ => (intOf i + 1).toNat)
  case atStart => exact ⟨m, _, _, 0, by omega, by omega, rfl, rfl, HO0, HB0⟩
  case round =>
    clear HO0 HB0
    obtain ⟨j, g, c2, L, hj, hL, rfl, rfl, HO, HB⟩ := hrel
    by_cases hpos : 0 < j
    · obtain ⟨i, rfl⟩ : ∃ i, j = i + 1 := ⟨j - 1, by omega⟩
      obtain ⟨b, off, x, rfl, hbw, Hx, hcx⟩ := (HR.out.below HB.out).q (k := i) (by rw [Hm.out]; omega)
      have hxn := Hlt.out i (by omega)
      rw [Hx.out] at hxn
      have hic : ((i + 1 : Nat) : Int) - 1 = (i : Int) := by omega
      rw [hic]
      obtain ⟨y, Hy⟩ : ∃ y, Hid (n - 1 - x = y) := ⟨_, rfl⟩
      have hy := Hy.out
      have hyv : IntKind.i64.wrap ((n : Int) - 1 - (x : Int)) = ((y : Nat) : Int) := by rw [IntKind.wrap_i64]; omega
      have hyv2 : (n : Int) - 1 - (x : Int) = ((y : Nat) : Int) := by omega
      have Hlen := Lib.hid HO.out.1
      have Hown := Lib.hid HO.out.2
      have hsz : L + 1 ≤ maxLen := by unfold maxLen; omega
      have hsz2 : (L + 1) * 8 ≤ 140737488355328 := by omega
      have hsz3 : w.heap.size ≤ (wr.alloc (.cells #[.int .i64 ((y : Nat) : Int)] 3)).heap.size := by rw [size_alloc1]; have := HB.out.size; omega
      clear hic hy
      go_wp2_with (at_builtin; refine wpList_append_lies _ rfl _ _ 23 rfl w.heap.size 3 i0 _ 1 8 Try.underlying23 hi0 hz0 hz1 hz2 rfl (by decide) _ _ _ rfl (Hown.out.alloc _) ⟨wr.heap.size, 0, none⟩ 1 1 [.int .i64 ((y : Nat) : Int)] rfl rfl (cell_one_new _ _ _) (by intro u hu; simp at hu; subst hu; rfl) (by decide) hsz hsz2 hsz3 _ rfl ?_; intro g3 c3 w3 hown3 hgrow3 hat3 hlt3)
      have HO3 : Hid (OwnQ w3 w.heap.size g3 c3 (L + 1) (cI (revS n (ss.drop i)))) := by
        show OwnQ _ _ _ _ _ _
        have e : ss.drop i = x :: ss.drop (i + 1) := by
          rw [List.drop_eq_getElem_cons (show i < ss.length by rw [Hm.out]; omega), ← Hx.out]
          simp [List.getD, show i < ss.length by rw [Hm.out]; omega]
        rw [e, revS_cons, Hy.out, cI_append]
        exact ownQ_push Hlen.out hown3
      have HB3 : Hid (Below w.heap.size w w3) := (HB.out.alloc HB.out.size _).grown hgrow3 hsz3 (fun q hq => (Hown.out.lt q hq).1)
      clear hown3 hgrow3 hat3 hlt3 Hown HO HB hsz hsz2 hsz3 hcx
      go_wp2
      go_roundw
      case rel => exact ⟨i, g3, c3, L + 1, by omega, by omega, rfl, by go_num, HO3, HB3⟩
      case measure => first | (simp [intOf]; done) | (simp [intOf]; omega)
    · obtain rfl : j = 0 := by omega
      have hown := HO.out
      rw [List.drop_zero] at hown
      have HE := Lib.hid (hown.row (Nat.le_refl _) HB.out)
      clear hown
      go_wp2
      go_ret
      exact HE.out
/-- The list seen from the other end, as shops. -/
theorem RowQ.shops {n : Nat} {ss : List Nat} {w : World} {e : Ending} {w' : World} (h : RowQ (cI ss) w e w') (hl : ss.length ≤ 100) : ∃ A c m, e = .returned (.slice A m c) ∧ PIn w' A c m (cI ss) ∧ Below w.heap.size w w' := by
  obtain ⟨A, c, he, ho, hb⟩ := h
  obtain ⟨A2, c2, e2, h1, h2, h3⟩ := own_slice ho.out rfl
  injection e2 with e2 _ e3
  subst e2 e3
  exact ⟨A, c, _, he, ⟨h3, rfl, ⟨h1, h2⟩, by rw [cI_length]; omega⟩, hb.out⟩

set_option maxHeartbeats 800000 in
theorem lawValidShops_walk (A : Option Addr) (c : Nat) (bs : List Int) (w : World) (hr : RdB w w.heap.size A bs) (hcap : bs.length ≤ c) (hm : c ≤ maxLen) :
    Calls Try.prog 3 #[.slice A bs.length c] w fun e w' => e = .returned (.bool true) ∧ Below w.heap.size w w' := by
  unfold maxLen at hm
  obtain ⟨n, Hn⟩ : ∃ n, Hid (bs.length = n) := ⟨_, rfl⟩
  rw [Hn.out] at hcap ⊢
  have HD := Lib.hid (drawValidShops_any A c n bs w hr Hn.out hcap (by omega))
  have HI := Lib.hid iValidShops_any
  have HS := Lib.hid sValidShops_ok
  clear hr
  by_cases hb : 1048576 < n
  · go_enter Try.func3, Try.ntmps3
    go_wp2
    go_ret
    exact ⟨rfl, Below.refl _ _⟩
  · go_enter Try.func3, Try.ntmps3
    go_wp2_with fail
    refine HD.out.mono ?_
    rintro e w1 ⟨d, A1, c1, m, zs, rfl, hd, hm1, hm4, hin, hb1⟩
    have HIn := Lib.hid hin.out
    have HB1 := Lib.hid hb1.out
    clear hin hb1
    go_wp2_with fail
    refine (HI.out (d : Int) A1 c1 m zs w1 HIn.out).mono ?_
    rintro e w2 ⟨rfl, rfl⟩
    go_wp2_with fail
    refine (HS.out (d : Int) A1 c1 m zs w1 HIn.out).mono ?_
    rintro e w2 ⟨rfl, hb2⟩
    have HB2 := Lib.hid (HB1.out.trans (hb2.mono HB1.out.size))
    have HIn2 := Lib.hid (HIn.out.later hb2)
    clear hb2 HIn
    obtain ⟨r, Hr⟩ : ∃ r, Hid (vsh (d : Int) zs = r) := ⟨_, rfl⟩
    rw [Hr.out]
    have hne : (r != r) = false := by simp
    have heq : (r == r) = true := by simp
    cases r with
    | false =>
      go_wp2_with fail
      refine (HS.out (d : Int) A1 c1 m zs w2 HIn2.out).mono ?_
      rintro e w3 ⟨rfl, hb3⟩
      rw [Hr.out]
      have HB3 := Lib.hid (HB2.out.trans (hb3.mono HB2.out.size))
      clear hb3
      go_wp2
      go_ret
      exact ⟨rfl, HB3.out⟩
    | true =>
      obtain ⟨n', ss, hdn, rfl, hS⟩ := vsh_get Hr.out
      obtain rfl : d = n' := by omega
      have HF := Lib.hid (fromEnd_any d c1 m A1 ss w2 HIn2.out hS)
      have hrev := hS.rev
      have HV := Lib.hid (hrev.vsh)
      have hl4 := hrev.l4
      clear hdn hS hrev
      go_wp2_with fail
      refine HF.out.mono ?_
      intro e w3 hq
      obtain ⟨A3, c3, m3, rfl, hp3, hb3⟩ := hq.shops (n := d) (by omega)
      have HP3 := Lib.hid hp3
      have HB3 := Lib.hid (HB2.out.trans (hb3.mono HB2.out.size))
      clear hq hp3 hb3
      go_wp2_with fail
      refine (HI.out (d : Int) A3 c3 m3 _ w3 HP3.out).mono ?_
      rintro e w4 ⟨rfl, rfl⟩
      rw [HV.out]
      go_wp2
      go_ret
      exact ⟨rfl, HB3.out⟩
end Go.Proofs.Ythphboeboiallaa
