/-
  FirstCuts of the model.
  Conditions: fewer than 2^20 numbers.
-/
import Derived.Test.YtoappopbjnlbdaaZR
namespace Go.Proofs.Ytoappopbjnlbdaa
open Go.ChangeShapes Go.WideShapes Go.ChangeAt Go.RowKit
set_option linter.unusedVariables false
set_option maxRecDepth 4000

/-- A row of ints of the call's own, of length L. -/
def OwnZ (wr : World) (B : Nat) (g c L : Nat) (xs : List Int) : Prop := xs.length = L ∧ wr.ownsRow B 3 1 (.slice (some ⟨g, 0, none⟩) L c) L (xs.map (Value.int .i64))
theorem ownZ_push {w3 : World} {B g3 c3 L : Nat} {xs : List Int} {x : Int} (h : xs.length = L) (ho : w3.ownsRow B 3 1 (.slice (some ⟨g3, 0, none⟩) (L + 1) c3) (L + 1) (xs.map (Value.int .i64) ++ [Value.int .i64 x])) : OwnZ w3 B g3 c3 (L + 1) (xs ++ [x]) :=
  ⟨by simp [h], by rw [List.map_append]; exact ho⟩
def CutRel (m : Int) (zs : List Int) (n : Nat) (w : World) (o a i : Value) (wr : World) : Prop :=
  ∃ k g c L : Nat, ∃ q : Int, k ≤ n ∧ L ≤ k ∧ o = .slice (some ⟨g, 0, none⟩) L c ∧ a = .int .i64 q ∧ i = .int .i64 k ∧ Hid (nwT m zs k = q) ∧ Hid (OwnZ wr w.heap.size g c L (ctT m zs k)) ∧ Hid (Below w.heap.size w wr)

set_option maxHeartbeats 1600000 in
theorem sFirstCuts_ok : ZCuts 36 := by
  intro A c n zs m w h
  obtain ⟨i0, hi0, hz0, hz1, hz2⟩ := info_parts intInfo
  have HV := Lib.hid (sValidWards_in A c n zs w h)
  by_cases hv : vw zs = true
  · rw [hv] at HV
    by_cases hm : 0 ≤ m ∧ m ≤ 1000
    · have hw := vw_iff.1 hv
      have HI := Lib.hid (inRange_yes m 0 1000 w hm.1 hm.2)
      have HF := Lib.hid (sFewest_in A c n zs m w _ h.rd h.len hw hm.1 hm.2)
      have hc := cbc_fw hw hm.1 hm.2
      have hb := fwV_bd (m := m) hw
      obtain ⟨f, Hf⟩ : ∃ f, Hid (fwV zs m = f) := ⟨_, rfl⟩
      rw [Hf.out] at HF hc hb
      have hn10 := hw.n10
      rw [h.len] at hn10
      by_cases hf0 : 0 ≤ f
      · have hc' : cbc zs m = true := by rw [hc]; simpa using hf0
        have HE : Hid (∀ g c L wr, OwnZ wr w.heap.size g c L (ctT m zs n) → Below w.heap.size w wr → CutsAre zs m w (.returned (.tuple #[.slice (some ⟨g, 0, none⟩) L c, .bool true])) wr) := by
          intro g c L wr ho hB
          refine ⟨_, by rw [hc'], ?_, hB⟩
          rw [if_pos hc', h.len, ho.1]
          exact ho.2
        have Hn := Lib.hid h.len
        have HR := Lib.hid h.rd
        have HW := Lib.hid hw
        have HO0 : Hid (OwnZ (w.alloc (.cells #[] 3)) w.heap.size w.heap.size 0 0 (ctT m zs 0)) := ⟨rfl, World.ownsRow_lit w #[] 0 (Nat.le_refl _) (by decide) rfl⟩
        have HB0 : Hid (Below w.heap.size w (w.alloc (.cells #[] 3))) := (Below.refl _ _).alloc (Nat.le_refl _) _
        have hm0 := hm.1
        have hm1 := hm.2
        clear h hv hm hw hc hc' hb
        go_enter Try.func36, Try.ntmps36
        go_wp2_with fail
        refine HV.out.mono ?_
        rintro e w' ⟨rfl, rfl⟩
        go_wp2_with fail
        refine HI.out.mono ?_
        rintro e w' ⟨rfl, rfl⟩
        go_wp2_with fail
        refine HF.out.mono ?_
        rintro e w' ⟨rfl, rfl⟩
        go_wp2
        go_loopw [6, 7, 8] (fun o a i wr => CutRel m zs n w o a i wr) (fun _ _ i _ => n - (intOf i).toNat)
        case atStart => exact ⟨0, _, _, 0, 0, Nat.zero_le _, Nat.le_refl _, rfl, rfl, rfl, rfl, HO0, HB0⟩
        case round =>
          clear HO0 HB0
          obtain ⟨k, g, c5, L, q, hk, hLk, rfl, rfl, rfl, Hq, HO, HB⟩ := hrel
          by_cases hlt : k < n
          · obtain ⟨b, off, x, rfl, -, Hx, hcx⟩ := (HR.out.below HB.out).x (k := k) (by rw [Hn.out]; exact hlt)
            have hx := HW.out.at_ (k := k) (by rw [Hn.out]; exact hlt)
            have hq0 := nwT_ge0 (m := m) HW.out.ge0 k (by rw [Hn.out]; omega)
            have hq1 : nwT m zs k ≤ 20 * k := nwT_20 HW.out k (by rw [Hn.out]; omega)
            rw [Hx.out] at hx
            rw [Hq.out] at hq0 hq1
            have hqx : IntKind.i64.wrap (q + x) = q + x := IntWalk.i64_in _ (by omega)
            by_cases hcut : m < q + x
            · have hcut' : m < nwT m zs k + zs.getD k 0 := by rw [Hq.out, Hx.out]; exact hcut
              have HN : Hid (nwT m zs (k + 1) = x) := by show _ = _; rw [nwT_cut hcut', Hx.out]
              have HT : Hid (ctT m zs (k + 1) = ctT m zs k ++ [(k : Int)]) := ctT_cut hcut'
              have hx0 : IntKind.i64.wrap (0 + x) = x := by rw [Int.zero_add]; exact IntWalk.i64_in _ (by omega)
              have Hlen := Lib.hid HO.out.1
              have Hown := Lib.hid HO.out.2
              have hsz : L + 1 ≤ maxLen := by unfold maxLen; omega
              have hsz2 : (L + 1) * 8 ≤ 140737488355328 := by omega
              have hsz3 : w.heap.size ≤ (wr.alloc (.cells #[.int .i64 k] 3)).heap.size := by simp; have := HB.out.size; omega
              have HRX := Lib.hid (fun (W : World) (hb : Below w.heap.size w W) => (HR.out.below hb).at_ (k := k) (by rw [Hn.out]; exact hlt))
              clear hcut'
              go_wp2_with (at_builtin; refine wpList_append_lies _ rfl _ _ 23 rfl w.heap.size 3 i0 _ 1 8 Try.underlying23 hi0 hz0 hz1 hz2 rfl (by decide) _ _ _ rfl (Hown.out.alloc _) ⟨wr.heap.size, 0, none⟩ 1 1 [.int .i64 k] rfl rfl (cell_one_new _ _ _) (by intro u hu; simp at hu; subst hu; rfl) (by decide) hsz hsz2 hsz3 _ rfl ?_; intro g3 c3 w3 hown3 hgrow3 hat3 hlt3; have HB3 := Lib.hid ((HB.out.alloc HB.out.size _).grown hgrow3 hsz3 (fun q hq => (Hown.out.lt q hq).1)); obtain ⟨b9, off9, x9, he9, -, Hx9, hcx9⟩ := (HR.out.below HB3.out).x (k := k) (by rw [Hn.out]; exact hlt); injection he9 with he9; injection he9 with he91 he92; subst he91 he92; rw [Hx.out] at Hx9; have hx9 : x = x9 := Hx9; subst hx9)
              have HO3 : Hid (OwnZ w3 w.heap.size g3 c3 (L + 1) (ctT m zs (k + 1))) := by show OwnZ _ _ _ _ _ _; rw [HT.out]; exact ownZ_push Hlen.out hown3
              clear hown3 hgrow3 hat3 hlt3 Hown HO hsz hsz2 hsz3
              go_wp2
              go_roundw
              case rel => exact ⟨k + 1, g3, c3, L + 1, x, by omega, by omega, rfl, by go_num, by go_num, HN, HO3, HB3⟩
              case measure => simp [intOf]; omega
            · have hcut' : ¬ m < nwT m zs k + zs.getD k 0 := by rw [Hq.out, Hx.out]; exact hcut
              have HN : Hid (nwT m zs (k + 1) = q + x) := by show _ = _; rw [nwT_go hcut', Hx.out, Hq.out]
              have HO3 : Hid (OwnZ wr w.heap.size g c5 L (ctT m zs (k + 1))) := by show OwnZ _ _ _ _ _ _; rw [ctT_go hcut']; exact HO.out
              clear hcut'
              go_wp2
              go_roundw
              case rel => exact ⟨k + 1, g, c5, L, q + x, by omega, by omega, rfl, rfl, by go_num, HN, HO3, HB⟩
              case measure => simp [intOf]; omega
          · obtain rfl : k = n := by omega
            have HD := Lib.hid (HE.out _ _ _ _ HO.out HB.out)
            go_wp2
            go_ret2
            exact HD.out
      · have hc' : cbc zs m = false := by rw [hc]; simpa using hf0
        have HE : Hid (CutsAre zs m w (.returned (.tuple #[.slice none 0 0, .bool false])) w) := ⟨_, by rw [hc'], by rw [if_neg (by rw [hc']; decide)]; exact World.ownsRow_nil _ _ _ _, Below.refl _ _⟩
        have hf2 : f < 0 := by omega
        clear h hv hm hw hc hc' hb hf0
        go_enter Try.func36, Try.ntmps36
        go_wp2_with fail
        refine HV.out.mono ?_
        rintro e w' ⟨rfl, rfl⟩
        go_wp2_with fail
        refine HI.out.mono ?_
        rintro e w' ⟨rfl, rfl⟩
        go_wp2_with fail
        refine HF.out.mono ?_
        rintro e w' ⟨rfl, rfl⟩
        go_wp2
        go_ret2
        exact HE.out
    · have HI := Lib.hid (inRange_no m 0 1000 w (by omega))
      have hc' := cbc_no (zs := zs) (m := m) (fun hh => hm hh.2)
      have HE : Hid (CutsAre zs m w (.returned (.tuple #[.slice none 0 0, .bool false])) w) := ⟨_, by rw [hc'], by rw [if_neg (by rw [hc']; decide)]; exact World.ownsRow_nil _ _ _ _, Below.refl _ _⟩
      clear h hv hm hc'
      go_enter Try.func36, Try.ntmps36
      go_wp2_with fail
      refine HV.out.mono ?_
      rintro e w' ⟨rfl, rfl⟩
      go_wp2_with fail
      refine HI.out.mono ?_
      rintro e w' ⟨rfl, rfl⟩
      go_wp2
      go_ret2
      exact HE.out
  · have hv' : vw zs = false := by simpa using hv
    rw [hv'] at HV
    have hc' := cbc_no (zs := zs) (m := m) (fun hh => hv hh.1)
    have HE : Hid (CutsAre zs m w (.returned (.tuple #[.slice none 0 0, .bool false])) w) := ⟨_, by rw [hc'], by rw [if_neg (by rw [hc']; decide)]; exact World.ownsRow_nil _ _ _ _, Below.refl _ _⟩
    clear h hv hv' hc'
    go_enter Try.func36, Try.ntmps36
    go_wp2_with fail
    refine HV.out.mono ?_
    rintro e w' ⟨rfl, rfl⟩
    go_wp2
    go_ret2
    exact HE.out
end Go.Proofs.Ytoappopbjnlbdaa
