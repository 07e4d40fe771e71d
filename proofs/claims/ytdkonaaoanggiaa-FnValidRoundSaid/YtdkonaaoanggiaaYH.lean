/-
  VisitsOf, GapsOf, WorstGap, TwoGap and SweepRound of the program, walked.
  Conditions: fewer than 2^20 times.
-/
import Derived.Test.YtdkonaaoanggiaaYF
import Derived.Test.YtdkonaaoanggiaaYG
import Derived.Test.YtdkonaaoanggiaaGL
import Derived.Deep.AppendLies
namespace Go.Proofs.Ytdkonaaoanggiaa
open Go.ChangeShapes Go.WideShapes Go.ChangeAt Go.RowKit
set_option linter.unusedVariables false
set_option maxRecDepth 4000

/-- The answers. -/
def vwY (n : Int) (zs : List Int) : List Int := if vrY n zs = true then vsY n.toNat zs zs.length else []
def gwY (n : Int) (zs : List Int) : List Int := if vrY n zs = true then gpY n.toNat zs 0 else []
def wgY (n : Int) (zs : List Int) : Int := if vrY n zs = true then wrY (gpY n.toNat zs 0) else -1
def tgY (n : Int) (zs : List Int) (l : Int) : Int := if vrY n zs = true ∧ 0 ≤ l ∧ l ≤ 20 then wrY (gpY n.toNat zs l.toNat) else -1
def srY (n : Int) : List Int := if 1 ≤ n ∧ n ≤ 8 then swY n.toNat else []
/-- The contracts. -/
def YRow (F : Nat) (ans : Int → List Int → List Int) : Prop := ∀ (n : Int) (A : Option Addr) (c m : Nat) (zs : List Int) (w : World), RoundIn w A c m zs →
  Calls Try.prog F #[.int .i64 n, .slice A m c] w (RowIs (ans n zs) w)
def YNum (F : Nat) (ans : Int → List Int → Int) : Prop := ∀ (n : Int) (A : Option Addr) (c m : Nat) (zs : List Int) (w : World), RoundIn w A c m zs →
  Calls Try.prog F #[.int .i64 n, .slice A m c] w fun e w' => e = .returned (.int .i64 (ans n zs)) ∧ Below w.heap.size w w'
def YNum2 (F : Nat) (ans : Int → List Int → Int → Int) : Prop := ∀ (n : Int) (A : Option Addr) (c m : Nat) (zs : List Int) (l : Int) (w : World), RoundIn w A c m zs →
  Calls Try.prog F #[.int .i64 n, .slice A m c, .int .i64 l] w fun e w' => e = .returned (.int .i64 (ans n zs l)) ∧ Below w.heap.size w w'
def YSweep (F : Nat) : Prop := ∀ (n : Int) (w : World), Calls Try.prog F #[.int .i64 n] w (RowIs (srY n) w)
theorem rowIs_nil (w w' : World) (h : Below w.heap.size w w') : RowIs [] w (.returned (.slice none 0 0)) w' := ⟨none, 0, rfl, World.ownsRow_nil _ _ _ _, h⟩

theorem own_lowY {w : World} {B B' s n : Nat} {e : TypeId} {v : Value} {xs : List Value} (h : w.ownsRow B e s v n xs) (hB : B' ≤ B) : w.ownsRow B' e s v n xs := by
  refine ⟨h.1, ?_⟩
  rcases h.2 with h0 | ⟨g, cap, cur, h1, h2, h3⟩
  · exact .inl h0
  · exact .inr ⟨g, cap, cur, h1, by omega, h3⟩
theorem vs_step {n : Nat} {zs : List Int} {k s : Nat} (hk : k < zs.length) (hs : s < n) (hx : zs.getD k 0 = (s : Int)) : (vsY n zs k).set s ((vsY n zs k).getD s 0 + 1) = vsY n zs (k + 1) := by
  apply List.ext_getElem?
  intro i
  by_cases hi : i < n
  · have e1 : (vsY n zs (k + 1))[i]? = some (((tmY zs 0 (i : Int) (k + 1)).length : Nat) : Int) := by simp [vsY, hi]
    have e2 : (vsY n zs k)[i]? = some (((tmY zs 0 (i : Int) k).length : Nat) : Int) := by simp [vsY, hi]
    rw [e1, tmY_succ, List.length_append, at0 hk]
    by_cases e : i = s
    · subst e
      rw [List.getElem?_set_self (by rw [vsY_len]; exact hi), vsY_at hi, if_pos (beq_iff_eq.2 hx)]
      simp
    · rw [List.getElem?_set_ne (by omega), e2, if_neg (fun h => e (by have := beq_iff_eq.1 h; rw [hx] at this; omega))]
      simp
  · rw [List.getElem?_eq_none (by rw [List.length_set, vsY_len]; omega), List.getElem?_eq_none (by rw [vsY_len]; omega)]
theorem vs_zero (n : Nat) (zs : List Int) : vsY n zs 0 = List.replicate n 0 := by
  apply List.ext_getElem?
  intro i
  by_cases hi : i < n
  · simp [vsY, tmY, hi]
  · rw [List.getElem?_eq_none (by rw [vsY_len]; omega), List.getElem?_eq_none (by simp; omega)]
theorem vs_bd {n : Nat} {zs : List Int} {k s : Nat} (hs : s < n) : 0 ≤ (vsY n zs k).getD s 0 ∧ (vsY n zs k).getD s 0 ≤ k := by
  rw [vsY_at hs]
  have := List.length_filter_le (atY zs 0 (s : Int)) (List.range k)
  rw [List.length_range] at this
  unfold tmY
  omega
def VisRel (n : Nat) (zs : List Int) (w : World) (i : Value) (wr : World) : Prop :=
  ∃ k : Nat, k ≤ zs.length ∧ i = .int .i64 k ∧ Hid (wr.ownsRow w.heap.size 3 1 (.slice (some ⟨w.heap.size, 0, none⟩) n n) n ((vsY n zs k).map (Value.int .i64))) ∧ Hid (Below w.heap.size w wr)

set_option maxHeartbeats 1600000 in
theorem iVisitsOf_ok : YRow 22 vwY := by
  intro n A c m zs w h
  obtain ⟨i0, hi0, hz0, hz1, hz2⟩ := info_parts intInfo
  have HV := Lib.hid (iValidRound_ok n A c m zs w h)
  by_cases hv : vrY n zs = true
  · have hR := vrY_iff.1 hv
    have hs : vwY n zs = vsY n.toNat zs zs.length := by unfold vwY; rw [if_pos hv]
    rw [hv] at HV
    rw [hs]
    obtain ⟨n, rfl⟩ := Int.eq_ofNat_of_zero_le (show 0 ≤ n by have := hR.n1; omega)
    rw [Int.toNat_natCast]
    have hn8 := hR.n8
    have HRn := Lib.hid hR
    have Hn := Lib.hid h.len
    have HRd := Lib.hid h.rd
    have hm20 := hR.l20
    rw [Hn.out] at hm20
    clear hv hs hR h
    go_enter Try.func22, Try.ntmps22
    go_wp2_with fail
    refine HV.out.mono ?_
    rintro e w1 ⟨rfl, hb1⟩
    have HB1 := Lib.hid hb1
    have hsz1 := hb1.size
    clear hb1
    go_wp2_with (at_make; refine wpList_make_full _ rfl _ _ 23 rfl w1.heap.size 3 i0 _ 1 Try.underlying23 hi0 hz0 hz1 _ _ _ _ n rfl rfl rfl rfl (by rw [hz2]; omega) (by unfold maxLen; omega) (Nat.le_refl _) ?_; intro w2 hown2 hg2)
    have HB2 : Hid (Below w1.heap.size w1 w2) := (Below.refl _ _).grown hg2 (Nat.le_refl _) (fun j hj => by cases hj)
    rw [made_ints] at hown2
    have HO2 : Hid (w2.ownsRow w1.heap.size 3 1 (.slice (some ⟨w1.heap.size, 0, none⟩) n n) n ((vsY n zs 0).map (Value.int .i64))) := by show World.ownsRow _ _ _ _ _ _ _; rw [vs_zero, List.map_replicate]; exact hown2
    clear hown2 hg2
    go_loopw [16] (fun i wr => VisRel n zs w1 i wr) (fun i _ => m - (intOf i).toNat)
    case atStart => exact ⟨0, Nat.zero_le _, rfl, HO2, HB2⟩
    case round =>
      clear HO2 HB2
      obtain ⟨k, hk, rfl, HO, HB⟩ := hrel
      rw [Hn.out] at hk
      by_cases hlt : k < m
      · obtain ⟨b, off, x, rfl, hbw, Hx, hcx⟩ := ((HRd.out.below HB1.out).more hsz1).below HB.out |>.x (k := k) (by rw [Hn.out]; exact hlt)
        obtain ⟨hx0, hx1⟩ := HRn.out.inn (i := k) (by rw [Hn.out]; exact hlt)
        rw [Hx.out] at hx0 hx1
        obtain ⟨s, rfl⟩ := Int.eq_ofNat_of_zero_le hx0
        have hsn : s < n := by omega
        obtain ⟨v, Hv⟩ : ∃ v, Hid ((vsY n zs k).getD s 0 = v) := ⟨_, rfl⟩
        have hvb := vs_bd (zs := zs) (k := k) hsn
        rw [Hv.out] at hvb
        have hown := HO.out
        have hcs : wr.cell? ⟨w1.heap.size, s, none⟩ = some (.int .i64 v) := by
          rw [hown.cellAt s (by omega), List.getElem?_map, ← Hv.out]
          simp [List.getD, List.getElem?_eq_getElem (show s < (vsY n zs k).length by rw [vsY_len]; exact hsn)]
        have hfz := hown.frozenAt s
        have Hst : Hid ((wr.setCell ⟨w1.heap.size, s, none⟩ (.int .i64 (v + 1))).ownsRow w1.heap.size 3 1 (.slice (some ⟨w1.heap.size, 0, none⟩) n n) n ((vsY n zs (k + 1)).map (Value.int .i64))) := by
          have h := (hown.stored s (.int .i64 (v + 1))).1
          show World.ownsRow _ _ _ _ _ _ _
          rw [← vs_step (by rw [Hn.out]; exact hlt) hsn Hx.out, Hv.out, List.map_set]
          exact h
        have hw : IntKind.i64.wrap (v + 1) = v + 1 := IntWalk.i64_in _ (by omega)
        clear hown
        go_wp2
        go_roundw
        case rel => exact ⟨k + 1, by rw [Hn.out]; omega, by go_num, Hst, HB.out.setCell (Nat.le_refl _) _⟩
        case measure => simp [intOf]; omega
      · obtain rfl : k = m := by omega
        have hown := HO.out
        have HBw : Hid (Below w.heap.size w wr) := HB1.out.trans (HB.out.mono hsz1)
        have HE : Hid (RowIs (vsY n zs zs.length) w (.returned (.slice (some ⟨w1.heap.size, 0, none⟩) n n)) wr) := ⟨_, _, by rw [vsY_len], by rw [vsY_len, Hn.out]; exact own_lowY hown hsz1, HBw⟩
        clear hown
        go_wp2
        go_ret
        exact HE.out
  · have hv' : vrY n zs = false := by simpa using hv
    have hs : vwY n zs = [] := by unfold vwY; rw [if_neg hv]
    rw [hv'] at HV
    rw [hs]
    clear hv hv' hs h
    go_enter Try.func22, Try.ntmps22
    go_wp2_with fail
    refine HV.out.mono ?_
    rintro e w1 ⟨rfl, hb1⟩
    go_wp2
    go_ret
    exact rowIs_nil _ _ hb1

set_option maxHeartbeats 800000 in
theorem iGapsOf_ok : YRow 27 gwY := by
  intro n A c m zs w h
  have HV := Lib.hid (iValidRound_ok n A c m zs w h)
  by_cases hv : vrY n zs = true
  · have hR := vrY_iff.1 hv
    have hs : gwY n zs = gpY n.toNat zs 0 := by unfold gwY; rw [if_pos hv]
    rw [hv] at HV
    rw [hs]
    obtain ⟨n, rfl⟩ := Int.eq_ofNat_of_zero_le (show 0 ≤ n by have := hR.n1; omega)
    rw [Int.toNat_natCast]
    have hn8 := hR.n8
    have hl1 := hR.l1
    have hl20 := hR.l20
    have hl := h.len
    have H2 : Hid (∀ W, Below w.heap.size w W → Calls Try.prog 50 #[.int .i64 n, .slice A m c, .int .i64 0] W (RowIs (gpY n zs 0) W)) :=
      fun W hW => gapsOfTwo_any A c m n 0 zs W ((h.rd.below hW).more hW.size) h.len (by omega) (by omega) (by omega) (by omega)
    clear hv hs hR h hl
    go_enter Try.func27, Try.ntmps27
    go_wp2_with fail
    refine HV.out.mono ?_
    rintro e w1 ⟨rfl, hb1⟩
    have HB1 := Lib.hid hb1
    clear hb1
    go_wp2_with fail
    refine (H2.out w1 HB1.out).mono ?_
    rintro e w2 ⟨A', c', rfl, hO, hB⟩
    have HE : Hid (RowIs (gpY n zs 0) w (.returned (.slice A' (gpY n zs 0).length c')) w2) := ⟨_, _, rfl, own_lowY hO.out HB1.out.size, HB1.out.trans (hB.out.mono HB1.out.size)⟩
    clear hO hB
    go_wp2
    go_ret
    exact HE.out
  · have hv' : vrY n zs = false := by simpa using hv
    have hs : gwY n zs = [] := by unfold gwY; rw [if_neg hv]
    rw [hv'] at HV
    rw [hs]
    clear hv hv' hs h
    go_enter Try.func27, Try.ntmps27
    go_wp2_with fail
    refine HV.out.mono ?_
    rintro e w1 ⟨rfl, hb1⟩
    go_wp2
    go_ret
    exact rowIs_nil _ _ hb1

theorem gpY_first {n : Nat} {zs : List Int} {l : Nat} (hm : 0 < zs.length) (hn : 0 < n) : (gpY n zs l).getD 0 0 = -1 ∨ 0 ≤ (gpY n zs l).getD 0 0 := by
  rcases gpY_get (l := l) hm hn with h | h
  · exact .inl h
  · exact .inr (by omega)
set_option maxHeartbeats 800000 in
theorem iWorstGap_ok : YNum 30 wgY := by
  intro n A c m zs w h
  have HV := Lib.hid (iValidRound_ok n A c m zs w h)
  by_cases hv : vrY n zs = true
  · have hR := vrY_iff.1 hv
    have hs : wgY n zs = wrY (gpY n.toNat zs 0) := by unfold wgY; rw [if_pos hv]
    have hs2 : gwY n zs = gpY n.toNat zs 0 := by unfold gwY; rw [if_pos hv]
    rw [hv] at HV
    have H2 : Hid (∀ W, Below w.heap.size w W → Calls Try.prog 27 #[.int .i64 n, .slice A m c] W (RowIs (gpY n.toNat zs 0) W)) := fun W hW => by
      rw [← hs2]; exact iGapsOf_ok n A c m zs W (h.later hW)
    have hn1 := hR.n1
    have hn8 := hR.n8
    have hf := gpY_first (n := n.toNat) (zs := zs) (l := 0) (by have := hR.l1; omega) (by omega)
    have hgl := gpY_len n.toNat zs 0
    rw [hs]
    generalize hgs : gpY n.toNat zs 0 = gs at H2 hf hgl ⊢
    have H3 : Hid (∀ (A : Option Addr) (c : Nat) (W : World) (B : Nat), RdI W B A gs → Calls Try.prog 52 #[.slice A gs.length c] W fun e w' => e = .returned (.int .i64 (wrY gs)) ∧ W = w') :=
      fun A c W B hr => worstOf_any A c gs.length gs W B hr rfl (by omega) (by omega) hf
    have Hg9 : Hid (gs.length ≤ 8) := by show _ ≤ _; omega
    obtain ⟨g, Hg⟩ : ∃ g, Hid (gs.length = g) := ⟨_, rfl⟩
    rw [Hg.out] at H3
    clear hv hs hs2 hR h hf hgl hgs hn1 hn8
    go_enter Try.func30, Try.ntmps30
    go_wp2_with fail
    refine HV.out.mono ?_
    rintro e w1 ⟨rfl, hb1⟩
    have HB1 := Lib.hid hb1
    clear hb1
    go_wp2_with fail
    refine (H2.out w1 HB1.out).mono ?_
    rintro e w2 ⟨A', c', rfl, hO, hB⟩
    have hO2 := hO.out
    rw [Hg.out] at hO2 ⊢
    obtain ⟨A2, c2, he, -, -, hrd⟩ := own_slice hO2 Hg.out
    injection he with he1 he2 he3
    subst he1 he3
    have Hrd := Lib.hid hrd
    have HB2 : Hid (Below w.heap.size w w2) := HB1.out.trans (hB.out.mono HB1.out.size)
    clear hO hB hO2 hrd he2
    go_wp2_with fail
    refine (H3.out _ _ w2 _ Hrd.out).mono ?_
    rintro e w3 ⟨rfl, rfl⟩
    go_wp2
    go_ret
    exact ⟨rfl, HB2.out⟩
  · have hv' : vrY n zs = false := by simpa using hv
    have hs : wgY n zs = -1 := by unfold wgY; rw [if_neg hv]
    rw [hv'] at HV
    rw [hs]
    clear hv hv' hs h
    go_enter Try.func30, Try.ntmps30
    go_wp2_with fail
    refine HV.out.mono ?_
    rintro e w1 ⟨rfl, hb1⟩
    go_wp2
    go_ret
    exact ⟨rfl, hb1⟩

set_option maxHeartbeats 800000 in
theorem iTwoGap_ok : YNum2 38 tgY := by
  intro n A c m zs l w h
  have HV := Lib.hid (iValidRound_ok n A c m zs w h)
  by_cases hv : vrY n zs = true
  · have hR := vrY_iff.1 hv
    rw [hv] at HV
    by_cases hl0 : l < 0
    · have hs : tgY n zs l = -1 := by unfold tgY; rw [if_neg (by omega)]
      rw [hs]
      clear hv hs hR h
      go_enter Try.func38, Try.ntmps38
      go_wp2_with fail
      refine HV.out.mono ?_
      rintro e w1 ⟨rfl, hb1⟩
      go_wp2
      go_ret
      exact ⟨rfl, hb1⟩
    · by_cases hl2 : 20 < l
      · have hs : tgY n zs l = -1 := by unfold tgY; rw [if_neg (by omega)]
        rw [hs]
        clear hv hs hR h
        go_enter Try.func38, Try.ntmps38
        go_wp2_with fail
        refine HV.out.mono ?_
        rintro e w1 ⟨rfl, hb1⟩
        go_wp2
        go_ret
        exact ⟨rfl, hb1⟩
      · have hs : tgY n zs l = wrY (gpY n.toNat zs l.toNat) := by unfold tgY; rw [if_pos ⟨hv, by omega, by omega⟩]
        obtain ⟨n, rfl⟩ := Int.eq_ofNat_of_zero_le (show 0 ≤ n by have := hR.n1; omega)
        obtain ⟨l, rfl⟩ := Int.eq_ofNat_of_zero_le (show 0 ≤ l by omega)
        rw [Int.toNat_natCast, Int.toNat_natCast] at hs
        have hn1 := hR.n1
        have hn8 := hR.n8
        have hl1 := hR.l1
        have hl20 := hR.l20
        have hlen := h.len
        have H2 : Hid (∀ W, Below w.heap.size w W → Calls Try.prog 50 #[.int .i64 n, .slice A m c, .int .i64 l] W (RowIs (gpY n zs l) W)) :=
          fun W hW => gapsOfTwo_any A c m n l zs W ((h.rd.below hW).more hW.size) h.len (by omega) (by omega) (by omega) (by omega)
        have hf := gpY_first (n := n) (zs := zs) (l := l) (by omega) (by omega)
        have hgl := gpY_len n zs l
        rw [hs]
        generalize hgs : gpY n zs l = gs at H2 hf hgl ⊢
        have H3 : Hid (∀ (A : Option Addr) (c : Nat) (W : World) (B : Nat), RdI W B A gs → Calls Try.prog 52 #[.slice A gs.length c] W fun e w' => e = .returned (.int .i64 (wrY gs)) ∧ W = w') :=
          fun A c W B hr => worstOf_any A c gs.length gs W B hr rfl (by omega) (by omega) hf
        obtain ⟨g, Hg⟩ : ∃ g, Hid (gs.length = g) := ⟨_, rfl⟩
        rw [Hg.out] at H3
        clear hv hs hR h hf hgl hgs hn1 hn8 hl1 hl20 hlen
        go_enter Try.func38, Try.ntmps38
        go_wp2_with fail
        refine HV.out.mono ?_
        rintro e w1 ⟨rfl, hb1⟩
        have HB1 := Lib.hid hb1
        clear hb1
        go_wp2_with fail
        refine (H2.out w1 HB1.out).mono ?_
        rintro e w2 ⟨A', c', rfl, hO, hB⟩
        have hO2 := hO.out
        rw [Hg.out] at hO2 ⊢
        obtain ⟨A2, c2, he, -, -, hrd⟩ := own_slice hO2 Hg.out
        injection he with he1 he2 he3
        subst he1 he3
        have Hrd := Lib.hid hrd
        have HB2 : Hid (Below w.heap.size w w2) := HB1.out.trans (hB.out.mono HB1.out.size)
        clear hO hB hO2 hrd he2
        go_wp2_with fail
        refine (H3.out _ _ w2 _ Hrd.out).mono ?_
        rintro e w3 ⟨rfl, rfl⟩
        go_wp2
        go_ret
        exact ⟨rfl, HB2.out⟩
  · have hv' : vrY n zs = false := by simpa using hv
    have hs : tgY n zs l = -1 := by unfold tgY; rw [if_neg (fun h => hv h.1)]
    rw [hv'] at HV
    rw [hs]
    clear hv hv' hs h
    go_enter Try.func38, Try.ntmps38
    go_wp2_with fail
    refine HV.out.mono ?_
    rintro e w1 ⟨rfl, hb1⟩
    go_wp2
    go_ret
    exact ⟨rfl, hb1⟩
end Go.Proofs.Ytdkonaaoanggiaa
