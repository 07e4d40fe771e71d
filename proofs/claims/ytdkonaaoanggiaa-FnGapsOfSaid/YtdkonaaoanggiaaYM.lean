/-
  VisitsOf, GapsOf and WorstGap of the model, walked.
  Conditions: fewer than 2^20 times.
-/
import Derived.Test.YtdkonaaoanggiaaYL
namespace Go.Proofs.Ytdkonaaoanggiaa
open Go.ChangeShapes Go.WideShapes Go.ChangeAt Go.RowKit
set_option linter.unusedVariables false
set_option maxRecDepth 4000

theorem vsY_succ (k : Nat) (zs : List Int) (m : Nat) : vsY (k + 1) zs m = vsY k zs m ++ [((tmY zs 0 (k : Int) m).length : Int)] := by simp [vsY, List.range_succ]
/-- The blocks made between two worlds stay. -/
def MidY (B : Nat) (w wr : World) (g : Nat) : Prop := (∀ b, B ≤ b → b < w.heap.size → wr.heap[b]? = w.heap[b]?) ∧ w.heap.size ≤ wr.heap.size ∧ (g < B ∨ w.heap.size ≤ g)
theorem MidY.push {B : Nat} {w wr w3 : World} {g g3 : Nat} {o : Obj} (h : MidY B w wr g) (hg : (wr.alloc o).grownBy w3 (some g)) (hl : some g = some g3 ∨ g3 = (wr.alloc o).heap.size) : MidY B w w3 g3 := by
  have hs := hg.size
  have ha : wr.heap.size ≤ (wr.alloc o).heap.size := by simp
  refine ⟨fun b h1 h2 => ?_, by have := h.2.1; omega, ?_⟩
  · have hb : b < wr.heap.size := Nat.lt_of_lt_of_le h2 h.2.1
    rw [hg.block b (by omega) (by intro e; injection e with e; have := h.2.2; omega), Below.heap_alloc wr o b hb, h.1 b h1 h2]
  · rcases hl with e | e
    · injection e with e; have := h.2.2; omega
    · right; have := h.2.1; omega
def VlRel (n m : Nat) (zs : List Int) (w : World) (B1 : Nat) (w2 : World) (o i : Value) (wr : World) : Prop :=
  ∃ s g c : Nat, s ≤ n ∧ o = .slice (some ⟨g, 0, none⟩) s c ∧ i = .int .i64 s ∧ Hid (OwnY wr w.heap.size g c s (vsY s zs m)) ∧ Hid (Below w.heap.size w wr) ∧ Hid (MidY B1 w2 wr g)
/-- What the rows of visits are for gapsOf. -/
theorem visits_in {A : Option Addr} {c n l : Nat} {zs : List Int} {vs : List Value} {W w : World} (h : KeptY W w (.slice A (tsY n zs l).length c) (tsY n zs l) vs) : TimesIn w W.heap.size A n (fun (s : Nat) => tmY zs l (s : Int) zs.length) := by
  rw [tsY_len] at h
  exact timesIn_of h
theorem gpY_nums {n : Nat} {zs : List Int} {l : Nat} (hm : 0 < zs.length) : ∀ i, i < n → (gpY n zs l).getD i 0 = -1 ∨ 0 ≤ (gpY n zs l).getD i 0 := fun i hi => by
  rcases gpY_get (l := l) hm hi with h | h
  · exact .inl h
  · exact .inr (by omega)
/-- The model's gaps of a round. -/
theorem gapsIn_any (A : Option Addr) (c m n l : Nat) (zs : List Int) (w : World) (B0 : Nat) (hT : TimesIn w B0 A n (fun (s : Nat) => tmY zs l (s : Int) zs.length)) (hn : zs.length = m) (hm : m ≤ 20) (h8 : n ≤ 8) :
    Calls Try.prog 51 #[.int .i64 n, .slice A n c, .int .i64 m] w (RowIs (gpY n zs l) w) := by
  have h := gapsOf_any A c m n _ w B0 hT (fun s => by rw [hn]; exact tmY_asc _ _ _ _) hm h8
  subst hn
  exact h

set_option maxHeartbeats 1600000 in
theorem sVisitsOf_ok : YRow 24 vwY := by
  intro n A c m zs w h
  obtain ⟨i0, hi0, hz0, hz1, hz2⟩ := info_parts intInfo
  have HV := Lib.hid (sValidRound_in n A c m zs w h)
  by_cases hv : vrY n zs = true
  · have hR := vrY_iff.1 hv
    have hs : vwY n zs = vsY n.toNat zs zs.length := by unfold vwY; rw [if_pos hv]
    rw [hv] at HV
    rw [hs]
    obtain ⟨n, rfl⟩ := Int.eq_ofNat_of_zero_le (show 0 ≤ n by have := hR.n1; omega)
    rw [Int.toNat_natCast]
    have hn8 := hR.n8
    have hm20 := hR.l20
    have Hn := Lib.hid h.len
    rw [Hn.out] at hm20
    have H2 : Hid (∀ W, Below w.heap.size w W → Calls Try.prog 49 #[.int .i64 n, .slice A m c] W (RowsIs (tsY n zs 0) W)) :=
      fun W hW => visits_any A c m n zs W ((h.rd.below hW).more hW.size) Hn.out hm20 (by omega)
    rw [Hn.out]
    clear hv hs hR h
    go_enter Try.func24, Try.ntmps24
    go_wp2_with fail
    refine HV.out.mono ?_
    rintro e w1 ⟨rfl, hb1⟩
    have HB1 := Lib.hid hb1
    have HBa : Hid (Below w.heap.size w (w1.alloc (.cells #[] 3))) := hb1.alloc hb1.size _
    have HOa : Hid ((w1.alloc (.cells #[] 3)).ownsRow w.heap.size 3 1 (.slice (some ⟨w1.heap.size, 0, none⟩) 0 0) 0 []) := World.ownsRow_lit w1 #[] 0 hb1.size (by decide) rfl
    clear hb1
    go_wp2_with fail
    refine (H2.out _ HBa.out).mono ?_
    rintro e w2 ⟨A', c', vs, rfl, HK⟩
    have HT := Lib.hid (visits_in HK.out)
    have HB2 : Hid (Below w.heap.size w w2) := HBa.out.trans (HK.out.bel.mono HBa.out.size)
    have HO2 : Hid (OwnY w2 w.heap.size w1.heap.size 0 0 (vsY 0 zs m)) := ⟨rfl, ownN_below HOa.out HK.out.bel⟩
    rw [tsY_len]
    have HM2 : Hid (MidY (w1.alloc (.cells #[] 3)).heap.size w2 w2 w1.heap.size) := ⟨fun _ _ _ => rfl, Nat.le_refl _, .inl (by rw [size_alloc1]; omega)⟩
    clear HK HBa HOa
    generalize (w1.alloc (.cells #[] 3)).heap.size = B1 at HT HM2
    go_wp2
    go_loopw [5, 7] (fun o i wr => VlRel n m zs w B1 w2 o i wr) (fun _ i _ => n - (intOf i).toNat)
    case atStart => exact ⟨0, _, _, by omega, rfl, rfl, HO2, HB2, HM2⟩
    case round =>
      clear HO2 HB2 HM2
      obtain ⟨s, g, c2, hs, rfl, rfl, HO, HB, HM⟩ := hrel
      by_cases hsn : s < n
      · obtain ⟨gt, at', ct, rfl, -, -, hct, -⟩ := HT.out.mid HM.out.1 HM.out.2.1 s hsn
        obtain ⟨K, HK⟩ : ∃ K, Hid ((tmY zs 0 (s : Int) zs.length).length = K) := ⟨_, rfl⟩
        rw [HK.out] at hct
        have HKb : Hid (((tmY zs 0 (s : Int) m).length : Int) = K) := by show _ = _; rw [← Hn.out]; exact congrArg _ HK.out
        have Hlen := Lib.hid HO.out.1
        have Hown := Lib.hid HO.out.2
        have hsz : s + 1 ≤ maxLen := by unfold maxLen; omega
        have hsz2 : (s + 1) * 8 ≤ 140737488355328 := by omega
        have hsz3 : w.heap.size ≤ (wr.alloc (.cells #[.int .i64 K] 3)).heap.size := by rw [size_alloc1]; have := HB.out.size; omega
        go_wp2_with (at_builtin; refine wpList_append_lies _ rfl _ _ 23 rfl w.heap.size 3 i0 _ 1 8 Try.underlying23 hi0 hz0 hz1 hz2 rfl (by decide) _ _ _ rfl (Hown.out.alloc _) ⟨wr.heap.size, 0, none⟩ 1 1 [.int .i64 K] rfl rfl (cell_one_new _ _ _) (by intro u hu; simp at hu; subst hu; rfl) (by decide) hsz hsz2 hsz3 _ rfl ?_; intro g3 c4 w3 hown3 hgrow3 hat3 hlt3)
        have HO3 : Hid (OwnY w3 w.heap.size g3 c4 (s + 1) (vsY (s + 1) zs m)) := by show OwnY _ _ _ _ _ _; rw [vsY_succ, HKb.out]; exact ownY_push Hlen.out hown3
        have HB3 : Hid (Below w.heap.size w w3) := (HB.out.alloc HB.out.size _).grown hgrow3 hsz3 (fun q hq => (Hown.out.lt q hq).1)
        have HM3 : Hid (MidY B1 w2 w3 g3) := HM.out.push hgrow3 hat3
        clear hown3 hgrow3 hat3 hlt3 Hown HO HB HM hsz hsz2 hsz3 hct
        go_wp2
        go_roundw
        case rel => exact ⟨s + 1, g3, c4, by omega, rfl, by go_num, HO3, HB3, HM3⟩
        case measure => simp [intOf]; omega
      · obtain rfl : s = n := by omega
        have HE : Hid (RowIs (vsY s zs m) w (.returned (.slice (some ⟨g, 0, none⟩) s c2)) wr) := ⟨_, _, by rw [vsY_len], by rw [vsY_len]; exact HO.out.2, HB⟩
        clear HO HB HM
        go_wp2
        go_ret
        exact HE.out
  · have hv' : vrY n zs = false := by simpa using hv
    have hs : vwY n zs = [] := by unfold vwY; rw [if_neg hv]
    rw [hv'] at HV
    rw [hs]
    clear hv hv' hs h
    go_enter Try.func24, Try.ntmps24
    go_wp2_with fail
    refine HV.out.mono ?_
    rintro e w1 ⟨rfl, hb1⟩
    go_wp2
    go_ret
    exact rowIs_nil _ _ hb1

set_option maxHeartbeats 1600000 in
theorem sGapsOf_ok : YRow 28 gwY := by
  intro n A c m zs w h
  have HV := Lib.hid (sValidRound_in n A c m zs w h)
  by_cases hv : vrY n zs = true
  · have hR := vrY_iff.1 hv
    have hs : gwY n zs = gpY n.toNat zs 0 := by unfold gwY; rw [if_pos hv]
    rw [hv] at HV
    rw [hs]
    obtain ⟨n, rfl⟩ := Int.eq_ofNat_of_zero_le (show 0 ≤ n by have := hR.n1; omega)
    rw [Int.toNat_natCast]
    have hn8 := hR.n8
    have hm20 := hR.l20
    have Hn := Lib.hid h.len
    rw [Hn.out] at hm20
    have H2 : Hid (∀ W, Below w.heap.size w W → Calls Try.prog 49 #[.int .i64 n, .slice A m c] W (RowsIs (tsY n zs 0) W)) :=
      fun W hW => visits_any A c m n zs W ((h.rd.below hW).more hW.size) Hn.out hm20 (by omega)
    clear hv hs hR h
    go_enter Try.func28, Try.ntmps28
    go_wp2_with fail
    refine HV.out.mono ?_
    rintro e w1 ⟨rfl, hb1⟩
    have HB1 := Lib.hid hb1
    clear hb1
    go_wp2_with fail
    refine (H2.out _ HB1.out).mono ?_
    rintro e w2 ⟨A', c', vs, rfl, HK⟩
    have HT := Lib.hid (visits_in HK.out)
    have HB2 : Hid (Below w.heap.size w w2) := HB1.out.trans (HK.out.bel.mono HB1.out.size)
    rw [tsY_len]
    clear HK
    go_wp2_with fail
    refine (gapsIn_any A' c' m n 0 zs w2 _ HT.out Hn.out hm20 (by omega)).mono ?_
    rintro e w3 ⟨A2, c2, rfl, hO, hB⟩
    have HE : Hid (RowIs (gpY n zs 0) w (.returned (.slice A2 (gpY n zs 0).length c2)) w3) := ⟨_, _, rfl, own_lowY hO.out HB2.out.size, HB2.out.trans (hB.out.mono HB2.out.size)⟩
    clear hO hB
    go_wp2
    go_ret
    exact HE.out
  · have hv' : vrY n zs = false := by simpa using hv
    have hs : gwY n zs = [] := by unfold gwY; rw [if_neg hv]
    rw [hv'] at HV
    rw [hs]
    clear hv hv' hs h
    go_enter Try.func28, Try.ntmps28
    go_wp2_with fail
    refine HV.out.mono ?_
    rintro e w1 ⟨rfl, hb1⟩
    go_wp2
    go_ret
    exact rowIs_nil _ _ hb1

set_option maxHeartbeats 1600000 in
theorem sWorstGap_ok : YNum 31 wgY := by
  intro n A c m zs w h
  have HV := Lib.hid (sValidRound_in n A c m zs w h)
  by_cases hv : vrY n zs = true
  · have hR := vrY_iff.1 hv
    have hs : wgY n zs = wrY (gpY n.toNat zs 0) := by unfold wgY; rw [if_pos hv]
    rw [hv] at HV
    rw [hs]
    obtain ⟨n, rfl⟩ := Int.eq_ofNat_of_zero_le (show 0 ≤ n by have := hR.n1; omega)
    rw [Int.toNat_natCast]
    have hn8 := hR.n8
    have hm20 := hR.l20
    have hnums := gpY_nums (n := n) (zs := zs) (l := 0) (by have := hR.l1; omega)
    have Hn := Lib.hid h.len
    rw [Hn.out] at hm20
    have H2 : Hid (∀ W, Below w.heap.size w W → Calls Try.prog 49 #[.int .i64 n, .slice A m c] W (RowsIs (tsY n zs 0) W)) :=
      fun W hW => visits_any A c m n zs W ((h.rd.below hW).more hW.size) Hn.out hm20 (by omega)
    have H3 : Hid (∀ (A : Option Addr) (c : Nat) (W : World) (B : Nat), RdI W B A (gpY n zs 0) → Calls Try.prog 53 #[.slice A n c] W fun e w' => e = .returned (.int .i64 (wrY (gpY n zs 0))) ∧ W = w') :=
      fun A c W B hr => worst_any A c n _ W B hr (gpY_len _ _ _) (by omega) hnums
    clear hv hs hR h hnums
    go_enter Try.func31, Try.ntmps31
    go_wp2_with fail
    refine HV.out.mono ?_
    rintro e w1 ⟨rfl, hb1⟩
    have HB1 := Lib.hid hb1
    clear hb1
    go_wp2_with fail
    refine (H2.out _ HB1.out).mono ?_
    rintro e w2 ⟨A', c', vs, rfl, HK⟩
    have HT := Lib.hid (visits_in HK.out)
    have HB2 : Hid (Below w.heap.size w w2) := HB1.out.trans (HK.out.bel.mono HB1.out.size)
    rw [tsY_len]
    clear HK
    go_wp2_with fail
    refine (gapsIn_any A' c' m n 0 zs w2 _ HT.out Hn.out hm20 (by omega)).mono ?_
    rintro e w3 ⟨A2, c2, rfl, hO, hB⟩
    obtain ⟨A3, c3, he, -, -, hrd⟩ := own_slice hO.out rfl
    injection he with he1 he2 he3
    subst he1 he3
    rw [gpY_len]
    have Hrd := Lib.hid hrd
    have HB3 : Hid (Below w.heap.size w w3) := HB2.out.trans (hB.out.mono HB2.out.size)
    clear hO hB hrd he2
    go_wp2_with fail
    refine (H3.out _ _ w3 _ Hrd.out).mono ?_
    rintro e w4 ⟨rfl, rfl⟩
    go_wp2
    go_ret
    exact ⟨rfl, HB3.out⟩
  · have hv' : vrY n zs = false := by simpa using hv
    have hs : wgY n zs = -1 := by unfold wgY; rw [if_neg hv]
    rw [hv'] at HV
    rw [hs]
    clear hv hv' hs h
    go_enter Try.func31, Try.ntmps31
    go_wp2_with fail
    refine HV.out.mono ?_
    rintro e w1 ⟨rfl, hb1⟩
    go_wp2
    go_ret
    exact ⟨rfl, hb1⟩
end Go.Proofs.Ytdkonaaoanggiaa
