/-
  The law FnRoundsTwice, walked.
  Conditions: none.
-/
import Derived.Test.YtdkonaaoanggiaaYR
namespace Go.Proofs.Ytdkonaaoanggiaa
open Go.ChangeShapes Go.WideShapes Go.ChangeAt Go.RowKit
set_option linter.unusedVariables false
set_option maxRecDepth 4000

theorem addr_addY (b off j : Nat) : (⟨b, off, none⟩ : Addr).add j = ⟨b, off + j, none⟩ := by unfold Addr.add; split <;> simp_all
/-- The cells of a row that came in, as append takes them. -/
theorem RoundIn.news {w : World} {b off c m : Nat} {zs : List Int} (h : RoundIn w (some ⟨b, off, none⟩) c m zs) : ∀ j u, (zs.map (Value.int .i64))[j]? = some u → w.cell? ((⟨b, off, none⟩ : Addr).add j) = some u := by
  intro j u hu
  rw [List.getElem?_map] at hu
  obtain ⟨z, hz, rfl⟩ := Option.map_eq_some_iff.1 hu
  have hj : j < zs.length := (List.getElem?_eq_some_iff.1 hz).1
  obtain ⟨b', off', he, hb, hc⟩ := h.rd (by omega)
  injection he with he
  injection he with he1 he2
  subst he1 he2
  rw [addr_addY, hc j hj]
  simp [List.getD, hz]
theorem ints_oneY (l : List Int) : ∀ u ∈ l.map (Value.int .i64), u.oneCell' = true := by
  intro u hu
  obtain ⟨x, _, rfl⟩ := List.mem_map.1 hu
  rfl

set_option maxHeartbeats 1600000 in
theorem lawRoundsTwice_walk (A : Option Addr) (c : Nat) (bs : List Int) (w : World) (hr : RdB w w.heap.size A bs) (hcap : bs.length ≤ c) (hm : c ≤ maxLen) :
    Calls Try.prog 10 #[.slice A bs.length c] w fun e w' => e = .returned (.bool true) ∧ Below w.heap.size w w' := by
  unfold maxLen at hm
  by_cases hb : 1048576 < bs.length
  · go_enter Try.func10, Try.ntmps10
    go_wp2
    go_ret
    exact ⟨rfl, Below.refl _ _⟩
  · have HD := Lib.hid (drawGapsOf_any A c bs.length bs w hr rfl hcap hm)
    have HI0 := Lib.hid iGapsOf_ok
    have HS0 := Lib.hid sGapsOf_ok
    have HV := Lib.hid iValidRound_ok
    have HW := Lib.hid iWorstGap_ok
    go_enter Try.func10, Try.ntmps10
    go_wp2_with fail
    refine HD.out.mono ?_
    rintro e w1 ⟨n, A1, c1, m, zs, rfl, ⟨hm1, hm20⟩, N1, B1⟩
    clear HD hr hb hcap hm
    have hbe : ∀ x : Int, (x == x) = true := fun x => by simp
    have hbn : ∀ x : Int, (x != x) = false := fun x => by simp
    have hbb : ∀ x : Bool, (x == x) = true := fun x => by simp
    have hbx : ∀ x : Bool, (x != x) = false := fun x => by simp
    have hL8 := gwY_len n zs
    obtain ⟨i0, hi0, hz0, hz1, hz2⟩ := info_parts intInfo
    obtain ⟨L, HL⟩ : ∃ L, Hid ((gwY n zs).length = L) := ⟨_, rfl⟩
    rw [HL.out] at hL8
    obtain ⟨v, Hv⟩ : ∃ v, Hid (vrY n (zs ++ zs) = v) := ⟨_, rfl⟩
    obtain ⟨x, Hw⟩ : ∃ x, Hid (wgY n zs = x) := ⟨_, rfl⟩
    have Hf : Hid (L ≠ 0 → v = true → gwY n (zs ++ zs) = gwY n zs ∧ wgY n (zs ++ zs) = x) := fun h hvt => by
      obtain ⟨hv, hn, hs⟩ := gw_facts HL.out h
      have hR := vrY_iff.1 hv
      have hm := hR.l1
      have hv2 : vrY n (zs ++ zs) = true := by rw [Hv.out]; exact hvt
      have e1 : gpY n.toNat (zs ++ zs) 0 = gpY n.toNat zs 0 := gpY_twice _ _ (by omega)
      refine ⟨?_, ?_⟩
      · unfold gwY; rw [if_pos hv2, if_pos hv, e1]
      · rw [← Hw.out]; unfold wgY; rw [if_pos hv2, if_pos hv, e1]
    obtain ⟨xs, Hx⟩ : ∃ xs, Hid (gwY n zs = xs) := ⟨_, rfl⟩
    rw [Hx.out] at Hf HL
    have HI : Hid (∀ A c W, RoundIn W A c m zs → Calls Try.prog 27 #[.int .i64 n, .slice A m c] W (RowAt xs L W)) := fun A c W h => (HI0.out n A c m zs W h).mono (fun e w' hr => by rw [Hx.out] at hr; exact hr.at_ HL.out (by omega))
    have HS : Hid (∀ A c W, RoundIn W A c m zs → Calls Try.prog 28 #[.int .i64 n, .slice A m c] W (RowAt xs L W)) := fun A c W h => (HS0.out n A c m zs W h).mono (fun e w' hr => by rw [Hx.out] at hr; exact hr.at_ HL.out (by omega))
    clear HS0
    go_wp2_with fail
    refine (HI.out _ _ w1 N1.out).mono ?_
    rintro e w2 ⟨A2, c2, rfl, G2, hq⟩
    have N2 := Lib.hid (N1.out.later hq.out)
    have B2 := Lib.hid (B1.out.trans (hq.out.mono B1.out.size))
    clear hq
    go_wp2_with fail
    refine (HS.out _ _ w2 N2.out).mono ?_
    rintro e w3 ⟨A3, c3, rfl, S3, hq⟩
    have N3 := Lib.hid (N2.out.later hq.out)
    have G3 := Lib.hid (G2.out.later hq.out)
    have B3 := Lib.hid (B2.out.trans (hq.out.mono B2.out.size))
    clear hq
    go_wp2_with fail
    refine (calls_drawn (eqLi_same A2 A3 c2 c3 L L xs w3 _ _ G3.out.rd G3.out.len S3.out.rd S3.out.len (by omega))).mono ?_
    rintro e w4 ⟨rfl, hq⟩
    have N4 := Lib.hid (N3.out.later hq)
    have G4 := Lib.hid (G3.out.later hq)
    have S4 := Lib.hid (S3.out.later hq)
    have B4 := Lib.hid (B3.out.trans (hq.mono B3.out.size))
    clear hq
    go_wp2_with fail
    refine (HI.out _ _ w4 N4.out).mono ?_
    rintro e w5 ⟨A4, c4, rfl, G5, hq⟩
    have N5 := Lib.hid (N4.out.later hq.out)
    have B5 := Lib.hid (B4.out.trans (hq.out.mono B4.out.size))
    clear hq
    obtain ⟨ba, oa, z0, rfl, -, -, -⟩ := N5.out.rd.x (k := 0) (by rw [N5.out.len]; omega)
    have HN0 := N5.out.news
    have Hnews : Hid (∀ j u, (zs.map (Value.int .i64))[j]? = some u → (w5.alloc (.cells #[] 3)).cell? ((⟨ba, oa, none⟩ : Addr).add j) = some u) := fun j u hu => by
      have h1 := HN0 j u hu
      exact (((Below.refl w5.heap.size w5).alloc (Nat.le_refl _) (.cells #[] 3)).cell (World.block_lt_of_cell? w5 _ h1)).trans h1
    have Hnews2 : Hid (∀ W, Below w5.heap.size w5 W → ∀ j u, (zs.map (Value.int .i64))[j]? = some u → W.cell? ((⟨ba, oa, none⟩ : Addr).add j) = some u) := fun W hW j u hu => by
      have h1 := HN0 j u hu
      exact (hW.cell (World.block_lt_of_cell? w5 _ h1)).trans h1
    have Hone := Lib.hid (ints_oneY zs)
    have HO0 : Hid ((w5.alloc (.cells #[] 3)).ownsRow w5.heap.size 3 1 (.slice (some ⟨w5.heap.size, 0, none⟩) 0 0) 0 []) := World.ownsRow_lit w5 #[] 0 (Nat.le_refl _) (by decide) rfl
    have HB0 : Hid (Below w5.heap.size w5 (w5.alloc (.cells #[] 3))) := (Below.refl _ w5).alloc (Nat.le_refl _) _
    have Hlen : Hid ((zs.map (Value.int .i64)).length = m * 1) := by show _ = _; rw [List.length_map, N5.out.len]; omega
    have hs0 : w5.heap.size ≤ (w5.alloc (.cells #[] 3)).heap.size := by rw [size_alloc1]; omega
    have hm0 : 0 + m ≤ maxLen := by unfold maxLen; omega
    have hmb : (0 + m) * 8 ≤ 140737488355328 := by omega
    have Hs1 : Hid (∀ W : World, (w5.alloc (.cells #[] 3)).grownBy W (Value.slice (some ⟨w5.heap.size, 0, none⟩) 0 0).ownBlock → Below w5.heap.size w5 W) := fun W h => HB0.out.grown h hs0 (fun g e => by simp [Value.ownBlock] at e; omega)
    have hm2 : 0 + m + m ≤ maxLen := by unfold maxLen; omega
    have hm3 : (0 + m + m) * 8 ≤ 140737488355328 := by omega
    have hmp : 0 < m := hm1
    clear HN0
    by_cases h0 : L = 0
    · subst h0
      go_wp2_with (first
        | (at_builtin; refine wpList_append_own _ rfl _ _ 23 rfl w5.heap.size 3 i0 (.int .i64 0) 1 8 Try.underlying23 hi0 hz0 hz1 hz2 rfl (by decide) _ _ _ rfl HO0.out ⟨ba, oa, none⟩ m c1 (zs.map (Value.int .i64)) rfl Hlen.out Hnews.out Hone.out hm0 hmb hs0 ?_; intro v6 w6 hown6 hgrow6 _; have Hown6 := Lib.hid hown6; have HB6 := Lib.hid (Hs1.out w6 hgrow6); have hs6 : w5.heap.size ≤ w6.heap.size := HB6.out.size; clear hown6 hgrow6)
        | (at_builtin; refine wpList_append_lies _ rfl _ _ 23 rfl w5.heap.size 3 i0 (.int .i64 0) 1 8 Try.underlying23 hi0 hz0 hz1 hz2 rfl (by decide) _ _ _ rfl Hown6.out ⟨ba, oa, none⟩ m c1 (zs.map (Value.int .i64)) rfl Hlen.out (Hnews2.out w6 HB6.out) Hone.out hmp hm2 hm3 hs6 _ rfl ?_; intro g7 c7 w7 hown7 hgrow7 hat7 hlt7; have Hown7 := Lib.hid hown7; have Hgrow7 := Lib.hid hgrow7; clear hown7 hgrow7 hat7 hlt7))
      have hsp : [] ++ zs.map (Value.int .i64) ++ zs.map (Value.int .i64) = (zs ++ zs).map (Value.int .i64) := by simp
      have hown := Hown7.out
      rw [hsp] at hown
      have hz2l : (zs ++ zs).length = 0 + m + m := by rw [List.length_append, N5.out.len]; omega
      obtain ⟨A7, c7', he, hc7, hm7, hrd7⟩ := own_slice hown hz2l
      injection he with he1 he2 he3
      subst he1 he3
      have hq : Below w5.heap.size w5 w7 := HB6.out.grown Hgrow7.out hs6 (fun g e => (Hown6.out.lt g e).1)
      have T7 : Hid (RoundIn w7 (some ⟨g7, 0, none⟩) c7 (m + m) (zs ++ zs)) := ⟨hrd7, by omega, ⟨by omega, hm7⟩, by omega⟩
      have N7 := Lib.hid (N5.out.later hq)
      have G7 := Lib.hid (G5.out.later hq)
      have B7 := Lib.hid (B5.out.trans (hq.mono B5.out.size))
      clear hsp hown hz2l hc7 hm7 hrd7 hq he2 Hown7 Hgrow7 Hown6 HB6 hs6 HO0 HB0 Hlen Hone Hnews Hnews2 Hs1 hs0 hm0 hmb hm2 hm3 hmp N5 G5 B5
      clear Hf
      go_wp2
      go_ret
      exact ⟨rfl, B7.out⟩
    · have hl0 : ((L : Int) == 0) = false := by rw [beq_eq_false_iff_ne]; omega
      go_wp2_with (first
        | (at_builtin; refine wpList_append_own _ rfl _ _ 23 rfl w5.heap.size 3 i0 (.int .i64 0) 1 8 Try.underlying23 hi0 hz0 hz1 hz2 rfl (by decide) _ _ _ rfl HO0.out ⟨ba, oa, none⟩ m c1 (zs.map (Value.int .i64)) rfl Hlen.out Hnews.out Hone.out hm0 hmb hs0 ?_; intro v6 w6 hown6 hgrow6 _; have Hown6 := Lib.hid hown6; have HB6 := Lib.hid (Hs1.out w6 hgrow6); have hs6 : w5.heap.size ≤ w6.heap.size := HB6.out.size; clear hown6 hgrow6)
        | (at_builtin; refine wpList_append_lies _ rfl _ _ 23 rfl w5.heap.size 3 i0 (.int .i64 0) 1 8 Try.underlying23 hi0 hz0 hz1 hz2 rfl (by decide) _ _ _ rfl Hown6.out ⟨ba, oa, none⟩ m c1 (zs.map (Value.int .i64)) rfl Hlen.out (Hnews2.out w6 HB6.out) Hone.out hmp hm2 hm3 hs6 _ rfl ?_; intro g7 c7 w7 hown7 hgrow7 hat7 hlt7; have Hown7 := Lib.hid hown7; have Hgrow7 := Lib.hid hgrow7; clear hown7 hgrow7 hat7 hlt7))
      have hsp : [] ++ zs.map (Value.int .i64) ++ zs.map (Value.int .i64) = (zs ++ zs).map (Value.int .i64) := by simp
      have hown := Hown7.out
      rw [hsp] at hown
      have hz2l : (zs ++ zs).length = 0 + m + m := by rw [List.length_append, N5.out.len]; omega
      obtain ⟨A7, c7', he, hc7, hm7, hrd7⟩ := own_slice hown hz2l
      injection he with he1 he2 he3
      subst he1 he3
      have hq : Below w5.heap.size w5 w7 := HB6.out.grown Hgrow7.out hs6 (fun g e => (Hown6.out.lt g e).1)
      have T7 : Hid (RoundIn w7 (some ⟨g7, 0, none⟩) c7 (m + m) (zs ++ zs)) := ⟨hrd7, by omega, ⟨by omega, hm7⟩, by omega⟩
      have N7 := Lib.hid (N5.out.later hq)
      have G7 := Lib.hid (G5.out.later hq)
      have B7 := Lib.hid (B5.out.trans (hq.mono B5.out.size))
      clear hsp hown hz2l hc7 hm7 hrd7 hq he2 Hown7 Hgrow7 Hown6 HB6 hs6 HO0 HB0 Hlen Hone Hnews Hnews2 Hs1 hs0 hm0 hmb hm2 hm3 hmp N5 G5 B5
      go_wp2_with fail
      refine (HV.out n _ _ _ (zs ++ zs) w7 T7.out).mono ?_
      rintro e w8 ⟨rfl, hq⟩
      rw [Hv.out]
      have N8 := Lib.hid (N7.out.later hq)
      have G8 := Lib.hid (G7.out.later hq)
      have T8 := Lib.hid (T7.out.later hq)
      have B8 := Lib.hid (B7.out.trans (hq.mono B7.out.size))
      clear hq
      cases v with
      | false =>
        clear Hf
        go_wp2
        go_ret
        exact ⟨rfl, B8.out⟩
      | true =>
        obtain ⟨hg2, hw2⟩ := Hf.out h0 rfl
        have Hg2 := Lib.hid hg2
        have Hw2 := Lib.hid hw2
        have HI2 : Hid (∀ A c W, RoundIn W A c (m + m) (zs ++ zs) → Calls Try.prog 27 #[.int .i64 n, .slice A (m + m) c] W (RowAt xs L W)) := fun A c W h => (HI0.out n A c _ (zs ++ zs) W h).mono (fun e w' hr => by rw [Hg2.out] at hr; exact hr.at_ HL.out (by omega))
        clear hg2 hw2 Hf h0
        go_wp2_with fail
        refine (HI2.out _ _ w8 T8.out).mono ?_
        rintro e w9 ⟨A9, c9, rfl, U9, hq⟩
        have N9 := Lib.hid (N8.out.later hq.out)
        have G9 := Lib.hid (G8.out.later hq.out)
        have T9 := Lib.hid (T8.out.later hq.out)
        have B9 := Lib.hid (B8.out.trans (hq.out.mono B8.out.size))
        clear hq
        go_wp2_with fail
        refine (calls_drawn (eqLi_same A9 A4 c9 c4 L L xs w9 _ _ U9.out.rd U9.out.len G9.out.rd G9.out.len (by omega))).mono ?_
        rintro e w10 ⟨rfl, hq⟩
        have N10 := Lib.hid (N9.out.later hq)
        have G10 := Lib.hid (G9.out.later hq)
        have T10 := Lib.hid (T9.out.later hq)
        have U10 := Lib.hid (U9.out.later hq)
        have B10 := Lib.hid (B9.out.trans (hq.mono B9.out.size))
        clear hq
        go_wp2_with fail
        refine (HW.out n _ _ _ (zs ++ zs) w10 T10.out).mono ?_
        rintro e w11 ⟨rfl, hq⟩
        rw [Hw2.out]
        have N11 := Lib.hid (N10.out.later hq)
        have G11 := Lib.hid (G10.out.later hq)
        have T11 := Lib.hid (T10.out.later hq)
        have U11 := Lib.hid (U10.out.later hq)
        have B11 := Lib.hid (B10.out.trans (hq.mono B10.out.size))
        clear hq
        go_wp2_with fail
        refine (HW.out n _ _ _ zs w11 N11.out).mono ?_
        rintro e w12 ⟨rfl, hq⟩
        rw [Hw.out]
        have N12 := Lib.hid (N11.out.later hq)
        have G12 := Lib.hid (G11.out.later hq)
        have T12 := Lib.hid (T11.out.later hq)
        have U12 := Lib.hid (U11.out.later hq)
        have B12 := Lib.hid (B11.out.trans (hq.mono B11.out.size))
        clear hq
        go_wp2
        go_ret
        exact ⟨rfl, B12.out⟩
end Go.Proofs.Ytdkonaaoanggiaa
