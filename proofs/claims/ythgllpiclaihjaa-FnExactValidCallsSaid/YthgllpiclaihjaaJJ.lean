/-
  Chapter 5's model, walked: its functions answer what the program's do.
  Conditions: fewer than 2^20 calls.
-/
import Derived.Test.YthgllpiclaihjaaJH
import Derived.Test.YthgllpiclaihjaaJI
namespace Go.Proofs.Ythgllpiclaihjaa
open Go.ChangeShapes Go.WideShapes Go.ChangeAt Go.RowKit
set_option linter.unusedVariables false
set_option maxRecDepth 4000

theorem sValidCalls_ok : JBool 19 := by
  intro a b A c n zs w h
  have H1 := Lib.hid (sValidCalls_any a b A c n zs w _ h.rd h.len (by have := h.most; omega))
  clear h
  go_enter Try.func19, Try.ntmps19
  go_wp2_with fail
  refine H1.out.mono ?_
  rintro e w1 ⟨rfl, q, rfl⟩
  go_wp2
  go_ret
  exact ⟨rfl, below_drewN (Below.refl _ _) q⟩
set_option maxHeartbeats 800000 in
theorem sWayAhead_ok : JNum 22 wav := by
  intro a b A c n zs w h
  have H1 := Lib.hid (sValidCalls_any a b A c n zs w _ h.rd h.len (by have := h.most; omega))
  by_cases hv : vcl a b zs = true
  · rw [hv] at H1
    obtain ⟨⟨ha, hab, hb⟩, h8, h50⟩ := vcl_iff.1 hv
    have Hs : Hid (lwF zr2 a b zs = wav a b zs) := by show _ = _; unfold wav; rw [if_pos hv]
    have H2 := Lib.hid (fun q => ah_all w.heap.size zs h50 h8 a b A n c (w.drewN q) ⟨ha, by omega⟩ ⟨by omega, hb⟩ h.len (h.rd.drewN q) h.cap.1 h.cap.2)
    rw [Hs.out] at H2
    clear h hv
    go_enter Try.func22, Try.ntmps22
    go_wp2_with fail
    refine H1.out.mono ?_
    rintro e w1 ⟨rfl, q, rfl⟩
    go_wp2_with fail
    refine (H2.out q).mono ?_
    rintro e w2 ⟨rfl, q2, rfl⟩
    go_wp2
    go_ret
    exact ⟨rfl, below_drewN (Below.refl _ _) (q + q2)⟩
  · have hv' : vcl a b zs = false := by simpa using hv
    rw [hv'] at H1
    have Hs : Hid (wav a b zs = -1) := by show _ = _; unfold wav; rw [if_neg hv]
    clear h hv hv'
    go_enter Try.func22, Try.ntmps22
    go_wp2_with fail
    refine H1.out.mono ?_
    rintro e w1 ⟨rfl, q, rfl⟩
    go_wp2
    go_ret
    exact ⟨ret_int Hs.out.symm, below_drewN (Below.refl _ _) q⟩
set_option maxHeartbeats 1600000 in
theorem sWorkOf_ok : JNum2 35 wkv := by
  intro a b x y A c n zs w h
  have H1 := Lib.hid (sValidCalls_any a b A c n zs w _ h.rd h.len (by have := h.most; omega))
  by_cases hv : vcl a b zs = true
  · rw [hv] at H1
    by_cases hs : vst x y = true
    · obtain ⟨⟨ha, hab, hb⟩, h8, h50⟩ := vcl_iff.1 hv
      obtain ⟨hx, hxy, hy⟩ := vst_iff.1 hs
      have h0y : 0 ≤ y := by omega
      have Hs : Hid (lwF (toB x y) a b zs = wkv a b zs x y) := by show _ = _; unfold wkv; rw [if_pos ⟨hv, hs⟩]
      have H2 := Lib.hid (fun q => wk_all x y ⟨hx, by omega⟩ ⟨by omega, hy⟩ w.heap.size zs h50 h8 a b A n c (w.drewN q) ⟨ha, by omega⟩ ⟨by omega, hb⟩ h.len (h.rd.drewN q) h.cap.1 h.cap.2)
      rw [Hs.out] at H2
      clear h hv hs
      go_enter Try.func35, Try.ntmps35
      go_wp2_with fail
      refine H1.out.mono ?_
      rintro e w1 ⟨rfl, q, rfl⟩
      go_wp2_with fail
      refine (inRange_yes _ _ _ _ hx hxy).mono ?_
      rintro e w' ⟨rfl, rfl⟩
      go_wp2_with fail
      refine (inRange_yes _ _ _ _ h0y hy).mono ?_
      rintro e w' ⟨rfl, rfl⟩
      go_wp2_with fail
      refine (H2.out q).mono ?_
      rintro e w2 ⟨rfl, q2, rfl⟩
      go_wp2
      go_ret
      exact ⟨rfl, below_drewN (Below.refl _ _) (q + q2)⟩
    · have Hs : Hid (wkv a b zs x y = -1) := by show _ = _; unfold wkv; rw [if_neg fun h' => hs h'.2]
      have hs2 : ¬ (0 ≤ x ∧ x ≤ y ∧ y ≤ 50) := fun h' => hs (vst_iff.2 h')
      clear h hv hs
      by_cases h1 : 0 ≤ x ∧ x ≤ y
      · have hy : y < 0 ∨ 50 < y := by omega
        go_enter Try.func35, Try.ntmps35
        go_wp2_with fail
        refine H1.out.mono ?_
        rintro e w1 ⟨rfl, q, rfl⟩
        go_wp2_with fail
        refine (inRange_yes _ _ _ _ h1.1 h1.2).mono ?_
        rintro e w' ⟨rfl, rfl⟩
        go_wp2_with fail
        refine (inRange_no _ _ _ _ hy).mono ?_
        rintro e w' ⟨rfl, rfl⟩
        go_wp2
        go_ret
        exact ⟨ret_int Hs.out.symm, below_drewN (Below.refl _ _) q⟩
      · have hx : x < 0 ∨ y < x := by omega
        clear h1 hs2
        go_enter Try.func35, Try.ntmps35
        go_wp2_with fail
        refine H1.out.mono ?_
        rintro e w1 ⟨rfl, q, rfl⟩
        go_wp2_with fail
        refine (inRange_no _ _ _ _ hx).mono ?_
        rintro e w' ⟨rfl, rfl⟩
        go_wp2
        go_ret
        exact ⟨ret_int Hs.out.symm, below_drewN (Below.refl _ _) q⟩
  · have hv' : vcl a b zs = false := by simpa using hv
    rw [hv'] at H1
    have Hs : Hid (wkv a b zs x y = -1) := by show _ = _; unfold wkv; rw [if_neg fun h' => hv h'.1]
    clear h hv hv'
    go_enter Try.func35, Try.ntmps35
    go_wp2_with fail
    refine H1.out.mono ?_
    rintro e w1 ⟨rfl, q, rfl⟩
    go_wp2
    go_ret
    exact ⟨ret_int Hs.out.symm, below_drewN (Below.refl _ _) q⟩

set_option maxHeartbeats 3200000 in
theorem sWayGreedy_ok : JNum 26 gwv := by
  intro a b A c n zs w h
  have H1 := Lib.hid (sValidCalls_any a b A c n zs w _ h.rd h.len (by have := h.most; omega))
  by_cases hv : vcl a b zs = true
  · rw [hv] at H1
    obtain ⟨⟨ha, hab, hb⟩, h8, h50⟩ := vcl_iff.1 hv
    rw [h.len] at h8
    have Hs : Hid (gwv a b zs = itW ngL ngH ngW a b zs) := by show _ = _; unfold gwv; rw [if_pos hv, gw_it]
    have HG : Hid (∀ (u v : Int) (W : World), P50 u → P50 v → Calls Try.prog 52 #[.int .i64 u, .int .i64 v] W fun e w' => e = .returned (.int .i64 (gapI u v)) ∧ W = w') := fun u v W hu hv => gap_any u v W (by have := hu.1; omega) (by have := hu.2; omega) (by have := hv.1; omega) (by have := hv.2; omega)
    have HR := Lib.hid h.rd
    have Hn := Lib.hid h.len
    have H50 : Hid (∀ k x, k < n → zs.getD k 0 = x → P50 x) := fun k x hk hx => h50 x (by rw [← hx]; simp [List.getD, List.getElem?_eq_getElem (show k < zs.length by rw [h.len]; exact hk)])
    have HA0 : Hid (At ngL ngH ngW a b zs 0 0 a b) := ⟨by rw [List.drop_zero]; omega, by rw [List.drop_zero], by rw [List.drop_zero], ⟨ha, by omega⟩, ⟨by omega, hb⟩, hab, by omega, by omega⟩
    clear h hv h50 ha hab hb
    go_enter Try.func26, Try.ntmps26
    go_wp2_with fail
    refine H1.out.mono ?_
    rintro e w1 ⟨rfl, q, rfl⟩
    go_wp2
    go_loop [0, 1, 7, 8] (fun u v t i => ∃ k : Nat, ∃ t' lo hi : Int, k ≤ n ∧ i = .int .i64 k ∧ t = .int .i64 t' ∧ u = .int .i64 lo ∧ v = .int .i64 hi ∧ Hid (At ngL ngH ngW a b zs k t' lo hi)) (fun _ _ _ i => n - (intOf i).toNat)
    case atStart => exact ⟨0, 0, a, b, Nat.zero_le _, rfl, rfl, rfl, rfl, HA0⟩
    case round =>
      clear HA0
      obtain ⟨k, t', lo, hi, hk, rfl, rfl, rfl, rfl, HA⟩ := hrel
      by_cases hlt : k < n
      · obtain ⟨bx, ox, x, rfl, hbx, Hx, hcx⟩ := HR.out.x (k := k) (by rw [Hn.out]; exact hlt)
        have px := H50.out k x hlt Hx.out
        have plo := HA.out.plo
        have phi := HA.out.phi
        have hord := HA.out.ord
        have HA2 := Lib.hid (HA.out.step near_st (by rw [Hn.out]; exact hlt) Hx.out px)
        have g1 := gapI_nonneg lo x
        have g2 := gapI_nonneg hi x
        have g3 := gapI_in50 plo.1 plo.2 px.1 px.2
        have g4 := gapI_in50 phi.1 phi.2 px.1 px.2
        have ht0 := HA.out.t0
        have ht1 := HA.out.t1
        have hG1 := Lib.hid (HG.out lo x)
        have hG2 := Lib.hid (HG.out hi x)
        obtain ⟨d1, D1⟩ : ∃ d, Hid (gapI lo x = d) := ⟨_, rfl⟩
        obtain ⟨d2, D2⟩ : ∃ d, Hid (gapI hi x = d) := ⟨_, rfl⟩
        rw [D1.out] at g1 g3 hG1
        rw [D2.out] at g2 g4 hG2
        by_cases hle : d1 ≤ d2
        · have hl2 : ngL lo hi x = min x hi := by unfold ngL; rw [D1.out, D2.out, if_pos hle]
          have hh2 : ngH lo hi x = max x hi := by unfold ngH; rw [D1.out, D2.out, if_pos hle]
          have hd2 : ngW lo hi x = d1 := by unfold ngW; rw [D1.out, D2.out, if_pos hle]
          rw [hl2, hh2, hd2] at HA2
          clear hl2 hh2 hd2
          have hwt : IntKind.i64.wrap (t' + d1) = t' + d1 := IntWalk.i64_in _ (by omega)
          by_cases hsw : hi < x
          · rw [Int.min_eq_right (by omega), Int.max_eq_left (by omega)] at HA2
            go_wp2_with fail
            refine (hG1.out _ plo px).mono ?_
            rintro e w' ⟨rfl, rfl⟩
            go_wp2_with fail
            refine (hG2.out _ phi px).mono ?_
            rintro e w' ⟨rfl, rfl⟩
            go_wp2_with fail
            all_goals
              refine (hG1.out _ plo px).mono ?_
              rintro e w' ⟨rfl, rfl⟩
              go_wp2_with fail
              refine (hG2.out _ phi px).mono ?_
              rintro e w' ⟨rfl, rfl⟩
              go_wp2
              go_round
              case rel => exact ⟨k + 1, t' + d1, hi, x, by omega, by go_num, by first | rfl | (congr 1; omega), rfl, rfl, HA2⟩
              case measure => simp [intOf]; omega
          · rw [Int.min_eq_left (by omega), Int.max_eq_right (by omega)] at HA2
            go_wp2_with fail
            refine (hG1.out _ plo px).mono ?_
            rintro e w' ⟨rfl, rfl⟩
            go_wp2_with fail
            refine (hG2.out _ phi px).mono ?_
            rintro e w' ⟨rfl, rfl⟩
            go_wp2_with fail
            all_goals
              refine (hG1.out _ plo px).mono ?_
              rintro e w' ⟨rfl, rfl⟩
              go_wp2_with fail
              refine (hG2.out _ phi px).mono ?_
              rintro e w' ⟨rfl, rfl⟩
              go_wp2
              go_round
              case rel => exact ⟨k + 1, t' + d1, x, hi, by omega, by go_num, by first | rfl | (congr 1; omega), rfl, rfl, HA2⟩
              case measure => simp [intOf]; omega
        · have hl2 : ngL lo hi x = min lo x := by unfold ngL; rw [D1.out, D2.out, if_neg hle]
          have hh2 : ngH lo hi x = max lo x := by unfold ngH; rw [D1.out, D2.out, if_neg hle]
          have hd2 : ngW lo hi x = d2 := by unfold ngW; rw [D1.out, D2.out, if_neg hle]
          rw [hl2, hh2, hd2] at HA2
          clear hl2 hh2 hd2
          have hwt : IntKind.i64.wrap (t' + d2) = t' + d2 := IntWalk.i64_in _ (by omega)
          by_cases hsw : x < lo
          · rw [Int.min_eq_right (by omega), Int.max_eq_left (by omega)] at HA2
            go_wp2_with fail
            refine (hG1.out _ plo px).mono ?_
            rintro e w' ⟨rfl, rfl⟩
            go_wp2_with fail
            refine (hG2.out _ phi px).mono ?_
            rintro e w' ⟨rfl, rfl⟩
            go_wp2_with fail
            all_goals
              refine (hG1.out _ plo px).mono ?_
              rintro e w' ⟨rfl, rfl⟩
              go_wp2_with fail
              refine (hG2.out _ phi px).mono ?_
              rintro e w' ⟨rfl, rfl⟩
              go_wp2
              go_round
              case rel => exact ⟨k + 1, t' + d2, x, lo, by omega, by go_num, by first | rfl | (congr 1; omega), rfl, rfl, HA2⟩
              case measure => simp [intOf]; omega
          · rw [Int.min_eq_left (by omega), Int.max_eq_right (by omega)] at HA2
            go_wp2_with fail
            refine (hG1.out _ plo px).mono ?_
            rintro e w' ⟨rfl, rfl⟩
            go_wp2_with fail
            refine (hG2.out _ phi px).mono ?_
            rintro e w' ⟨rfl, rfl⟩
            go_wp2_with fail
            all_goals
              refine (hG1.out _ plo px).mono ?_
              rintro e w' ⟨rfl, rfl⟩
              go_wp2_with fail
              refine (hG2.out _ phi px).mono ?_
              rintro e w' ⟨rfl, rfl⟩
              go_wp2
              go_round
              case rel => exact ⟨k + 1, t' + d2, lo, x, by omega, by go_num, by first | rfl | (congr 1; omega), rfl, rfl, HA2⟩
              case measure => simp [intOf]; omega
      · obtain rfl : k = n := by omega
        obtain ⟨e1, -, -⟩ := HA.out.done (by rw [Hn.out]; omega)
        have E1 : Hid (gwv a b zs = t') := Hs.out.trans e1
        clear e1
        go_wp2
        go_ret
        exact ⟨ret_int E1.out.symm, below_drewN (Below.refl _ _) q⟩
  · have hv' : vcl a b zs = false := by simpa using hv
    rw [hv'] at H1
    have Hs : Hid (gwv a b zs = -1) := by show _ = _; unfold gwv; rw [if_neg hv]
    clear h hv hv'
    go_enter Try.func26, Try.ntmps26
    go_wp2_with fail
    refine H1.out.mono ?_
    rintro e w1 ⟨rfl, q, rfl⟩
    go_wp2
    go_ret
    exact ⟨ret_int Hs.out.symm, below_drewN (Below.refl _ _) q⟩
end Go.Proofs.Ythgllpiclaihjaa
