/-
  FarthestFirst of the model.
  Conditions: fewer than 2^60 streets.
-/
import Derived.Test.YtiblcmeoneolcaaBE
import Derived.Test.YtiblcmeoneolcaaB3
import Derived.Deep.Onto
namespace Go.Proofs.Ytiblcmeoneolcaa
open Go.ChangeShapes Go.WideShapes Go.ChangeAt Go.RowKit
set_option linter.unusedVariables false
set_option maxRecDepth 4000

/-- A list of nodes in memory. -/
def natv (J : List Nat) : List Value := (J.map Int.ofNat).map (Value.int .i64)
theorem natv_len (J : List Nat) : (natv J).length = J.length := by simp [natv]
theorem natv_append (A B : List Nat) : natv (A ++ B) = natv A ++ natv B := by simp [natv]
theorem natv_at (J : List Nat) {i : Nat} (h : i < J.length) : (natv J)[i]? = some (.int .i64 ((J.getD i 0 : Nat) : Int)) := by
  simp [natv, List.getD, List.getElem?_eq_getElem h]
/-- What FarthestFirst answers: nil, or the nodes. -/
def FfAns (w : World) (n : Int) (ss : List Str) (k : Int) (e : Ending) (w' : World) : Prop :=
  (¬ (vnet n ss = true ∧ 1 ≤ k ∧ k ≤ 4) ∧ e = .returned (.slice none 0 0) ∧ Below w.heap.size w w') ∨
    ((vnet n ss = true ∧ 1 ≤ k ∧ k ≤ 4) ∧ ∃ v, e = .returned v ∧ w'.ownsRow w.heap.size 3 1 v (min k.toNat n.toNat) (natv (ffL (sht n.toNat ss) n.toNat (min k.toNat n.toNat - 1))) ∧ Below w.heap.size w w')
theorem ffB_yes {d : Nat → Nat → Int} {out : List Nat} {v : Nat} {y : Int} (hy : nrP d v out = y) (h : (ffB d out v).1 < y) : ffB d out (v + 1) = (y, (v : Int)) := by
  simp only [ffB]; rw [hy, if_pos h]
theorem ffB_no {d : Nat → Nat → Int} {out : List Nat} {v : Nat} {y : Int} (hy : nrP d v out = y) (h : ¬ (ffB d out v).1 < y) : ffB d out (v + 1) = ffB d out v := by
  simp only [ffB]; rw [hy, if_neg h]
theorem nrP_none {d : Nat → Nat → Int} {v : Nat} {out : List Nat} {y : Int} (h : wy d v out = y) (h0 : y < 0) : nrP d v out = 63 := by
  unfold nrP; rw [h, if_pos h0]
theorem nrP_some {d : Nat → Nat → Int} {v : Nat} {out : List Nat} {y : Int} (h : wy d v out = y) (h0 : 0 ≤ y) : nrP d v out = y := by
  unfold nrP; rw [h, if_neg (by omega)]
theorem ffL_pick {d : Nat → Nat → Int} {n : Nat} (hM : Met d n) (h1 : 1 ≤ n) {j : Nat} (hj : j + 1 < n) : ∃ b : Nat, (ffB d (ffL d n j) n).2 = b ∧ b < n ∧ ffL d n (j + 1) = ffL d n j ++ [b] := by
  obtain ⟨a1, a2⟩ := ffL_new hM h1 j (by omega)
  obtain ⟨x, hx, hxo⟩ := more_node (n := n) (P := ffL d n j) (by rw [ffL_len]; omega)
  have hpos := nrP_pos hM a1 hx hxo
  rcases ffB_cases d (ffL d n j) n with ⟨_, h2⟩ | ⟨b, hb, h2, h3, h4⟩
  · have := h2 x hx; omega
  · exact ⟨b, by rw [h2], hb, by simp only [ffL, h2]; rfl⟩

set_option maxHeartbeats 4000000 in
theorem sFarthest_any (A : Option Addr) (c m : Nat) (n : Int) (ss : List Str) (k : Int) (w : World) (hr : RdS w w.heap.size A ss) (hm : ss.length = m) (hb : m ≤ 1152921504606846976) (hwf : (Lit.int .i64 n).wf = true) :
    Calls Try.prog 37 #[.int .i64 n, .slice A m c, .int .i64 k] w (FfAns w n ss k) := by
  obtain ⟨i0, hi0, hz0, hz1, hz2⟩ := info_parts intInfo
  by_cases hv : vnet n ss = true
  · have H1 := Lib.hid (sValidNet_is A c m n ss w _ hr hm hb hwf hv)
    by_cases hf : k < 1 ∨ 4 < k
    · have H2 := Lib.hid (inRange_no k 1 4 w hf)
      have Hno : Hid (¬ (vnet n ss = true ∧ 1 ≤ k ∧ k ≤ 4)) := fun h => by omega
      clear hv hf hr hm hwf
      go_enter Try.func37, Try.ntmps37
      go_wp2_with fail
      refine H1.out.mono ?_
      rintro e w' ⟨rfl, rfl⟩
      go_wp2_with fail
      refine H2.out.mono ?_
      rintro e w' ⟨rfl, rfl⟩
      go_wp2
      go_ret
      exact .inl ⟨Hno.out, rfl, Below.refl _ _⟩
    · obtain ⟨n, rfl, hn1, hn7⟩ := vnet_nat hv
      obtain ⟨k, rfl⟩ := Int.eq_ofNat_of_zero_le (show 0 ≤ k by omega)
      have H2 := Lib.hid (inRange_yes k 1 4 w (by omega) (by omega))
      have Ht := Lib.hid (netTable_any A c m n ss w hr hm hv)
      have HMet := Lib.hid (sht_met hv)
      have Hyes : Hid (vnet n ss = true ∧ 1 ≤ (k : Int) ∧ (k : Int) ≤ 4) := ⟨hv, by omega, by omega⟩
      obtain ⟨X, HX⟩ : ∃ X, Hid (sht n ss = X) := ⟨_, rfl⟩
      rw [HX.out] at Ht HMet
      obtain ⟨M, HM⟩ : ∃ M, Hid (min k n = M) := ⟨_, rfl⟩
      have hM4 : 1 ≤ M ∧ M ≤ 4 ∧ M ≤ n := by have := HM.out; omega
      clear hv hr hm hwf
      by_cases hkn : (n : Int) < (k : Int)
      rotate_left
      have hkn2 : (k : Int) ≤ (n : Int) := by omega
      all_goals
        have hMk : M = min k n := HM.out.symm
        go_enter Try.func37, Try.ntmps37
        go_wp2_with fail
        refine H1.out.mono ?_
        rintro e w' ⟨rfl, rfl⟩
        go_wp2_with fail
        refine H2.out.mono ?_
        rintro e w' ⟨rfl, rfl⟩
        go_wp2_with fail
        refine Ht.out.mono ?_
        rintro e w4 ⟨v, VR, rfl, hO, hT, hnx4⟩
        obtain ⟨Ag, cg, rfl, -, -, hA⟩ := own_sliceN hO
        obtain ⟨g, rfl, -, -⟩ := hA (by omega)
        have HX4 := Lib.hid (show TabX w w4 n g cg VR X from ⟨hO, hT, hnx4⟩)
        have HO0 : Hid ((w4.alloc (.cells #[.int .i64 0] 3)).ownsRow w4.heap.size 3 1 (.slice (some ⟨w4.heap.size, 0, none⟩) 1 1) 1 (natv (ffL X n 0))) := World.ownsRow_lit w4 #[.int .i64 0] 1 (Nat.le_refl _) (by decide) rfl
        have HB0 := Lib.hid ((Below.refl w4.heap.size w4).alloc (Nat.le_refl _) (.cells #[.int .i64 0] 3))
        clear hO hT hnx4 hA
        go_wp2
        go_loopg [8] (M - 1) (fun gk o wr => ∃ j go cap : Nat, j + 1 ≤ M ∧ M - 1 - j ≤ gk ∧ o = .slice (some ⟨go, 0, none⟩) ((j + 1 : Nat) : Nat) cap ∧ Hid (wr.ownsRow w4.heap.size 3 1 (.slice (some ⟨go, 0, none⟩) (j + 1) cap) (j + 1) (natv (ffL X n j))) ∧ Hid (Below w4.heap.size w4 wr))
        case atStart => exact ⟨0, _, _, by omega, Nat.le_refl _, rfl, HO0, HB0⟩
        case round =>
          clear HO0 HB0
          obtain ⟨j, go, cap, hjM, hgk, rfl, HOj, HBj⟩ := hrel
          by_cases hlt : j + 1 < M
          · have hj1 : (j : Int) + 1 < (n : Int) := by omega
            have hj2 : (j : Int) + 1 < (k : Int) := by omega
            obtain ⟨b, hb, hbn, hnext⟩ := ffL_pick HMet.out hn1 (j := j) (by omega)
            obtain ⟨hOn, -⟩ := ffL_new HMet.out hn1 j (by omega)
            have hOl := ffL_len X n j
            have hnext' : natv (ffL X n (j + 1)) = natv (ffL X n j) ++ [.int .i64 b] := by rw [hnext, natv_append]; rfl
            have Hnext := Lib.hid hnext'
            obtain ⟨O, HOe⟩ : ∃ O, Hid (ffL X n j = O) := ⟨_, rfl⟩
            rw [HOe.out] at hb hOn hOl HOj Hnext
            have Hb := Lib.hid hb
            have HOn := Lib.hid hOn
            have HOl := Lib.hid hOl
            have HXW := Lib.hid (show TabX w wr n g cg VR X from ⟨ownN_below HX4.out.out HBj.out, HX4.out.row.below HBj.out, HX4.out.bel.trans (HBj.out.mono HX4.out.bel.size)⟩)
            obtain ⟨W, HW⟩ : ∃ W, Hid (wr = W) := ⟨_, rfl⟩
            rw [HW.out] at HOj HBj HXW
            clear hb hOn hOl hnext hnext'
            go_wp2
            go_loopw [9, 10, 11] (fun be mo v wi => ∃ u q : Nat, u ≤ n ∧ v = .int .i64 u ∧ be = .int .i64 (ffB X O u).2 ∧ mo = .int .i64 (ffB X O u).1 ∧ wi = W.drewN q) (fun _ _ v _ => n - (intOf v).toNat)
            case atStart => exact ⟨0, 0, Nat.zero_le _, rfl, rfl, rfl, HW.out⟩
            case round =>
              clear HW
              obtain ⟨u, q, hu, rfl, rfl, rfl, rfl⟩ := hrel
              obtain ⟨be, Hbe⟩ : ∃ x, Hid ((ffB X O u).2 = x) := ⟨_, rfl⟩
              obtain ⟨mo, Hmo⟩ : ∃ x, Hid ((ffB X O u).1 = x) := ⟨_, rfl⟩
              rw [Hbe.out, Hmo.out]
              by_cases hun : u < n
              · obtain ⟨gr, cr2, hVu⟩ := HXW.out.rowAt hun
                have HVu := Lib.hid hVu
                clear hVu
                go_wp2
                go_loopw [12, 13] (fun a jj wi => ∃ i q : Nat, i ≤ j + 1 ∧ jj = .int .i64 i ∧ a = .int .i64 (pkL (X u) (O.take i) (-1)) ∧ wi = W.drewN q) (fun _ jj _ => j + 1 - (intOf jj).toNat)
                case atStart => exact ⟨0, q, Nat.zero_le _, rfl, rfl, rfl⟩
                case round =>
                  obtain ⟨i, q, hi, rfl, rfl, rfl⟩ := hrel
                  obtain ⟨N, HN⟩ : ∃ N, Hid (pkL (X u) (O.take i) (-1) = N) := ⟨_, rfl⟩
                  rw [HN.out]
                  by_cases hiM : i < j + 1
                  · have hiM' : (i : Int) < (j : Int) + 1 := by omega
                    have hiJ : i < O.length := by rw [HOl.out]; exact hiM
                    obtain ⟨p, Hp⟩ : ∃ p, Hid (O.getD i 0 = p) := ⟨_, rfl⟩
                    have hpn : p < n := by rw [← Hp.out]; exact HOn.out _ (getD_in O hiJ)
                    have cO := HOj.out.cellAt i (by omega)
                    rw [natv_at O hiJ, Hp.out] at cO
                    obtain ⟨cgu, cup, -⟩ := HXW.out.cell hun hpn HVu.out
                    obtain ⟨y, Hy⟩ : ∃ y, Hid (X u p = y) := ⟨_, rfl⟩
                    rw [Hy.out] at cup
                    have hJi : Hid (O[i]? = some p) := by show _ = _; rw [getD_some O hiJ, Hp.out]
                    by_cases hc : 0 ≤ y ∧ (N < 0 ∨ y < N)
                    · obtain ⟨hy0, hyN⟩ := hc
                      have Hn := Lib.hid (pkL_yes hJi.out HN.out Hy.out hy0 hyN)
                      by_cases hN0 : N < 0
                      rotate_left
                      have hyN2 : y < N := by omega
                      all_goals
                        clear hyN
                        go_wp2
                        go_quiet (fail)
                        go_wp2
                        go_roundw
                        case rel => exact ⟨i + 1, _, by omega, by go_num, by rw [Hn.out], rfl⟩
                        case measure => simp [intOf]; omega
                    · have Hn := Lib.hid (pkL_no hJi.out HN.out Hy.out hc)
                      by_cases hy0 : 0 ≤ y
                      · have hN0 : ¬ N < 0 := by omega
                        have hyN : ¬ y < N := by omega
                        clear hc
                        go_wp2
                        go_quiet (fail)
                        go_wp2
                        go_roundw
                        case rel => exact ⟨i + 1, _, by omega, by go_num, by rw [Hn.out], rfl⟩
                        case measure => simp [intOf]; omega
                      · have hy1 : y < 0 := by omega
                        have hy2 : decide (y ≥ 0) = false := decide_eq_false (by omega)
                        clear hc
                        go_wp2
                        go_quiet (fail)
                        go_wp2
                        go_roundw
                        case rel => exact ⟨i + 1, _, by omega, by go_num, by rw [Hn.out], rfl⟩
                        case measure => simp [intOf]; omega
                  · have hij : i = j + 1 := by omega
                    have hiM' : ¬ (i : Int) < (j : Int) + 1 := by omega
                    have hwy : wy X u O = N := by
                      have := HN.out
                      rw [List.take_of_length_le (by rw [HOl.out]; omega)] at this
                      exact this
                    clear hij
                    by_cases hN0 : N < 0
                    · have hnr := nrP_none hwy hN0
                      by_cases hmo : mo < 63
                      · have Hn := Lib.hid (ffB_yes hnr (by rw [Hmo.out]; exact hmo))
                        clear hwy hnr
                        go_wp2
                        go_roundw
                        case rel => exact ⟨u + 1, _, by omega, by go_num, by rw [Hn.out], by rw [Hn.out], rfl⟩
                        case measure => simp [intOf]; omega
                      · have Hn := Lib.hid (ffB_no hnr (by rw [Hmo.out]; exact hmo))
                        clear hwy hnr
                        go_wp2
                        go_roundw
                        case rel => exact ⟨u + 1, _, by omega, by go_num, by rw [Hn.out, Hbe.out], by rw [Hn.out, Hmo.out], rfl⟩
                        case measure => simp [intOf]; omega
                    · have hnr := nrP_some hwy (by omega)
                      by_cases hmo : mo < N
                      · have Hn := Lib.hid (ffB_yes hnr (by rw [Hmo.out]; exact hmo))
                        clear hwy hnr
                        go_wp2
                        go_roundw
                        case rel => exact ⟨u + 1, _, by omega, by go_num, by rw [Hn.out], by rw [Hn.out], rfl⟩
                        case measure => simp [intOf]; omega
                      · have Hn := Lib.hid (ffB_no hnr (by rw [Hmo.out]; exact hmo))
                        clear hwy hnr
                        go_wp2
                        go_roundw
                        case rel => exact ⟨u + 1, _, by omega, by go_num, by rw [Hn.out, Hbe.out], by rw [Hn.out, Hmo.out], rfl⟩
                        case measure => simp [intOf]; omega
              · obtain rfl : n = u := by omega
                have hbeb : be = (b : Int) := by rw [← Hbe.out, Hb.out]
                subst hbeb
                have hOq : (W.drewN q).ownsRow w4.heap.size 3 1 (.slice (some ⟨go, 0, none⟩) (j + 1) cap) (j + 1) (natv O) := HOj.out
                have hBq := below_drewN HBj.out q
                clear HOj HBj HXW
                generalize W.drewN q = Wq at hOq hBq ⊢
                have HOq := Lib.hid hOq
                have HBq := Lib.hid hBq
                have HL0 : Hid ((Wq.alloc (.cells #[] 3)).ownsRow w4.heap.size 3 1 (.slice (some ⟨Wq.heap.size, 0, none⟩) 0 0) 0 []) := World.ownsRow_lit Wq #[] 0 hBq.size (by decide) rfl
                have hnews : ∀ i x, (natv O)[i]? = some x → (Wq.alloc (.cells #[] 3)).cell? ((⟨go, 0, none⟩ : Addr).add i) = some x := fun i x hx => by
                  have hi : i < j + 1 := by
                    have := (List.getElem?_eq_some_iff.1 hx).1
                    rw [natv_len, HOl.out] at this; exact this
                  rw [addr_add0, (hOq.alloc _).cellAt i (by omega)]; exact hx
                have Hnews := Lib.hid hnews
                have hlen : (natv O).length = (j + 1) * 1 := by rw [natv_len, HOl.out]; omega
                have hone : ∀ x ∈ natv O, x.oneCell' = true := ints_one _
                have Hone := Lib.hid hone
                have hsz0 : w4.heap.size ≤ (Wq.alloc (.cells #[] 3)).heap.size := by show _ ≤ (Wq.heap.push _).size; have := hBq.size; simp; omega
                have hrow0 : ∀ g, (Value.slice (some ⟨Wq.heap.size, 0, none⟩) 0 0).ownBlock = some g → w4.heap.size ≤ g := fun g h => by
                  have h2 : Wq.heap.size = g := by simpa [Value.ownBlock] using h
                  have := hBq.size; omega
                have Hrow0 := Lib.hid hrow0
                have hs1 : j + 1 + 1 ≤ maxLen := by unfold maxLen; omega
                have hs2 : (j + 1 + 1) * 8 ≤ 140737488355328 := by omega
                clear hOq hBq hnews hone hrow0
                go_wp2_with (first
                  | (at_builtin; refine wpList_append_own _ rfl _ _ 36 rfl w4.heap.size 3 i0 (.int .i64 0) 1 8 Try.underlying36 hi0 hz0 hz1 hz2 rfl (by decide) _ _ _ rfl HL0.out ⟨go, 0, none⟩ (j + 1) cap (natv O) rfl hlen Hnews.out Hone.out (by unfold maxLen; omega) (by omega) hsz0 ?_; intro v2 w2 hown2 hg2 _
                     have hB2 : Below w4.heap.size w4 w2 := (HBq.out.alloc HBq.out.size _).grown hg2 hsz0 Hrow0.out
                     have HB2 := Lib.hid hB2
                     rw [Nat.zero_add, List.nil_append] at hown2
                     obtain ⟨g2, cap2, rfl, -, -⟩ := hown2.form (by omega)
                     have Hown2 := Lib.hid hown2
                     have hsz2 : ∀ o, w4.heap.size ≤ (w2.alloc o).heap.size := fun o => by show _ ≤ (w2.heap.push o).size; have := hB2.size; simp; omega
                     have Hsz2 := Lib.hid hsz2
                     clear hown2 hg2 hB2 hsz2)
                  | (at_builtin; refine wpList_append_own _ rfl _ _ 36 rfl w4.heap.size 3 i0 (.int .i64 0) 1 8 Try.underlying36 hi0 hz0 hz1 hz2 rfl (by decide) _ _ _ rfl (Hown2.out.alloc _) ⟨w2.heap.size, 0, none⟩ 1 1 [.int .i64 b] rfl rfl (cell_one_new _ _ _) (by intro u hu; simp at hu; subst hu; rfl) hs1 hs2 (Hsz2.out _) ?_; intro v3 w3 hown3 hg3 _
                     have hB3 : Below w4.heap.size w4 w3 := (HB2.out.alloc HB2.out.size _).grown hg3 (Hsz2.out _) (fun g h => (Hown2.out.lt g h).1)
                     have HB3 := Lib.hid hB3
                     obtain ⟨g3, cap3, rfl, -, -⟩ := hown3.form (by omega)
                     have Hown3 := Lib.hid hown3
                     clear hown3 hg3 hB3))
                have HOW : Hid (w3.ownsRow w4.heap.size 3 1 (.slice (some ⟨g3, 0, none⟩) (j + 1 + 1) cap3) (j + 1 + 1) (natv (ffL X n (j + 1)))) := by show _; rw [Hnext.out]; exact Hown3.out
                go_wp2
                go_roundg (M - 1 - (j + 1))
                case measure => omega
                case rel => exact ⟨j + 1, g3, cap3, by omega, Nat.le_refl _, rfl, HOW, HB3⟩
          · obtain hjM2 : j + 1 = M := by omega
            have HOE : Hid (wr.ownsRow w.heap.size 3 1 (.slice (some ⟨go, 0, none⟩) (j + 1) cap) (min (k : Int).toNat (n : Int).toNat) (natv (ffL (sht (n : Int).toNat ss) (n : Int).toNat (min (k : Int).toNat (n : Int).toNat - 1)))) := by
              show wr.ownsRow _ _ _ _ _ _
              rw [Int.toNat_natCast, Int.toNat_natCast, HM.out, HX.out, ← hjM2]
              exact HOj.out.mono HX4.out.bel.size
            have HBE := Lib.hid (HX4.out.bel.trans (HBj.out.mono HX4.out.bel.size))
            clear HOj HBj
            first
              | have hj1 : ¬ (j : Int) + 1 < (k : Int) := by omega
              | have hj1 : ¬ (j : Int) + 1 < (n : Int) := by omega
            clear hjM2 hMk
            go_wp2
            go_ret
            exact .inr ⟨Hyes.out, _, rfl, HOE.out, HBE.out⟩
  · have hv' : vnet n ss = false := by simpa using hv
    have Hno : Hid (¬ (vnet n ss = true ∧ 1 ≤ k ∧ k ≤ 4)) := fun h => hv h.1
    have H1 := Lib.hid (sValidNet_is A c m n ss w _ hr hm hb hwf hv')
    clear hv hv' hr hm hwf
    go_enter Try.func37, Try.ntmps37
    go_wp2_with fail
    refine H1.out.mono ?_
    rintro e w' ⟨rfl, rfl⟩
    go_wp2
    go_ret
    exact .inl ⟨Hno.out, rfl, Below.refl _ _⟩
def IRow (F : Nat) : Prop := ∀ (A : Option Addr) (c m : Nat) (n : Int) (ss : List Str) (k : Int) (w : World), NetIn w A c m n ss → (Lit.int .i64 k).wf = true →
  Calls Try.prog F #[.int .i64 n, .slice A m c, .int .i64 k] w (FfAns w n ss k)
end Go.Proofs.Ytiblcmeoneolcaa
