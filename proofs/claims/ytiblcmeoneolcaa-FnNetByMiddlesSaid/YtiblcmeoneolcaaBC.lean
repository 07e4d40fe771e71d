/-
  NetByMiddles of the model.
  Conditions: fewer than 2^60 streets.
-/
import Derived.Test.YtiblcmeoneolcaaBB
namespace Go.Proofs.Ytiblcmeoneolcaa
open Go.ChangeShapes Go.WideShapes Go.ChangeAt Go.RowKit
set_option linter.unusedVariables false
set_option maxRecDepth 4000

set_option maxHeartbeats 4000000 in
theorem sNetByMiddles_any (A : Option Addr) (c m : Nat) (n : Int) (ss : List Str) (w : World) (hr : RdS w w.heap.size A ss) (hm : ss.length = m) (hb : m ≤ 1152921504606846976) (hwf : (Lit.int .i64 n).wf = true) :
    Calls Try.prog 29 #[.int .i64 n, .slice A m c] w (NetAns w n ss) := by
  by_cases hv : vnet n ss = true
  · have H1 := Lib.hid (sValidNet_is A c m n ss w _ hr hm hb hwf hv)
    obtain ⟨n, rfl, hn1, hn7⟩ := vnet_nat hv
    have hve := vnet_empty hv
    have Ht := Lib.hid (netTable_any none 0 0 n [] w (RdS.nil _ _ _) rfl hve)
    have Hse := Lib.hid (fun (a b : Nat) (ha : a < n) (hb : b < n) => sht_empty hve ha hb)
    obtain ⟨-, h12, hok⟩ := (vnet_iff n ss).1 hv
    have Hok := Lib.hid hok
    have Hv := Lib.hid hv
    have Hm := Lib.hid hm
    rw [hm] at h12
    clear hv hm hwf hve hok
    go_enter Try.func29, Try.ntmps29
    go_wp2_with fail
    refine H1.out.mono ?_
    rintro e w' ⟨rfl, rfl⟩
    go_wp2_with fail
    refine Ht.out.mono ?_
    rintro e w1 ⟨v, VR, rfl, hO, hT, hnx1⟩
    obtain ⟨Ag, cA, rfl, -, -, hA⟩ := own_sliceN hO
    obtain ⟨g, rfl, -, -⟩ := hA (by omega)
    have HX0 := Lib.hid (TabX.congr (Y := ownX) ⟨hO, hT, hnx1⟩ Hse.out)
    clear hO hT hnx1 hA
    go_wp2
    go_loopw [6] (fun s wr => ∃ k : Nat, ∃ X, k ≤ m ∧ s = .int .i64 k ∧ Hid (Nb1 ss n k X) ∧ Hid (TabX w wr n g cA VR X)) (fun s _ => m - (intOf s).toNat)
    case atStart => exact ⟨0, ownX, Nat.zero_le _, rfl, nb1_start _ _, HX0⟩
    case round =>
      clear HX0
      obtain ⟨k, X, hk, rfl, HN, HX⟩ := hrel
      by_cases hltk : k < m
      · obtain ⟨bb, off, x, y, z, rfl, -, HP, hcx, hcy, hcz⟩ := (hr.below HX.out.bel).x (k := k) (by rw [Hm.out]; exact hltk)
        have hok := Hok.out _ (getD_mem3 (k := k) (by rw [Hm.out]; exact hltk))
        rw [HP.out] at hok
        obtain ⟨⟨hx0, hx1⟩, ⟨hy0, hy1⟩, hz1, hz9⟩ := hok
        simp only at hx0 hx1 hy0 hy1 hz1 hz9
        obtain ⟨u, rfl⟩ := Int.eq_ofNat_of_zero_le hx0
        obtain ⟨v, rfl⟩ := Int.eq_ofNat_of_zero_le hy0
        have hul : u < n := by omega
        have hvl : v < n := by omega
        have HL : Hid (1 ≤ z ∧ z ≤ 9) := ⟨hz1, hz9⟩
        obtain ⟨xu, HXu⟩ : ∃ x, Hid (X u v = x) := ⟨_, rfl⟩
        obtain ⟨gu, cu, hVu, cg, cc, ff⟩ := HX.out.cells hul hvl
        obtain ⟨gv, cv, hVv⟩ := HX.out.rowAt hvl
        have HVu := Lib.hid hVu
        have HVv := Lib.hid hVv
        rw [HXu.out] at cc
        clear hVu hVv
        by_cases hc : xu < 0 ∨ z < xu
        · have HN2 := Lib.hid (nb1_step HN.out (by rw [Hm.out]; exact hltk) HP.out hul hvl HL.out (by rw [HXu.out]; exact hc))
          obtain ⟨X', HX'⟩ : ∃ X', Hid (up2 (up2 X u v z) v u z = X') := ⟨_, rfl⟩
          rw [HX'.out] at HN2
          by_cases hc1 : xu < 0
          rotate_left
          have hc2 : z < xu := by omega
          all_goals
            clear hc
            go_wp2
            go_quiet (fail)
            have HX2 := Lib.hid (HX.out.drewN nq)
            have cg2 : (wr.drewN nq).cell? ⟨g, u, none⟩ = some (.slice (some ⟨gu, 0, none⟩) n cu) := cg
            have cc2 : (wr.drewN nq).cell? ⟨gu, v, none⟩ = some (.int .i64 xu) := cc
            have ff2 : (wr.drewN nq).frozen? ⟨gu, v, none⟩ = false := ff
            have cz2 : (wr.drewN nq).cell? ⟨bb, off + k * 3 + 2, none⟩ = some (.int .i64 z) := hcz
            clear cg cc ff hcx hcy hcz
            generalize wr.drewN nq = wq at HX2 cg2 cc2 ff2 cz2 ⊢
            have HX3 := Lib.hid (HX2.out.set z hul hvl HVu.out)
            go_wp2
            go_region
            all_goals
              have hx4 : TabX w (wq.setCell ⟨gu, v, none⟩ (.int .i64 z)).drew n g cA VR (up2 X u v z) := HX3.out.drewN 1
              clear cg2 cc2 ff2 cz2 HX2 HX3
              generalize (wq.setCell ⟨gu, v, none⟩ (.int .i64 z)).drew = W4 at hx4 ⊢
              have HX4 := Lib.hid hx4
              clear hx4
              obtain ⟨bb3, off3, x3, y3, z3, e3, -, HP3, -, -, cz3⟩ := (hr.below HX4.out.bel).x (k := k) (by rw [Hm.out]; exact hltk)
              injection e3 with e3
              injection e3 with e3 e4
              subst e3 e4
              have ez := HP3.out.symm.trans HP.out
              injection ez with ez1 ez
              injection ez with ez2 ez
              subst ez1 ez2 ez
              obtain ⟨cg3, cc3, ff3⟩ := HX4.out.cell hvl hul HVv.out
              obtain ⟨yv, Hyv⟩ : ∃ y, Hid (up2 X u v z3 v u = y) := ⟨_, rfl⟩
              rw [Hyv.out] at cc3
              have HX5 := Lib.hid (HX4.out.set z3 hvl hul HVv.out)
              rw [HX'.out] at HX5
              go_wp2
              go_region
              all_goals
                have HX6 := Lib.hid (HX5.out.drewN 1)
                go_wp2
                go_roundw
                case rel => exact ⟨k + 1, X', by omega, by go_num, HN2, HX6⟩
                case measure => simp [intOf]; omega
        · have hc1 : ¬ xu < 0 := by omega
          have hc2 : ¬ z < xu := by omega
          have hc3 : decide (xu < 0) = false := decide_eq_false hc1
          have HN2 := Lib.hid (nb1_skip HN.out HP.out (by rw [HXu.out]; exact hc))
          clear hc
          go_wp2
          go_quiet (fail)
          have HX2 := Lib.hid (HX.out.drewN nq)
          go_wp2
          go_roundw
          case rel => exact ⟨k + 1, X, by omega, by go_num, HN2, HX2⟩
          case measure => simp [intOf]; omega
      · obtain rfl : m = k := by omega
        have HN1 := Lib.hid (nb2_start (by rw [Hm.out]; exact HN.out))
        clear HN
        go_wp2
        go_loopw [9] (fun s wr => ∃ k : Nat, ∃ X, k ≤ n ∧ s = .int .i64 k ∧ Hid (Nb2 ss n k X) ∧ Hid (TabX w wr n g cA VR X)) (fun s _ => n - (intOf s).toNat)
        case atStart => exact ⟨0, X, Nat.zero_le _, rfl, HN1, HX⟩
        case round =>
          clear HX HN1
          obtain ⟨k, X, hk, rfl, HN, HX⟩ := hrel
          by_cases hltk : k < n
          · have h00 := HN.out.zero k hltk
            have H00 := Lib.hid h00
            have HX1 := Lib.hid (HX.out.congr (Y := fwM X k 0 0) fun i j _ _ => fwM_zero.symm)
            clear h00 HX
            go_wp2
            go_loopw [10] (fun s wr => ∃ a : Nat, a ≤ n ∧ s = .int .i64 a ∧ Hid (TabX w wr n g cA VR (fwM X k a 0))) (fun s _ => n - (intOf s).toNat)
            case atStart => exact ⟨0, Nat.zero_le _, rfl, HX1⟩
            case round =>
              clear HX1
              obtain ⟨a, ha, rfl, HX⟩ := hrel
              by_cases hlta : a < n
              · go_wp2
                go_loopw [11] (fun s wr => ∃ b : Nat, b ≤ n ∧ s = .int .i64 b ∧ Hid (TabX w wr n g cA VR (fwM X k a b))) (fun s _ => n - (intOf s).toNat)
                case atStart => exact ⟨0, Nat.zero_le _, rfl, HX⟩
                case round =>
                  clear HX
                  obtain ⟨b, hb, rfl, HX⟩ := hrel
                  by_cases hltb : b < n
                  · obtain ⟨ga, ca, hVa⟩ := HX.out.rowAt hlta
                    obtain ⟨gk, ck, hVk⟩ := HX.out.rowAt hltk
                    obtain ⟨cga, cak, -⟩ := HX.out.cell hlta hltk hVa
                    obtain ⟨-, cab, fab⟩ := HX.out.cell hlta hltb hVa
                    obtain ⟨cgk, ckb, -⟩ := HX.out.cell hltk hltb hVk
                    rw [fwM_col H00.out] at cak
                    rw [fwM_at] at cab
                    rw [fwM_row H00.out] at ckb
                    have b1 := HN.out.le (by omega) hlta hltk
                    have b2 := HN.out.le (by omega) hltk hltb
                    have b3 := HN.out.le (by omega) hlta hltb
                    obtain ⟨p, Hp⟩ : ∃ x, Hid (X a k = x) := ⟨_, rfl⟩
                    obtain ⟨q, Hq⟩ : ∃ x, Hid (X k b = x) := ⟨_, rfl⟩
                    obtain ⟨r, Hr⟩ : ∃ x, Hid (X a b = x) := ⟨_, rfl⟩
                    rw [Hp.out] at cak b1
                    rw [Hq.out] at ckb b2
                    rw [Hr.out] at cab b3
                    have w1 : IntKind.i64.wrap (p + q) = p + q := IntWalk.i64_in _ (by omega)
                    have HVa := Lib.hid hVa
                    clear hVa hVk
                    by_cases hc : 0 ≤ p ∧ 0 ≤ q ∧ (r < 0 ∨ p + q < r)
                    · obtain ⟨hp0, hq0, hr0⟩ := hc
                      have Hnext := Lib.hid (fwM_next (fwX_yes Hp.out Hq.out Hr.out hp0 hq0 hr0))
                      by_cases hr1 : r < 0
                      rotate_left
                      have hr2 : p + q < r := by omega
                      all_goals
                        clear hr0
                        go_wp2
                        go_quiet (fail)
                        have HX2 := Lib.hid (HX.out.drewN nq)
                        have cga2 : (wr.drewN nq).cell? ⟨g, a, none⟩ = some (.slice (some ⟨ga, 0, none⟩) n ca) := cga
                        have cgk2 : (wr.drewN nq).cell? ⟨g, k, none⟩ = some (.slice (some ⟨gk, 0, none⟩) n ck) := cgk
                        have cak2 : (wr.drewN nq).cell? ⟨ga, k, none⟩ = some (.int .i64 p) := cak
                        have ckb2 : (wr.drewN nq).cell? ⟨gk, b, none⟩ = some (.int .i64 q) := ckb
                        have cab2 : (wr.drewN nq).cell? ⟨ga, b, none⟩ = some (.int .i64 r) := cab
                        have fab2 : (wr.drewN nq).frozen? ⟨ga, b, none⟩ = false := fab
                        clear cga cgk cak ckb cab fab
                        generalize wr.drewN nq = wq at HX2 cga2 cgk2 cak2 ckb2 cab2 fab2 ⊢
                        have HX3 := Lib.hid ((HX2.out.set (p + q) hlta hltb HVa.out).congr (Y := fwM X k a (b + 1)) fun i j _ _ => Hnext.out i j)
                        go_wp2
                        go_region
                        all_goals
                          have HX4 := Lib.hid (HX3.out.drewN 1)
                          go_wp2
                          go_roundw
                          case rel => exact ⟨b + 1, by omega, by go_num, HX4⟩
                          case measure => simp [intOf]; omega
                    · have Hsame := Lib.hid (fwM_same (fwX_no Hp.out Hq.out Hr.out hc))
                      by_cases hp0 : p < 0
                      · have hd1 : decide (p ≥ 0) = false := decide_eq_false (by omega)
                        clear hc
                        go_wp2
                        go_quiet (fail)
                        have HX2 := Lib.hid ((HX.out.drewN nq).congr (Y := fwM X k a (b + 1)) fun i j _ _ => Hsame.out i j)
                        go_wp2
                        go_roundw
                        case rel => exact ⟨b + 1, by omega, by go_num, HX2⟩
                        case measure => simp [intOf]; omega
                      · have hp1 : 0 ≤ p := by omega
                        by_cases hq0 : q < 0
                        · have hd1 : decide (q ≥ 0) = false := decide_eq_false (by omega)
                          clear hc
                          go_wp2
                          go_quiet (fail)
                          have HX2 := Lib.hid ((HX.out.drewN nq).congr (Y := fwM X k a (b + 1)) fun i j _ _ => Hsame.out i j)
                          go_wp2
                          go_roundw
                          case rel => exact ⟨b + 1, by omega, by go_num, HX2⟩
                          case measure => simp [intOf]; omega
                        · have hq1 : 0 ≤ q := by omega
                          have hr1 : ¬ r < 0 := by omega
                          have hr2 : ¬ p + q < r := by omega
                          clear hc
                          go_wp2
                          go_quiet (fail)
                          have HX2 := Lib.hid ((HX.out.drewN nq).congr (Y := fwM X k a (b + 1)) fun i j _ _ => Hsame.out i j)
                          go_wp2
                          go_roundw
                          case rel => exact ⟨b + 1, by omega, by go_num, HX2⟩
                          case measure => simp [intOf]; omega
                  · obtain rfl : n = b := by omega
                    have HX2 := Lib.hid (HX.out.congr (Y := fwM X k (a + 1) 0) fun i j _ hj => fwM_line hj)
                    go_wp2
                    go_roundw
                    case rel => exact ⟨a + 1, by omega, by go_num, HX2⟩
                    case measure => simp [intOf]; omega
              · obtain rfl : n = a := by omega
                have HX2 := Lib.hid (HX.out.congr (Y := fwX X k) fun i j hi _ => fwM_end hi)
                have HN2 := Lib.hid (nb2_step HN.out hltk hn7)
                go_wp2
                go_roundw
                case rel => exact ⟨k + 1, fwX X k, by omega, by go_num, HN2, HX2⟩
                case measure => simp [intOf]; omega
          · obtain rfl : n = k := by omega
            have hsh := nb2_end Hv.out hn7 HN.out
            have HX2 := Lib.hid (HX.out.congr (Y := sht n ss) fun i j hi hj => sht_is Hv.out hsh hi hj)
            clear hsh
            go_wp2
            go_ret
            exact .inr ⟨Hv.out, _, VR, rfl, HX2.out.out, HX2.out.row, HX2.out.bel⟩
  · have hv' : vnet n ss = false := by simpa using hv
    have H1 := Lib.hid (sValidNet_is A c m n ss w _ hr hm hb hwf hv')
    have Hv := Lib.hid hv'
    clear hv hv' hr hm hwf
    go_enter Try.func29, Try.ntmps29
    go_wp2_with fail
    refine H1.out.mono ?_
    rintro e w' ⟨rfl, rfl⟩
    go_wp2
    go_ret
    exact .inl ⟨Hv.out, rfl, Below.refl _ _⟩
end Go.Proofs.Ytiblcmeoneolcaa
