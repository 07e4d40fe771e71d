/-
  NetTable of the model, walked: the table of own ways, made shorter street by street until nothing changes.
  Conditions: the streets are a net.
  Nets: the table of shortest ways node by node, each one more a node in the middle.
  Conditions: as each theorem states.
  ValidNet of the model.
  Conditions: fewer than 2^60 streets.
-/
import Derived.Test.YtdhelapgdgekfaaZ4
import Derived.Test.YtdhelapgdgekfaaZ2
import Derived.Deep.LoopGhost
import Derived.BigRegion
import Derived.OneCell
import Derived.Maps.AppendAt
namespace Go.Proofs.Ytdhelapgdgekfaa
open Go.ChangeShapes Go.WideShapes Go.ChangeAt Go.RowKit
set_option linter.unusedVariables false
set_option maxRecDepth 4000

set_option maxHeartbeats 1600000 in
theorem netTable_any (A : Option Addr) (c m n : Nat) (ss : List Str) (w : World) (hr : RdS w w.heap.size A ss) (hm : ss.length = m) (hv : vnet n ss = true) :
    Calls Try.prog 90 #[.int .i64 n, .slice A m c] w (NTab w n (sht n ss)) := by
  obtain ⟨ii, hii, hzi0, hzi1, hzi2⟩ := info_parts intInfo
  obtain ⟨is, his, hzs0, hzs1, hzs2⟩ := info_parts slInfo2
  obtain ⟨h17, h12, hok⟩ := (vnet_iff n ss).1 hv
  have hn7 : n ≤ 7 := by omega
  have hm12 : m ≤ 12 := by omega
  have Hm := Lib.hid hm
  have Hv := Lib.hid hv
  have Hok := Lib.hid hok
  have hb0 := (Below.refl w.heap.size w).alloc (Nat.le_refl _) (.cells #[] 37)
  have ho0 : Outer (w.alloc (.cells #[] 37)) w.heap.size 0 (.slice (some ⟨w.heap.size, 0, none⟩) 0 0) (fun _ => .nilIface) := World.ownsRow_lit w #[] 0 (Nat.le_refl _) (by decide) rfl
  have ht0 : TT (w.alloc (.cells #[] 37)) w.heap.size 0 (fun _ => .nilIface) (rowX ownX n) := ⟨fun j hj => by omega, fun i j g hi => by omega⟩
  have HB0 := Lib.hid hb0
  have HO0 := Lib.hid ho0
  have HT0 := Lib.hid ht0
  clear hb0 ho0 ht0 hm hv hok h12
  go_enter Try.func90, Try.ntmps90
  go_wp2
  go_loopw [5, 6] (fun v i wr => RowsRel w n v i wr) (fun _ i _ => n - (intOf i).toNat)
  case atStart => exact ⟨0, _, _, _, Nat.zero_le _, rfl, rfl, HO0.out, HT0.out, HB0.out⟩
  case round =>
    clear HO0 HT0 HB0
    obtain ⟨a, VR, g, cA, ha, rfl, rfl, ho, hT, hnx⟩ := hrel
    by_cases hlt : a < n
    · have HO := Lib.hid ho
      have HT := Lib.hid hT
      have HB := Lib.hid hnx
      have HR0 := Lib.hid (show (wr.alloc (.cells #[] 3)).ownsRow wr.heap.size 3 1 (.slice (some ⟨wr.heap.size, 0, none⟩) 0 0) 0 [] from World.ownsRow_lit wr #[] 0 (Nat.le_refl _) (by decide) rfl)
      have HB1 := Lib.hid ((Below.refl wr.heap.size wr).alloc (Nat.le_refl _) (.cells #[] 3))
      clear ho hT hnx
      obtain ⟨W, HW⟩ : ∃ W, Hid (wr = W) := ⟨_, rfl⟩
      go_wp2
      go_loopw [7, 8] (fun r k wi => RowRelX W n a r k wi) (fun _ k _ => n - (intOf k).toNat)
      case atStart =>
        have := HW.out
        subst this
        exact ⟨0, Nat.zero_le _, rfl, by simpa [rowX] using HR0.out, HB1.out⟩
      case round =>
        clear HR0 HB1
        obtain ⟨j, hj, rfl, hown, hnx⟩ := hrel
        by_cases hjn : j < n
        · have hs1 : j + 1 ≤ maxLen := by unfold maxLen; omega
          have hs2 : (j + 1) * 8 ≤ 140737488355328 := by omega
          have hs3 : ∀ o, W.heap.size ≤ (wr.alloc o).heap.size := fun o => by rw [show (wr.alloc o).heap.size = wr.heap.size + 1 by show (wr.heap.push o).size = _; simp]; have := hnx.size; omega
          have Hs3 := Lib.hid hs3
          have Hown := Lib.hid hown
          have Hnx := Lib.hid hnx
          clear hown hnx hs3
          by_cases haj : a = j
          · have hx : Hid (ownX a j = 0) := by show _ = _; unfold ownX; rw [if_pos haj]
            have hb1 : ((a : Int) == (j : Int)) = true := by rw [beq_iff_eq]; omega
            clear haj
            go_wp2_with (at_builtin; refine wpList_append_own _ rfl _ _ 37 rfl W.heap.size 3 ii _ 1 8 Try.underlying37 hii hzi0 hzi1 hzi2 rfl (by decide) _ _ _ rfl (Hown.out.alloc _) ⟨_, 0, none⟩ 1 1 [.int .i64 0] rfl rfl (cell_one_new _ _ _) (by intro u hu; simp at hu; subst hu; rfl) hs1 hs2 (Hs3.out _) ?_; intro v' w3 hown' hgrow _)
            have hb3 : Below W.heap.size W w3 := (Hnx.out.alloc Hnx.out.size _).grown hgrow (Hs3.out _) (fun g h => (Hown.out.lt g h).1)
            have Hown' := Lib.hid hown'
            have Hb3 := Lib.hid hb3
            clear hown' hgrow hb3
            go_wp2
            go_roundw
            case rel => exact ⟨j + 1, by omega, by go_num, by rw [rowX_step, hx.out]; simpa using Hown'.out, Hb3.out⟩
            case measure => simp [intOf]; omega
          · have hx : Hid (ownX a j = -1) := by show _ = _; unfold ownX; rw [if_neg haj]
            have hb1 : ((a : Int) == (j : Int)) = false := by rw [beq_eq_false_iff_ne]; omega
            go_wp2_with (at_builtin; refine wpList_append_own _ rfl _ _ 37 rfl W.heap.size 3 ii _ 1 8 Try.underlying37 hii hzi0 hzi1 hzi2 rfl (by decide) _ _ _ rfl (Hown.out.alloc _) ⟨_, 0, none⟩ 1 1 [.int .i64 (-1)] rfl rfl (cell_one_new _ _ _) (by intro u hu; simp at hu; subst hu; rfl) hs1 hs2 (Hs3.out _) ?_; intro v' w3 hown' hgrow _)
            have hb3 : Below W.heap.size W w3 := (Hnx.out.alloc Hnx.out.size _).grown hgrow (Hs3.out _) (fun g h => (Hown.out.lt g h).1)
            have Hown' := Lib.hid hown'
            have Hb3 := Lib.hid hb3
            clear hown' hgrow hb3
            go_wp2
            go_roundw
            case rel => exact ⟨j + 1, by omega, by go_num, by rw [rowX_step, hx.out]; simpa using Hown'.out, Hb3.out⟩
            case measure => simp [intOf]; omega
        · obtain rfl : j = n := by omega
          have e := HW.out
          subst e
          obtain ⟨Ar, cr, rfl, -, -, hA⟩ := own_sliceN hown
          obtain ⟨gr, rfl, -, -⟩ := hA (by omega)
          have hT2 := (HT.out.addRow HB.out.size hnx (rowX_len _ _ _) hown).congr (ls' := rowX ownX j) (fun i hi => by
            by_cases e : i = a
            · subst e; rw [upd_at]
            · rw [upd_other _ _ e])
          have ho2 := ownN_below HO.out hnx
          have hb2 := HB.out.trans (hnx.mono HB.out.size)
          have HT2 := Lib.hid hT2
          have HO2 := Lib.hid ho2
          have HB2 := Lib.hid hb2
          clear hT2 ho2 hb2 hown hnx hA HW
          have hs1 : a + 1 ≤ maxLen := by unfold maxLen; omega
          have hs2 : (a + 1) * 24 ≤ 140737488355328 := by omega
          have hs3 : ∀ o, w.heap.size ≤ (wr.alloc o).heap.size := fun o => by rw [show (wr.alloc o).heap.size = wr.heap.size + 1 by show (wr.heap.push o).size = _; simp]; have := HB2.out.size; omega
          have Hs3 := Lib.hid hs3
          clear hs3
          go_wp2_with (at_builtin; refine wpList_append_lies _ rfl _ _ 25 rfl w.heap.size 37 is _ 1 24 Try.underlying25 his hzs0 hzs1 hzs2 rfl (by decide) _ _ _ rfl (World.ownsRow.alloc HO2.out _) ⟨_, 0, none⟩ 1 1 [.slice (some ⟨gr, 0, none⟩) j cr] rfl rfl (cell_one_new _ _ _) (by intro u hu; simp at hu; subst hu; rfl) (by decide) hs1 hs2 (Hs3.out _) _ rfl ?_; intro g3 c3 w3 hown3 hgrow3 hat3 hlt3)
          obtain ⟨ho3, hT3, hb3⟩ := tabX_end HT2.out HO2.out HB2.out hown3 hgrow3 (by show (wr.heap.push _).size = _; simp)
          have HT3 := Lib.hid hT3
          have HO3 := Lib.hid ho3
          have HB3 := Lib.hid hb3
          clear hown3 hgrow3 hat3 hlt3 hT3 ho3 hb3
          go_wp2
          go_roundw
          case rel => exact ⟨a + 1, _, _, _, by omega, by go_num, rfl, HO3.out, HT3.out, HB3.out⟩
          case measure => simp [intOf]; omega
    · obtain rfl : n = a := by omega
      have HO1 := Lib.hid ho
      have HT1 := Lib.hid hT
      have HB1 := Lib.hid hnx
      clear ho hT hnx
      go_wp2
      go_loopg [10] (totX ownX n + 1) (fun gk ch wr => ∃ X b, ch = .bool b ∧ (b = true → totX X n + 1 ≤ gk) ∧ Hid (Rlx ss n X) ∧ Hid (b = false → Seen X n ss m 0 0) ∧ Hid (Outer wr w.heap.size n (.slice (some ⟨g, 0, none⟩) n cA) VR) ∧ Hid (TT wr w.heap.size n VR (rowX X n)) ∧ Hid (Below w.heap.size w wr))
      case atStart => exact ⟨ownX, true, rfl, fun _ => Nat.le_refl _, rlx_start ss n, (fun h => by cases h), HO1, HT1, HB1⟩
      case round =>
        clear HO1 HT1 HB1
        obtain ⟨X0, b0, rfl, hg0, HX0, HS0, HO0, HT0, HB0⟩ := hrel
        cases b0 with
        | false =>
          have hsh := seen_short Hv.out HX0.out (by rw [Hm.out]; exact HS0.out rfl)
          have HTe := Lib.hid (HT0.out.congr (ls' := rowX (sht n ss) n) (fun j hj => rowX_congr fun b hb => sht_is Hv.out hsh hj hb))
          clear hsh
          go_wp2
          go_ret
          exact ⟨_, VR, rfl, HO0.out, HTe.out, HB0.out⟩
        | true =>
          have hgk := hg0 rfl
          clear hg0 HS0
          have HCs : Hid (Chg X0 X0 n false (Seen X0 n ss 0 0 0)) := .inr ⟨rfl, rfl, seen_start _ _ _⟩
          go_wp2
          go_loopw [10, 11] (fun ch s wr => ∃ k : Nat, k ≤ m ∧ s = .int .i64 k ∧ NetRel w ss n g cA VR X0 k 0 0 ch wr) (fun _ s _ => m - (intOf s).toNat)
          case atStart => exact ⟨0, Nat.zero_le _, rfl, X0, false, rfl, HX0.out, HCs.out, HO0.out, HT0.out, HB0.out⟩
          case round =>
            clear HX0 HCs HO0 HT0 HB0
            obtain ⟨k, hk, rfl, X, b, rfl, hX, hC, hO, hT, hB⟩ := hrel
            have HX := Lib.hid hX
            have HC := Lib.hid hC
            have HO := Lib.hid hO
            have HT := Lib.hid hT
            have HB := Lib.hid hB
            clear hX hC hO hT hB
            by_cases hltk : k < m
            · go_wp2
              go_loopw [10, 12] (fun ch s wr => ∃ a : Nat, a ≤ n ∧ s = .int .i64 a ∧ NetRel w ss n g cA VR X0 k a 0 ch wr) (fun _ s _ => n - (intOf s).toNat)
              case atStart => exact ⟨0, Nat.zero_le _, rfl, X, b, rfl, HX.out, HC.out, HO.out, HT.out, HB.out⟩
              case round =>
                clear HX HC HO HT HB
                obtain ⟨a, hak, rfl, X, b, rfl, hX, hC, hO, hT, hB⟩ := hrel
                have HX := Lib.hid hX
                have HC := Lib.hid hC
                have HO := Lib.hid hO
                have HT := Lib.hid hT
                have HB := Lib.hid hB
                clear hX hC hO hT hB
                by_cases hlta : a < n
                · go_wp2
                  go_loopw [10, 13] (fun ch s wr => ∃ t : Nat, t ≤ 2 ∧ s = .int .i64 t ∧ NetRel w ss n g cA VR X0 k a t ch wr) (fun _ s _ => 2 - (intOf s).toNat)
                  case atStart => exact ⟨0, by omega, rfl, X, b, rfl, HX.out, HC.out, HO.out, HT.out, HB.out⟩
                  case round =>
                    clear HX HC HO HT HB
                    obtain ⟨t, ht2, rfl, X, b, rfl, hX, hC, hO, hT, hB⟩ := hrel
                    by_cases hlt2 : t < 2
                    · obtain ⟨bb, off, x, y, z, rfl, -, HP, hcx, hcy, hcz⟩ := (hr.below hB).x (k := k) (by rw [Hm.out]; exact hltk)
                      have hok := Hok.out _ (getD_mem3 (k := k) (by rw [Hm.out]; exact hltk))
                      rw [HP.out] at hok
                      obtain ⟨⟨hx0, hx1⟩, ⟨hy0, hy1⟩, hz1, hz9⟩ := hok
                      simp only at hx0 hx1 hy0 hy1 hz1 hz9
                      obtain ⟨u, rfl⟩ := Int.eq_ofNat_of_zero_le hx0
                      obtain ⟨v, rfl⟩ := Int.eq_ofNat_of_zero_le hy0
                      have hul : u < n := by omega
                      have hvl : v < n := by omega
                      have HL : Hid (1 ≤ z ∧ z ≤ 9) := ⟨hz1, hz9⟩
                      by_cases ht0 : t = 0
                      · subst ht0
                        obtain ⟨xp, HXp⟩ : ∃ x, Hid (X a u = x) := ⟨_, rfl⟩
                        obtain ⟨xq, HXq⟩ : ∃ x, Hid (X a v = x) := ⟨_, rfl⟩
                        obtain ⟨gr, cr, hVR, cg, cp, fp⟩ := tab_cells hO hT hlta hul
                        obtain ⟨gr', cr', hVR', -, cq, fq⟩ := tab_cells hO hT hlta hvl
                        have hsame := hVR.symm.trans hVR'
                        injection hsame with e1 e2 e3
                        injection e1 with e1
                        injection e1 with e1
                        subst e1 e3
                        have hXp := hX.le hn7 hlta hul
                        have hXq := hX.le hn7 hlta hvl
                        rw [HXp.out] at cp hXp
                        rw [HXq.out] at cq hXq
                        have w1 : IntKind.i64.wrap (xp + z) = xp + z := IntWalk.i64_in _ (by omega)
                        obtain ⟨X', HX'⟩ : ∃ X', Hid (up2 X a v (xp + z) = X') := ⟨_, rfl⟩
                        have Hedge : Hid (SE ss u v z) := ⟨_, getD_mem3 (by rw [Hm.out]; exact hltk), by rw [HP.out], by rw [HP.out]; exact .inl ⟨rfl, rfl⟩⟩
                        have HVR := Lib.hid hVR
                        have HX := Lib.hid hX
                        have HC := Lib.hid hC
                        have HO := Lib.hid hO
                        have HT := Lib.hid hT
                        have HB := Lib.hid hB
                        clear hX hC hO hT hB hVR hVR' fp
                        by_cases hp0 : 0 ≤ xp
                        · by_cases hq0 : xq < 0
                          · have HX2 := Lib.hid (rlx_step HX.out hlta hul hvl Hedge.out HL.out (by rw [HXp.out]; exact hp0) (by rw [HXp.out, HXq.out]; exact .inl hq0))
                            have HC2 := Lib.hid (Chg.step (D := Seen X' n ss k a 1) HC.out (show totX X' n < totX X n by rw [← HX'.out]; exact totX_step hlta hvl (by omega) (by rw [HXq.out]; exact .inl hq0)))
                            rw [HXp.out, HX'.out] at HX2
                            go_wp2
                            go_quiet (fail)
                            have hO2 := HO.out.drewN nq
                            have hT2 := HT.out.drewN nq
                            have hB2 := below_drewN HB.out nq
                            have cg2 : (wr.drewN nq).cell? ⟨g, a, none⟩ = some (.slice (some ⟨gr, 0, none⟩) n cr) := cg
                            have cp2 : (wr.drewN nq).cell? ⟨gr, u, none⟩ = some (.int .i64 xp) := cp
                            have cq2 : (wr.drewN nq).cell? ⟨gr, v, none⟩ = some (.int .i64 xq) := cq
                            have fq2 : (wr.drewN nq).frozen? ⟨gr, v, none⟩ = false := fq
                            have cz2 : (wr.drewN nq).cell? ⟨bb, off + k * 3 + 2, none⟩ = some (.int .i64 z) := hcz
                            clear cg cp cq fq hcx hcy hcz
                            generalize wr.drewN nq = wq at hO2 hT2 hB2 cg2 cp2 cq2 fq2 cz2 ⊢
                            obtain ⟨hO3, hT3, hgB⟩ := tab_set (xp + z) hO2 hT2 hlta hvl HVR.out
                            rw [HX'.out] at hT3
                            have HO3 := Lib.hid hO3
                            have HT3 := Lib.hid hT3
                            have HB3 := Lib.hid (hB2.setCell (p := ⟨gr, v, none⟩) hgB (.int .i64 (xp + z)))
                            clear hO2 hT2 hB2 hO3 hT3
                            go_wp2
                            go_region
                            all_goals
                              have HO4 := Lib.hid (HO3.out.drewN 1)
                              have HT4 := Lib.hid (HT3.out.drewN 1)
                              have HB4 := Lib.hid (below_drewN HB3.out 1)
                              go_wp2
                              go_roundw
                              case rel => exact ⟨1, by omega, by go_num, X', true, rfl, HX2.out, HC2.out, HO4.out, HT4.out, HB4.out⟩
                              case measure => simp [intOf]
                          · by_cases hl : xp + z < xq
                            · have HX2 := Lib.hid (rlx_step HX.out hlta hul hvl Hedge.out HL.out (by rw [HXp.out]; exact hp0) (by rw [HXp.out, HXq.out]; exact .inr hl))
                              have HC2 := Lib.hid (Chg.step (D := Seen X' n ss k a 1) HC.out (show totX X' n < totX X n by rw [← HX'.out]; exact totX_step hlta hvl (by omega) (by rw [HXq.out]; exact .inr hl)))
                              rw [HXp.out, HX'.out] at HX2
                              go_wp2
                              go_quiet (fail)
                              have hO2 := HO.out.drewN nq
                              have hT2 := HT.out.drewN nq
                              have hB2 := below_drewN HB.out nq
                              have cg2 : (wr.drewN nq).cell? ⟨g, a, none⟩ = some (.slice (some ⟨gr, 0, none⟩) n cr) := cg
                              have cp2 : (wr.drewN nq).cell? ⟨gr, u, none⟩ = some (.int .i64 xp) := cp
                              have cq2 : (wr.drewN nq).cell? ⟨gr, v, none⟩ = some (.int .i64 xq) := cq
                              have fq2 : (wr.drewN nq).frozen? ⟨gr, v, none⟩ = false := fq
                              have cz2 : (wr.drewN nq).cell? ⟨bb, off + k * 3 + 2, none⟩ = some (.int .i64 z) := hcz
                              clear cg cp cq fq hcx hcy hcz
                              generalize wr.drewN nq = wq at hO2 hT2 hB2 cg2 cp2 cq2 fq2 cz2 ⊢
                              obtain ⟨hO3, hT3, hgB⟩ := tab_set (xp + z) hO2 hT2 hlta hvl HVR.out
                              rw [HX'.out] at hT3
                              have HO3 := Lib.hid hO3
                              have HT3 := Lib.hid hT3
                              have HB3 := Lib.hid (hB2.setCell (p := ⟨gr, v, none⟩) hgB (.int .i64 (xp + z)))
                              clear hO2 hT2 hB2 hO3 hT3
                              go_wp2
                              go_region
                              all_goals
                                have HO4 := Lib.hid (HO3.out.drewN 1)
                                have HT4 := Lib.hid (HT3.out.drewN 1)
                                have HB4 := Lib.hid (below_drewN HB3.out 1)
                                go_wp2
                                go_roundw
                                case rel => exact ⟨1, by omega, by go_num, X', true, rfl, HX2.out, HC2.out, HO4.out, HT4.out, HB4.out⟩
                                case measure => simp [intOf]
                            · have hX2 : True := trivial
                              have HC2 := Lib.hid (HC.out.imp fun h => Seen.first h HP.out (fun _ => by rw [HXp.out, HXq.out]; omega))
                              clear hX2
                              go_wp2
                              go_quiet (fail)
                              have HO2 := Lib.hid (HO.out.drewN nq)
                              have HT2 := Lib.hid (HT.out.drewN nq)
                              have HB2 := Lib.hid (below_drewN HB.out nq)
                              go_wp2
                              go_roundw
                              case rel => exact ⟨1, by omega, by go_num, X, b, rfl, HX.out, HC2.out, HO2.out, HT2.out, HB2.out⟩
                              case measure => simp [intOf]
                        · have hX2 : ¬ 0 ≤ X a u := by rw [HXp.out]; exact hp0
                          have hp1 : xp < 0 := by omega
                          have hp2 : decide (xp ≥ 0) = false := decide_eq_false (by omega)
                          have HC2 := Lib.hid (HC.out.imp fun h => Seen.first h HP.out (fun h => absurd h hX2))
                          clear hX2
                          go_wp2
                          go_quiet (fail)
                          have HO2 := Lib.hid (HO.out.drewN nq)
                          have HT2 := Lib.hid (HT.out.drewN nq)
                          have HB2 := Lib.hid (below_drewN HB.out nq)
                          go_wp2
                          go_roundw
                          case rel => exact ⟨1, by omega, by go_num, X, b, rfl, HX.out, HC2.out, HO2.out, HT2.out, HB2.out⟩
                          case measure => simp [intOf]
                      · obtain rfl : t = 1 := by omega
                        clear ht0
                        obtain ⟨xp, HXp⟩ : ∃ x, Hid (X a v = x) := ⟨_, rfl⟩
                        obtain ⟨xq, HXq⟩ : ∃ x, Hid (X a u = x) := ⟨_, rfl⟩
                        obtain ⟨gr, cr, hVR, cg, cp, fp⟩ := tab_cells hO hT hlta hvl
                        obtain ⟨gr', cr', hVR', -, cq, fq⟩ := tab_cells hO hT hlta hul
                        have hsame := hVR.symm.trans hVR'
                        injection hsame with e1 e2 e3
                        injection e1 with e1
                        injection e1 with e1
                        subst e1 e3
                        have hXp := hX.le hn7 hlta hvl
                        have hXq := hX.le hn7 hlta hul
                        rw [HXp.out] at cp hXp
                        rw [HXq.out] at cq hXq
                        have w1 : IntKind.i64.wrap (xp + z) = xp + z := IntWalk.i64_in _ (by omega)
                        obtain ⟨X', HX'⟩ : ∃ X', Hid (up2 X a u (xp + z) = X') := ⟨_, rfl⟩
                        have Hedge : Hid (SE ss v u z) := ⟨_, getD_mem3 (by rw [Hm.out]; exact hltk), by rw [HP.out], by rw [HP.out]; exact .inr ⟨rfl, rfl⟩⟩
                        have HVR := Lib.hid hVR
                        have HX := Lib.hid hX
                        have HC := Lib.hid hC
                        have HO := Lib.hid hO
                        have HT := Lib.hid hT
                        have HB := Lib.hid hB
                        clear hX hC hO hT hB hVR hVR' fp
                        by_cases hp0 : 0 ≤ xp
                        · by_cases hq0 : xq < 0
                          · have HX2 := Lib.hid (rlx_step HX.out hlta hvl hul Hedge.out HL.out (by rw [HXp.out]; exact hp0) (by rw [HXp.out, HXq.out]; exact .inl hq0))
                            have HC2 := Lib.hid (Chg.step (D := Seen X' n ss k a 2) HC.out (show totX X' n < totX X n by rw [← HX'.out]; exact totX_step hlta hul (by omega) (by rw [HXq.out]; exact .inl hq0)))
                            rw [HXp.out, HX'.out] at HX2
                            go_wp2
                            go_quiet (fail)
                            have hO2 := HO.out.drewN nq
                            have hT2 := HT.out.drewN nq
                            have hB2 := below_drewN HB.out nq
                            have cg2 : (wr.drewN nq).cell? ⟨g, a, none⟩ = some (.slice (some ⟨gr, 0, none⟩) n cr) := cg
                            have cp2 : (wr.drewN nq).cell? ⟨gr, v, none⟩ = some (.int .i64 xp) := cp
                            have cq2 : (wr.drewN nq).cell? ⟨gr, u, none⟩ = some (.int .i64 xq) := cq
                            have fq2 : (wr.drewN nq).frozen? ⟨gr, u, none⟩ = false := fq
                            have cz2 : (wr.drewN nq).cell? ⟨bb, off + k * 3 + 2, none⟩ = some (.int .i64 z) := hcz
                            clear cg cp cq fq hcx hcy hcz
                            generalize wr.drewN nq = wq at hO2 hT2 hB2 cg2 cp2 cq2 fq2 cz2 ⊢
                            obtain ⟨hO3, hT3, hgB⟩ := tab_set (xp + z) hO2 hT2 hlta hul HVR.out
                            rw [HX'.out] at hT3
                            have HO3 := Lib.hid hO3
                            have HT3 := Lib.hid hT3
                            have HB3 := Lib.hid (hB2.setCell (p := ⟨gr, u, none⟩) hgB (.int .i64 (xp + z)))
                            clear hO2 hT2 hB2 hO3 hT3
                            go_wp2
                            go_region
                            all_goals
                              have HO4 := Lib.hid (HO3.out.drewN 1)
                              have HT4 := Lib.hid (HT3.out.drewN 1)
                              have HB4 := Lib.hid (below_drewN HB3.out 1)
                              go_wp2
                              go_roundw
                              case rel => exact ⟨2, by omega, by go_num, X', true, rfl, HX2.out, HC2.out, HO4.out, HT4.out, HB4.out⟩
                              case measure => simp [intOf]
                          · by_cases hl : xp + z < xq
                            · have HX2 := Lib.hid (rlx_step HX.out hlta hvl hul Hedge.out HL.out (by rw [HXp.out]; exact hp0) (by rw [HXp.out, HXq.out]; exact .inr hl))
                              have HC2 := Lib.hid (Chg.step (D := Seen X' n ss k a 2) HC.out (show totX X' n < totX X n by rw [← HX'.out]; exact totX_step hlta hul (by omega) (by rw [HXq.out]; exact .inr hl)))
                              rw [HXp.out, HX'.out] at HX2
                              go_wp2
                              go_quiet (fail)
                              have hO2 := HO.out.drewN nq
                              have hT2 := HT.out.drewN nq
                              have hB2 := below_drewN HB.out nq
                              have cg2 : (wr.drewN nq).cell? ⟨g, a, none⟩ = some (.slice (some ⟨gr, 0, none⟩) n cr) := cg
                              have cp2 : (wr.drewN nq).cell? ⟨gr, v, none⟩ = some (.int .i64 xp) := cp
                              have cq2 : (wr.drewN nq).cell? ⟨gr, u, none⟩ = some (.int .i64 xq) := cq
                              have fq2 : (wr.drewN nq).frozen? ⟨gr, u, none⟩ = false := fq
                              have cz2 : (wr.drewN nq).cell? ⟨bb, off + k * 3 + 2, none⟩ = some (.int .i64 z) := hcz
                              clear cg cp cq fq hcx hcy hcz
                              generalize wr.drewN nq = wq at hO2 hT2 hB2 cg2 cp2 cq2 fq2 cz2 ⊢
                              obtain ⟨hO3, hT3, hgB⟩ := tab_set (xp + z) hO2 hT2 hlta hul HVR.out
                              rw [HX'.out] at hT3
                              have HO3 := Lib.hid hO3
                              have HT3 := Lib.hid hT3
                              have HB3 := Lib.hid (hB2.setCell (p := ⟨gr, u, none⟩) hgB (.int .i64 (xp + z)))
                              clear hO2 hT2 hB2 hO3 hT3
                              go_wp2
                              go_region
                              all_goals
                                have HO4 := Lib.hid (HO3.out.drewN 1)
                                have HT4 := Lib.hid (HT3.out.drewN 1)
                                have HB4 := Lib.hid (below_drewN HB3.out 1)
                                go_wp2
                                go_roundw
                                case rel => exact ⟨2, by omega, by go_num, X', true, rfl, HX2.out, HC2.out, HO4.out, HT4.out, HB4.out⟩
                                case measure => simp [intOf]
                            · have hX2 : True := trivial
                              have HC2 := Lib.hid (HC.out.imp fun h => Seen.second h HP.out (fun _ => by rw [HXp.out, HXq.out]; omega))
                              clear hX2
                              go_wp2
                              go_quiet (fail)
                              have HO2 := Lib.hid (HO.out.drewN nq)
                              have HT2 := Lib.hid (HT.out.drewN nq)
                              have HB2 := Lib.hid (below_drewN HB.out nq)
                              go_wp2
                              go_roundw
                              case rel => exact ⟨2, by omega, by go_num, X, b, rfl, HX.out, HC2.out, HO2.out, HT2.out, HB2.out⟩
                              case measure => simp [intOf]
                        · have hX2 : ¬ 0 ≤ X a v := by rw [HXp.out]; exact hp0
                          have hp1 : xp < 0 := by omega
                          have hp2 : decide (xp ≥ 0) = false := decide_eq_false (by omega)
                          have HC2 := Lib.hid (HC.out.imp fun h => Seen.second h HP.out (fun h => absurd h hX2))
                          clear hX2
                          go_wp2
                          go_quiet (fail)
                          have HO2 := Lib.hid (HO.out.drewN nq)
                          have HT2 := Lib.hid (HT.out.drewN nq)
                          have HB2 := Lib.hid (below_drewN HB.out nq)
                          go_wp2
                          go_roundw
                          case rel => exact ⟨2, by omega, by go_num, X, b, rfl, HX.out, HC2.out, HO2.out, HT2.out, HB2.out⟩
                          case measure => simp [intOf]
                    · obtain rfl : t = 2 := by omega
                      have HC2 := Lib.hid (hC.imp Seen.row)
                      have HX := Lib.hid hX
                      have HO := Lib.hid hO
                      have HT := Lib.hid hT
                      have HB := Lib.hid hB
                      clear hX hC hO hT hB
                      go_wp2
                      go_roundw
                      case rel => exact ⟨a + 1, by omega, by go_num, X, b, rfl, HX.out, HC2.out, HO.out, HT.out, HB.out⟩
                      case measure => simp [intOf]; omega
                · obtain rfl : n = a := by omega
                  have HC2 := Lib.hid (HC.out.imp Seen.street)
                  go_wp2
                  go_roundw
                  case rel => exact ⟨k + 1, by omega, by go_num, X, b, rfl, HX.out, HC2.out, HO.out, HT.out, HB.out⟩
                  case measure => simp [intOf]; omega
            · obtain rfl : m = k := by omega
              cases b with
              | true =>
                have hlt : totX X n < totX X0 n := by
                  rcases HC.out with ⟨_, h⟩ | ⟨h, _⟩
                  · exact h
                  · cases h
                go_wp2
                go_roundg (totX X n + 1)
                case rel => exact ⟨X, true, rfl, fun _ => Nat.le_refl _, HX, (fun h => by cases h), HO, HT, HB⟩
                case measure => omega
              | false =>
                have hS : Hid (Seen X n ss m 0 0) := by
                  rcases HC.out with ⟨h, _⟩ | ⟨_, rfl, h⟩
                  · cases h
                  · exact h
                go_wp2
                go_roundg 0
                case rel => exact ⟨X, false, rfl, (fun h => by cases h), HX, fun _ => hS.out, HO, HT, HB⟩
                case measure => omega
end Go.Proofs.Ytdhelapgdgekfaa
namespace Go.Proofs.Ytdhelapgdgekfaa
open Go.ChangeShapes Go.WideShapes Go.ChangeAt Go.RowKit
set_option linter.unusedVariables false

/-- The table with the first k streets alone. -/
structure Nb1 (ss : List Str) (n k : Nat) (X : Nat → Nat → Int) : Prop where
  zero : ∀ a, a < n → X a a = 0
  symm : ∀ a b, X a b = X b a
  way : ∀ a b, a < n → b < n → X a b = -1 ∨ (0 ≤ X a b ∧ Wk (SE ss) n a b (X a b))
  bd : ∀ a b, a < n → b < n → X a b ≤ 9
  cl : ∀ i, i < k → ∀ u v : Nat, (ss.getD i str0).1 = u → (ss.getD i str0).2.1 = v → 0 ≤ X u v ∧ X u v ≤ (ss.getD i str0).2.2
theorem nb1_start (ss : List Str) (n : Nat) : Nb1 ss n 0 ownX where
  zero a _ := by simp [ownX]
  symm a b := by unfold ownX; by_cases h : a = b <;> simp [h, eq_comm]
  way := (rlx_start ss n).way
  bd a b _ _ := by unfold ownX; split <;> omega
  cl i hi := by omega
theorem nb1_skip {ss : List Str} {n k u v : Nat} {L : Int} {X : Nat → Nat → Int} (h : Nb1 ss n k X) (hp : ss.getD k str0 = ((u : Int), (v : Int), L)) (hc : ¬ (X u v < 0 ∨ L < X u v)) : Nb1 ss n (k + 1) X :=
  ⟨h.zero, h.symm, h.way, h.bd, fun i hi u' v' h1 h2 => by
    by_cases e : i = k
    · subst e
      rw [hp] at h1 h2 ⊢
      simp only at h1 h2 ⊢
      have e1 : u' = u := by omega
      have e2 : v' = v := by omega
      subst e1 e2
      omega
    · exact h.cl i (by omega) u' v' h1 h2⟩
theorem nb1_step {ss : List Str} {n k u v : Nat} {L : Int} {X : Nat → Nat → Int} (h : Nb1 ss n k X) (hk : k < ss.length) (hp : ss.getD k str0 = ((u : Int), (v : Int), L)) (hu : u < n) (hv : v < n) (hL : 1 ≤ L ∧ L ≤ 9) (hc : X u v < 0 ∨ L < X u v) : Nb1 ss n (k + 1) (up2 (up2 X u v L) v u L) := by
  have hne : u ≠ v := fun e => by subst e; rw [h.zero u hu] at hc; omega
  have hmem : (((u : Int), (v : Int), L) : Str) ∈ ss := by rw [← hp]; exact getD_mem3 hk
  have e1 : ∀ a b, (a = u ∧ b = v) ∨ (a = v ∧ b = u) → up2 (up2 X u v L) v u L a b = L := fun a b h => by
    unfold up2
    rcases h with ⟨rfl, rfl⟩ | ⟨rfl, rfl⟩
    · rw [if_neg (fun e => hne e.1), if_pos ⟨rfl, rfl⟩]
    · rw [if_pos ⟨rfl, rfl⟩]
  have e2 : ∀ a b, ¬ ((a = u ∧ b = v) ∨ (a = v ∧ b = u)) → up2 (up2 X u v L) v u L a b = X a b := fun a b h => by
    unfold up2
    rw [if_neg (fun e => h (.inr e)), if_neg (fun e => h (.inl e))]
  refine ⟨fun a ha => ?_, fun a b => ?_, fun a b ha hb => ?_, fun a b ha hb => ?_, fun i hi u' v' h1 h2 => ?_⟩
  · rw [e2 a a (by omega)]; exact h.zero a ha
  · by_cases e : (a = u ∧ b = v) ∨ (a = v ∧ b = u)
    · rw [e1 a b e, e1 b a (by omega)]
    · rw [e2 a b e, e2 b a (by omega)]; exact h.symm a b
  · by_cases e : (a = u ∧ b = v) ∨ (a = v ∧ b = u)
    · rw [e1 a b e]
      refine .inr ⟨by omega, ?_⟩
      have := Wk.snoc a b 0 L (Wk.nil ha) (show SE ss a b L from ⟨_, hmem, rfl, by
        rcases e with ⟨rfl, rfl⟩ | ⟨rfl, rfl⟩
        · exact .inl ⟨rfl, rfl⟩
        · exact .inr ⟨rfl, rfl⟩⟩) hb
      rw [Int.zero_add] at this
      exact this
    · rw [e2 a b e]; exact h.way a b ha hb
  · by_cases e : (a = u ∧ b = v) ∨ (a = v ∧ b = u)
    · rw [e1 a b e]; exact hL.2
    · rw [e2 a b e]; exact h.bd a b ha hb
  · by_cases ei : i = k
    · subst ei
      rw [hp] at h1 h2 ⊢
      simp only at h1 h2 ⊢
      have e1' : u' = u := by omega
      have e2' : v' = v := by omega
      subst e1' e2'
      rw [e1 _ _ (.inl ⟨rfl, rfl⟩)]
      omega
    · have := h.cl i (by omega) u' v' h1 h2
      by_cases e : (u' = u ∧ v' = v) ∨ (u' = v ∧ v' = u)
      · rw [e1 _ _ e]
        have hX : X u' v' = X u v := by
          rcases e with ⟨rfl, rfl⟩ | ⟨rfl, rfl⟩
          · rfl
          · exact h.symm _ _
        omega
      · rw [e2 _ _ e]; exact this
/-- The table with the first m nodes in the middle. -/
structure Nb2 (ss : List Str) (n m : Nat) (X : Nat → Nat → Int) : Prop where
  zero : ∀ a, a < n → X a a = 0
  way : ∀ a b, a < n → b < n → X a b = -1 ∨ (0 ≤ X a b ∧ Wk (SE ss) n a b (X a b))
  bd : ∀ a b, a < n → b < n → X a b ≤ ((9 * 2 ^ m : Nat) : Int)
  cl : ∀ u v L, SE ss u v L → 0 ≤ X u v ∧ X u v ≤ L
  tri : ∀ a b c, a < n → b < n → c < m → big (X a b) ≤ big (X a c) + big (X c b)
theorem nb2_start {ss : List Str} {n : Nat} {X : Nat → Nat → Int} (h : Nb1 ss n ss.length X) : Nb2 ss n 0 X where
  zero := h.zero
  way := h.way
  bd a b ha hb := h.bd a b ha hb
  cl u v L he := by
    obtain ⟨p, hp, rfl, h1⟩ := he
    obtain ⟨i, hi, e⟩ := mem_getD3 hp
    rcases h1 with ⟨h1, h2⟩ | ⟨h1, h2⟩
    · have := h.cl i hi u v (by rw [e]; exact h1) (by rw [e]; exact h2)
      rw [e] at this; exact this
    · have := h.cl i hi v u (by rw [e]; exact h1) (by rw [e]; exact h2)
      rw [e, h.symm v u] at this; exact this
  tri a b c _ _ hc := by omega
/-- One node more in the middle. -/
def fwX (X : Nat → Nat → Int) (m i j : Nat) : Int := if 0 ≤ X i m ∧ 0 ≤ X m j ∧ (X i j < 0 ∨ X i m + X m j < X i j) then X i m + X m j else X i j
theorem fw_col {X : Nat → Nat → Int} {m : Nat} (h : X m m = 0) (i : Nat) : fwX X m i m = X i m := by
  unfold fwX
  rw [h, if_neg (by omega)]
theorem fw_row {X : Nat → Nat → Int} {m : Nat} (h : X m m = 0) (j : Nat) : fwX X m m j = X m j := by
  unfold fwX
  rw [h, if_neg (by omega)]
theorem pow_le_128 {m : Nat} (h : m ≤ 7) : 9 * 2 ^ m ≤ 1152 := by
  have := Nat.pow_le_pow_right (show 2 > 0 by omega) h
  omega
theorem Nb2.le {ss : List Str} {n m : Nat} {X : Nat → Nat → Int} (h : Nb2 ss n m X) (hm : m ≤ 7) {a b : Nat} (ha : a < n) (hb : b < n) : -1 ≤ X a b ∧ X a b ≤ 1152 := by
  have h1 := h.bd a b ha hb
  have h2 := pow_le_128 hm
  rcases h.way a b ha hb with h3 | ⟨h3, -⟩ <;> omega
theorem fw_big {x y z : Int} (h1 : -1 ≤ x) (h2 : -1 ≤ y) (h3 : -1 ≤ z) (h4 : x ≤ 1152) (h5 : y ≤ 1152) (h6 : z ≤ 1152) :
    big (if 0 ≤ y ∧ 0 ≤ z ∧ (x < 0 ∨ y + z < x) then y + z else x) = min (big x) (min 1000000 (big y + big z)) := by
  unfold big
  by_cases c : 0 ≤ y ∧ 0 ≤ z ∧ (x < 0 ∨ y + z < x)
  · rw [if_pos c, if_neg (show ¬ y + z < 0 by omega), if_neg (show ¬ y < 0 by omega), if_neg (show ¬ z < 0 by omega)]
    by_cases hx : x < 0
    · rw [if_pos hx]; omega
    · rw [if_neg hx]; omega
  · rw [if_neg c]
    by_cases hx : x < 0 <;> by_cases hy : y < 0 <;> by_cases hz : z < 0 <;> simp only [hx, hy, hz, if_true, if_false] <;> omega
theorem nb2_step {ss : List Str} {n m : Nat} {X : Nat → Nat → Int} (h : Nb2 ss n m X) (hm : m < n) (h7 : n ≤ 7) : Nb2 ss n (m + 1) (fwX X m) where
  zero a ha := by
    unfold fwX
    rw [h.zero a ha, if_neg (by omega)]
  way a b ha hb := by
    unfold fwX
    split
    · rename_i hc
      rcases h.way a m ha hm with h1 | ⟨h1, w1⟩
      · omega
      · rcases h.way m b hm hb with h2 | ⟨h2, w2⟩
        · omega
        · exact .inr ⟨by omega, w1.join w2⟩
    · exact h.way a b ha hb
  bd a b ha hb := by
    have h1 := h.bd a b ha hb
    have h2 := h.bd a m ha hm
    have h3 := h.bd m b hm hb
    have e : 9 * 2 ^ (m + 1) = 9 * 2 ^ m + 9 * 2 ^ m := by rw [Nat.pow_succ]; omega
    rw [e]
    unfold fwX
    split <;> omega
  cl u v L he := by
    have := h.cl u v L he
    unfold fwX
    split <;> omega
  tri := by
    refine middles_step (X := X) (Y := fwX X m) (fun a b ha hb => ?_) hm (h.zero m hm) (fun a b ha hb => ?_) h.tri
    · have := h.le (by omega) ha hb; omega
    · have h1 := h.le (by omega) ha hb
      have h2 := h.le (by omega) ha hm
      have h3 := h.le (by omega) hm hb
      exact fw_big h1.1 h2.1 h3.1 h1.2 h2.2 h3.2
theorem nb2_end {ss : List Str} {n : Nat} {X : Nat → Nat → Int} (hv : vnet n ss = true) (h7 : n ≤ 7) (h : Nb2 ss n n X) : Short (SE ss) n X where
  zero := h.zero
  step a u v L ha he hv' h0 := by
    have hu := (se_lt hv u v L he).1
    have h1 := h.cl u v L he
    have h2 := h.tri a v u ha hv' hu
    have h3 := h.le h7 ha hu
    have h4 := h.le h7 hu hv'
    have h5 := h.le h7 ha hv'
    unfold big at h2
    rw [if_neg (show ¬ X a u < 0 by omega), if_neg (show ¬ X u v < 0 by omega)] at h2
    split at h2 <;> omega
  way := h.way
/-- In the middle of a round. -/
def fwM (X : Nat → Nat → Int) (m a b : Nat) : Nat → Nat → Int := fun i j => if i < a ∨ (i = a ∧ j < b) then fwX X m i j else X i j
end Go.Proofs.Ytdhelapgdgekfaa
namespace Go.Proofs.Ytdhelapgdgekfaa
open Go.ChangeShapes Go.WideShapes Go.ChangeAt Go.RowKit
set_option linter.unusedVariables false

theorem wrap_pred {n : Int} (h1 : -9223372036854775808 ≤ n) (h2 : n ≤ 9223372036854775807) : (IntKind.i64.wrap (n - 1) = n - 1) ∨ (n = -9223372036854775808) := by
  by_cases e : n = -9223372036854775808
  · exact .inr e
  · exact .inl (IntWalk.i64_in _ (by omega))
theorem vnet_bad {n q : Int} {ss : List Str} {k : Nat} {x y z : Int} (hq : q = n - 1 ∨ n < 1) (hk : k < ss.length) (hx : ss.getD k str0 = (x, y, z)) (h : x < 0 ∨ q < x ∨ y < 0 ∨ q < y ∨ z < 1 ∨ 9 < z) : vnet n ss = false := by
  rcases hq with rfl | hq
  · exact vnet_no_at hk hx (by omega)
  · exact vnet_no_n (.inl hq)

set_option maxHeartbeats 800000 in
theorem sValidNet_in (A : Option Addr) (c m : Nat) (n : Int) (ss : List Str) (w : World) (B : Nat) (hr : RdS w B A ss) (hm : ss.length = m) (hb : m ≤ 1152921504606846976) (hwf : (Lit.int .i64 n).wf = true) :
    Calls Try.prog 89 #[.int .i64 n, .slice A m c] w fun e w' => e = .returned (.bool (vnet n ss)) ∧ w = w' := by
  obtain ⟨q, Hq⟩ : ∃ q, Hid (IntKind.i64.wrap (n - 1) = q) := ⟨_, rfl⟩
  have hnb := bounds_i64 hwf
  have hq : q = n - 1 ∨ n < 1 := by
    rcases wrap_pred hnb.1 hnb.2 with h | h
    · exact .inl (by rw [← Hq.out, h])
    · exact .inr (by omega)
  have hq' := Hq.out
  have Hm := Lib.hid hm
  clear hm
  go_enter Try.func89, Try.ntmps89
  go_wp2
  go_loop [5] (fun i => ∃ k : Nat, k ≤ m ∧ i = .int .i64 k ∧ Hid (OkN (q + 1) ss k)) (fun i => m - (intOf i).toNat)
  case atStart => exact ⟨0, Nat.zero_le _, rfl, OkN.zero _ _⟩
  case round =>
    obtain ⟨k, hk, rfl, Ho⟩ := hrel
    by_cases hlt : k < m
    · obtain ⟨b, off, x, y, z, rfl, -, Hx, hcx, hcy, hcz⟩ := hr.x (k := k) (by rw [Hm.out]; omega)
      by_cases h1 : x < 0 ∨ q < x
      · have Hs := Lib.hid (vnet_bad (k := k) hq (by rw [Hm.out]; omega) Hx.out (by omega))
        go_wp2_with fail
        refine (inRange_no _ _ _ w (by omega)).mono ?_
        rintro e w' ⟨rfl, rfl⟩
        go_wp2
        go_ret
        exact ⟨ret_bool Hs.out.symm, rfl⟩
      by_cases h2 : y < 0 ∨ q < y
      · have Hs := Lib.hid (vnet_bad (k := k) hq (by rw [Hm.out]; omega) Hx.out (by omega))
        go_wp2_with fail
        refine (inRange_yes _ _ _ w (by omega) (by omega)).mono ?_
        rintro e w' ⟨rfl, rfl⟩
        go_wp2_with fail
        refine (inRange_no _ _ _ w (by omega)).mono ?_
        rintro e w' ⟨rfl, rfl⟩
        go_wp2
        go_ret
        exact ⟨ret_bool Hs.out.symm, rfl⟩
      by_cases h3 : z < 1 ∨ 9 < z
      · have Hs := Lib.hid (vnet_bad (k := k) hq (by rw [Hm.out]; omega) Hx.out (by omega))
        go_wp2_with fail
        refine (inRange_yes _ _ _ w (by omega) (by omega)).mono ?_
        rintro e w' ⟨rfl, rfl⟩
        go_wp2_with fail
        refine (inRange_yes _ _ _ w (by omega) (by omega)).mono ?_
        rintro e w' ⟨rfl, rfl⟩
        go_wp2_with fail
        refine (inRange_no _ _ _ w (by omega)).mono ?_
        rintro e w' ⟨rfl, rfl⟩
        go_wp2
        go_ret
        exact ⟨ret_bool Hs.out.symm, rfl⟩
      · have Hs := Lib.hid (OkN.step Ho.out Hx.out (by omega) (by omega) (by omega) (by omega) (by omega) (by omega))
        go_wp2_with fail
        refine (inRange_yes _ _ _ w (by omega) (by omega)).mono ?_
        rintro e w' ⟨rfl, rfl⟩
        go_wp2_with fail
        refine (inRange_yes _ _ _ w (by omega) (by omega)).mono ?_
        rintro e w' ⟨rfl, rfl⟩
        go_wp2_with fail
        refine (inRange_yes _ _ _ w (by omega) (by omega)).mono ?_
        rintro e w' ⟨rfl, rfl⟩
        go_wp2
        go_round
        case rel => exact ⟨k + 1, by omega, by go_num, Hs⟩
        case measure => simp [intOf]; omega
    · clear hq'
      by_cases h0 : n < 1 ∨ 7 < n
      · have Hs := Lib.hid (vnet_no_n (ss := ss) h0)
        go_wp2_with fail
        refine (inRange_no _ _ _ w (by omega)).mono ?_
        rintro e w' ⟨rfl, rfl⟩
        go_wp2
        go_ret
        exact ⟨ret_bool Hs.out.symm, rfl⟩
      · by_cases h12 : 12 < m
        · have Hs := Lib.hid (vnet_no_len (n := n) (ss := ss) (by rw [Hm.out]; exact h12))
          go_wp2_with fail
          refine (inRange_yes _ _ _ w (by omega) (by omega)).mono ?_
          rintro e w' ⟨rfl, rfl⟩
          go_wp2
          go_ret
          exact ⟨ret_bool (by rw [Hs.out]; exact decide_eq_false (by omega)), rfl⟩
        · have hqn : q + 1 = n := by omega
          have Hs := Lib.hid (vnet_yes (n := n) (by rw [← hqn]; exact Ho.out) (by omega) (by omega) (by rw [Hm.out]; omega) (by rw [Hm.out]; omega))
          go_wp2_with fail
          refine (inRange_yes _ _ _ w (by omega) (by omega)).mono ?_
          rintro e w' ⟨rfl, rfl⟩
          go_wp2
          go_ret
          exact ⟨ret_bool (by rw [Hs.out]; exact decide_eq_true (by omega)), rfl⟩
end Go.Proofs.Ytdhelapgdgekfaa
