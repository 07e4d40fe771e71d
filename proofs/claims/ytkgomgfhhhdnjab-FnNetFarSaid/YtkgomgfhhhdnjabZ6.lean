/-
  NetTable of the model, walked: the table of own ways, made shorter street by street until nothing changes.
  Conditions: the streets are a net.
  ValidNet of the model.
  Conditions: fewer than 2^60 streets.
  NetTable and NetByMiddles of the model.
  Conditions: fewer than 2^60 streets.
-/
import Derived.Test.YtkgomgfhhhdnjabZ4
import Derived.Test.YtkgomgfhhhdnjabZ2
import Derived.Test.YtkgomgfhhhdnjabZ5
import Derived.Deep.LoopGhost
import Derived.BigRegion
import Derived.OneCell
import Derived.Maps.AppendAt
namespace Go.Proofs.Ytkgomgfhhhdnjab
open Go.ChangeShapes Go.WideShapes Go.ChangeAt Go.RowKit
set_option linter.unusedVariables false
set_option maxRecDepth 4000

set_option maxHeartbeats 1600000 in
theorem netTable_any (A : Option Addr) (c m n : Nat) (ss : List Str) (w : World) (hr : RdS w w.heap.size A ss) (hm : ss.length = m) (hv : vnet n ss = true) :
    Calls Try.prog 82 #[.int .i64 n, .slice A m c] w (NTab w n (sht n ss)) := by
  obtain ⟨ii, hii, hzi0, hzi1, hzi2⟩ := info_parts intInfo
  obtain ⟨is, his, hzs0, hzs1, hzs2⟩ := info_parts slInfo2
  obtain ⟨h17, h12, hok⟩ := (vnet_iff n ss).1 hv
  have hn7 : n ≤ 7 := by omega
  have hm12 : m ≤ 12 := by omega
  have Hm := Lib.hid hm
  have Hv := Lib.hid hv
  have Hok := Lib.hid hok
  have hb0 := (Below.refl w.heap.size w).alloc (Nat.le_refl _) (.cells #[] 33)
  have ho0 : Outer (w.alloc (.cells #[] 33)) w.heap.size 0 (.slice (some ⟨w.heap.size, 0, none⟩) 0 0) (fun _ => .nilIface) := World.ownsRow_lit w #[] 0 (Nat.le_refl _) (by decide) rfl
  have ht0 : TT (w.alloc (.cells #[] 33)) w.heap.size 0 (fun _ => .nilIface) (rowX ownX n) := ⟨fun j hj => by omega, fun i j g hi => by omega⟩
  have HB0 := Lib.hid hb0
  have HO0 := Lib.hid ho0
  have HT0 := Lib.hid ht0
  clear hb0 ho0 ht0 hm hv hok h12
  go_enter Try.func82, Try.ntmps82
  go_wp2
  go_loopw [5, 6] (fun v i wr => RowsRel w n v i wr) (fun _ i _ => n - (intOf i).toNat)
  case atStart => exact ⟨0, _, _, _, Nat.zero_le _, rfl, rfl, HO0.out, HT0.out, HB0.out⟩
  case round =>
    clear HO0 HT0 HB0
    obtain ⟨a, VR, g, cA, ha, rfl, rfl, ho, hT, hnx⟩ := hrel
    by_cases hlt : a < n
    · have HO := Lib.hid ho
      have HT := Lib.hid hT
      have HB := Lib.hid hnx
      have HR0 := Lib.hid (show (wr.alloc (.cells #[] 3)).ownsRow wr.heap.size 3 1 (.slice (some ⟨wr.heap.size, 0, none⟩) 0 0) 0 [] from World.ownsRow_lit wr #[] 0 (Nat.le_refl _) (by decide) rfl)
      have HB1 := Lib.hid ((Below.refl wr.heap.size wr).alloc (Nat.le_refl _) (.cells #[] 3))
      clear ho hT hnx
      obtain ⟨W, HW⟩ : ∃ W, Hid (wr = W) := ⟨_, rfl⟩
      go_wp2
      go_loopw [7, 8] (fun r k wi => RowRelX W n a r k wi) (fun _ k _ => n - (intOf k).toNat)
      case atStart =>
        have := HW.out
        subst this
        exact ⟨0, Nat.zero_le _, rfl, by simpa [rowX] using HR0.out, HB1.out⟩
      case round =>
        clear HR0 HB1
        obtain ⟨j, hj, rfl, hown, hnx⟩ := hrel
        by_cases hjn : j < n
        · have hs1 : j + 1 ≤ maxLen := by unfold maxLen; omega
          have hs2 : (j + 1) * 8 ≤ 140737488355328 := by omega
          have hs3 : ∀ o, W.heap.size ≤ (wr.alloc o).heap.size := fun o => by rw [show (wr.alloc o).heap.size = wr.heap.size + 1 by show (wr.heap.push o).size = _; simp]; have := hnx.size; omega
          have Hs3 := Lib.hid hs3
          have Hown := Lib.hid hown
          have Hnx := Lib.hid hnx
          clear hown hnx hs3
          by_cases haj : a = j
          · have hx : Hid (ownX a j = 0) := by show _ = _; unfold ownX; rw [if_pos haj]
            have hb1 : ((a : Int) == (j : Int)) = true := by rw [beq_iff_eq]; omega
            clear haj
            go_wp2_with (at_builtin; refine wpList_append_own _ rfl _ _ 33 rfl W.heap.size 3 ii _ 1 8 Try.underlying33 hii hzi0 hzi1 hzi2 rfl (by decide) _ _ _ rfl (Hown.out.alloc _) ⟨_, 0, none⟩ 1 1 [.int .i64 0] rfl rfl (cell_one_new _ _ _) (by intro u hu; simp at hu; subst hu; rfl) hs1 hs2 (Hs3.out _) ?_; intro v' w3 hown' hgrow _)
            have hb3 : Below W.heap.size W w3 := (Hnx.out.alloc Hnx.out.size _).grown hgrow (Hs3.out _) (fun g h => (Hown.out.lt g h).1)
            have Hown' := Lib.hid hown'
            have Hb3 := Lib.hid hb3
            clear hown' hgrow hb3
            go_wp2
            go_roundw
            case rel => exact ⟨j + 1, by omega, by go_num, by rw [rowX_step, hx.out]; simpa using Hown'.out, Hb3.out⟩
            case measure => simp [intOf]; omega
          · have hx : Hid (ownX a j = -1) := by show _ = _; unfold ownX; rw [if_neg haj]
            have hb1 : ((a : Int) == (j : Int)) = false := by rw [beq_eq_false_iff_ne]; omega
            go_wp2_with (at_builtin; refine wpList_append_own _ rfl _ _ 33 rfl W.heap.size 3 ii _ 1 8 Try.underlying33 hii hzi0 hzi1 hzi2 rfl (by decide) _ _ _ rfl (Hown.out.alloc _) ⟨_, 0, none⟩ 1 1 [.int .i64 (-1)] rfl rfl (cell_one_new _ _ _) (by intro u hu; simp at hu; subst hu; rfl) hs1 hs2 (Hs3.out _) ?_; intro v' w3 hown' hgrow _)
            have hb3 : Below W.heap.size W w3 := (Hnx.out.alloc Hnx.out.size _).grown hgrow (Hs3.out _) (fun g h => (Hown.out.lt g h).1)
            have Hown' := Lib.hid hown'
            have Hb3 := Lib.hid hb3
            clear hown' hgrow hb3
            go_wp2
            go_roundw
            case rel => exact ⟨j + 1, by omega, by go_num, by rw [rowX_step, hx.out]; simpa using Hown'.out, Hb3.out⟩
            case measure => simp [intOf]; omega
        · obtain rfl : j = n := by omega
          have e := HW.out
          subst e
          obtain ⟨Ar, cr, rfl, -, -, hA⟩ := own_sliceN hown
          obtain ⟨gr, rfl, -, -⟩ := hA (by omega)
          have hT2 := (HT.out.addRow HB.out.size hnx (rowX_len _ _ _) hown).congr (ls' := rowX ownX j) (fun i hi => by
            by_cases e : i = a
            · subst e; rw [upd_at]
            · rw [upd_other _ _ e])
          have ho2 := ownN_below HO.out hnx
          have hb2 := HB.out.trans (hnx.mono HB.out.size)
          have HT2 := Lib.hid hT2
          have HO2 := Lib.hid ho2
          have HB2 := Lib.hid hb2
          clear hT2 ho2 hb2 hown hnx hA HW
          have hs1 : a + 1 ≤ maxLen := by unfold maxLen; omega
          have hs2 : (a + 1) * 24 ≤ 140737488355328 := by omega
          have hs3 : ∀ o, w.heap.size ≤ (wr.alloc o).heap.size := fun o => by rw [show (wr.alloc o).heap.size = wr.heap.size + 1 by show (wr.heap.push o).size = _; simp]; have := HB2.out.size; omega
          have Hs3 := Lib.hid hs3
          clear hs3
          go_wp2_with (at_builtin; refine wpList_append_lies _ rfl _ _ 27 rfl w.heap.size 33 is _ 1 24 Try.underlying27 his hzs0 hzs1 hzs2 rfl (by decide) _ _ _ rfl (World.ownsRow.alloc HO2.out _) ⟨_, 0, none⟩ 1 1 [.slice (some ⟨gr, 0, none⟩) j cr] rfl rfl (cell_one_new _ _ _) (by intro u hu; simp at hu; subst hu; rfl) (by decide) hs1 hs2 (Hs3.out _) _ rfl ?_; intro g3 c3 w3 hown3 hgrow3 hat3 hlt3)
          obtain ⟨ho3, hT3, hb3⟩ := tabX_end HT2.out HO2.out HB2.out hown3 hgrow3 (by show (wr.heap.push _).size = _; simp)
          have HT3 := Lib.hid hT3
          have HO3 := Lib.hid ho3
          have HB3 := Lib.hid hb3
          clear hown3 hgrow3 hat3 hlt3 hT3 ho3 hb3
          go_wp2
          go_roundw
          case rel => exact ⟨a + 1, _, _, _, by omega, by go_num, rfl, HO3.out, HT3.out, HB3.out⟩
          case measure => simp [intOf]; omega
    · obtain rfl : n = a := by omega
      have HO1 := Lib.hid ho
      have HT1 := Lib.hid hT
      have HB1 := Lib.hid hnx
      clear ho hT hnx
      go_wp2
      go_loopg [10] (totX ownX n + 1) (fun gk ch wr => ∃ X b, ch = .bool b ∧ (b = true → totX X n + 1 ≤ gk) ∧ Hid (Rlx ss n X) ∧ Hid (b = false → Seen X n ss m 0 0) ∧ Hid (Outer wr w.heap.size n (.slice (some ⟨g, 0, none⟩) n cA) VR) ∧ Hid (TT wr w.heap.size n VR (rowX X n)) ∧ Hid (Below w.heap.size w wr))
      case atStart => exact ⟨ownX, true, rfl, fun _ => Nat.le_refl _, rlx_start ss n, (fun h => by cases h), HO1, HT1, HB1⟩
      case round =>
        clear HO1 HT1 HB1
        obtain ⟨X0, b0, rfl, hg0, HX0, HS0, HO0, HT0, HB0⟩ := hrel
        cases b0 with
        | false =>
          have hsh := seen_short Hv.out HX0.out (by rw [Hm.out]; exact HS0.out rfl)
          have HTe := Lib.hid (HT0.out.congr (ls' := rowX (sht n ss) n) (fun j hj => rowX_congr fun b hb => sht_is Hv.out hsh hj hb))
          clear hsh
          go_wp2
          go_ret
          exact ⟨_, VR, rfl, HO0.out, HTe.out, HB0.out⟩
        | true =>
          have hgk := hg0 rfl
          clear hg0 HS0
          have HCs : Hid (Chg X0 X0 n false (Seen X0 n ss 0 0 0)) := .inr ⟨rfl, rfl, seen_start _ _ _⟩
          go_wp2
          go_loopw [10, 11] (fun ch s wr => ∃ k : Nat, k ≤ m ∧ s = .int .i64 k ∧ NetRel w ss n g cA VR X0 k 0 0 ch wr) (fun _ s _ => m - (intOf s).toNat)
          case atStart => exact ⟨0, Nat.zero_le _, rfl, X0, false, rfl, HX0.out, HCs.out, HO0.out, HT0.out, HB0.out⟩
          case round =>
            clear HX0 HCs HO0 HT0 HB0
            obtain ⟨k, hk, rfl, X, b, rfl, hX, hC, hO, hT, hB⟩ := hrel
            have HX := Lib.hid hX
            have HC := Lib.hid hC
            have HO := Lib.hid hO
            have HT := Lib.hid hT
            have HB := Lib.hid hB
            clear hX hC hO hT hB
            by_cases hltk : k < m
            · go_wp2
              go_loopw [10, 12] (fun ch s wr => ∃ a : Nat, a ≤ n ∧ s = .int .i64 a ∧ NetRel w ss n g cA VR X0 k a 0 ch wr) (fun _ s _ => n - (intOf s).toNat)
              case atStart => exact ⟨0, Nat.zero_le _, rfl, X, b, rfl, HX.out, HC.out, HO.out, HT.out, HB.out⟩
              case round =>
                clear HX HC HO HT HB
                obtain ⟨a, hak, rfl, X, b, rfl, hX, hC, hO, hT, hB⟩ := hrel
                have HX := Lib.hid hX
                have HC := Lib.hid hC
                have HO := Lib.hid hO
                have HT := Lib.hid hT
                have HB := Lib.hid hB
                clear hX hC hO hT hB
                by_cases hlta : a < n
                · go_wp2
                  go_loopw [10, 13] (fun ch s wr => ∃ t : Nat, t ≤ 2 ∧ s = .int .i64 t ∧ NetRel w ss n g cA VR X0 k a t ch wr) (fun _ s _ => 2 - (intOf s).toNat)
                  case atStart => exact ⟨0, by omega, rfl, X, b, rfl, HX.out, HC.out, HO.out, HT.out, HB.out⟩
                  case round =>
                    clear HX HC HO HT HB
                    obtain ⟨t, ht2, rfl, X, b, rfl, hX, hC, hO, hT, hB⟩ := hrel
                    by_cases hlt2 : t < 2
                    · obtain ⟨bb, off, x, y, z, rfl, -, HP, hcx, hcy, hcz⟩ := (hr.below hB).x (k := k) (by rw [Hm.out]; exact hltk)
                      have hok := Hok.out _ (getD_mem3 (k := k) (by rw [Hm.out]; exact hltk))
                      rw [HP.out] at hok
                      obtain ⟨⟨hx0, hx1⟩, ⟨hy0, hy1⟩, hz1, hz9⟩ := hok
                      simp only at hx0 hx1 hy0 hy1 hz1 hz9
                      obtain ⟨u, rfl⟩ := Int.eq_ofNat_of_zero_le hx0
                      obtain ⟨v, rfl⟩ := Int.eq_ofNat_of_zero_le hy0
                      have hul : u < n := by omega
                      have hvl : v < n := by omega
                      have HL : Hid (1 ≤ z ∧ z ≤ 9) := ⟨hz1, hz9⟩
                      by_cases ht0 : t = 0
                      · subst ht0
                        obtain ⟨xp, HXp⟩ : ∃ x, Hid (X a u = x) := ⟨_, rfl⟩
                        obtain ⟨xq, HXq⟩ : ∃ x, Hid (X a v = x) := ⟨_, rfl⟩
                        obtain ⟨gr, cr, hVR, cg, cp, fp⟩ := tab_cells hO hT hlta hul
                        obtain ⟨gr', cr', hVR', -, cq, fq⟩ := tab_cells hO hT hlta hvl
                        have hsame := hVR.symm.trans hVR'
                        injection hsame with e1 e2 e3
                        injection e1 with e1
                        injection e1 with e1
                        subst e1 e3
                        have hXp := hX.le hn7 hlta hul
                        have hXq := hX.le hn7 hlta hvl
                        rw [HXp.out] at cp hXp
                        rw [HXq.out] at cq hXq
                        have w1 : IntKind.i64.wrap (xp + z) = xp + z := IntWalk.i64_in _ (by omega)
                        obtain ⟨X', HX'⟩ : ∃ X', Hid (up2 X a v (xp + z) = X') := ⟨_, rfl⟩
                        have Hedge : Hid (SE ss u v z) := ⟨_, getD_mem3 (by rw [Hm.out]; exact hltk), by rw [HP.out], by rw [HP.out]; exact .inl ⟨rfl, rfl⟩⟩
                        have HVR := Lib.hid hVR
                        have HX := Lib.hid hX
                        have HC := Lib.hid hC
                        have HO := Lib.hid hO
                        have HT := Lib.hid hT
                        have HB := Lib.hid hB
                        clear hX hC hO hT hB hVR hVR' fp
                        by_cases hp0 : 0 ≤ xp
                        · by_cases hq0 : xq < 0
                          · have HX2 := Lib.hid (rlx_step HX.out hlta hul hvl Hedge.out HL.out (by rw [HXp.out]; exact hp0) (by rw [HXp.out, HXq.out]; exact .inl hq0))
                            have HC2 := Lib.hid (Chg.step (D := Seen X' n ss k a 1) HC.out (show totX X' n < totX X n by rw [← HX'.out]; exact totX_step hlta hvl (by omega) (by rw [HXq.out]; exact .inl hq0)))
                            rw [HXp.out, HX'.out] at HX2
                            go_wp2
                            go_quiet (fail)
                            have hO2 := HO.out.drewN nq
                            have hT2 := HT.out.drewN nq
                            have hB2 := below_drewN HB.out nq
                            have cg2 : (wr.drewN nq).cell? ⟨g, a, none⟩ = some (.slice (some ⟨gr, 0, none⟩) n cr) := cg
                            have cp2 : (wr.drewN nq).cell? ⟨gr, u, none⟩ = some (.int .i64 xp) := cp
                            have cq2 : (wr.drewN nq).cell? ⟨gr, v, none⟩ = some (.int .i64 xq) := cq
                            have fq2 : (wr.drewN nq).frozen? ⟨gr, v, none⟩ = false := fq
                            have cz2 : (wr.drewN nq).cell? ⟨bb, off + k * 3 + 2, none⟩ = some (.int .i64 z) := hcz
                            clear cg cp cq fq hcx hcy hcz
                            generalize wr.drewN nq = wq at hO2 hT2 hB2 cg2 cp2 cq2 fq2 cz2 ⊢
                            obtain ⟨hO3, hT3, hgB⟩ := tab_set (xp + z) hO2 hT2 hlta hvl HVR.out
                            rw [HX'.out] at hT3
                            have HO3 := Lib.hid hO3
                            have HT3 := Lib.hid hT3
                            have HB3 := Lib.hid (hB2.setCell (p := ⟨gr, v, none⟩) hgB (.int .i64 (xp + z)))
                            clear hO2 hT2 hB2 hO3 hT3
                            go_wp2
                            go_region
                            all_goals
                              have HO4 := Lib.hid (HO3.out.drewN 1)
                              have HT4 := Lib.hid (HT3.out.drewN 1)
                              have HB4 := Lib.hid (below_drewN HB3.out 1)
                              go_wp2
                              go_roundw
                              case rel => exact ⟨1, by omega, by go_num, X', true, rfl, HX2.out, HC2.out, HO4.out, HT4.out, HB4.out⟩
                              case measure => simp [intOf]
                          · by_cases hl : xp + z < xq
                            · have HX2 := Lib.hid (rlx_step HX.out hlta hul hvl Hedge.out HL.out (by rw [HXp.out]; exact hp0) (by rw [HXp.out, HXq.out]; exact .inr hl))
                              have HC2 := Lib.hid (Chg.step (D := Seen X' n ss k a 1) HC.out (show totX X' n < totX X n by rw [← HX'.out]; exact totX_step hlta hvl (by omega) (by rw [HXq.out]; exact .inr hl)))
                              rw [HXp.out, HX'.out] at HX2
                              go_wp2
                              go_quiet (fail)
                              have hO2 := HO.out.drewN nq
                              have hT2 := HT.out.drewN nq
                              have hB2 := below_drewN HB.out nq
                              have cg2 : (wr.drewN nq).cell? ⟨g, a, none⟩ = some (.slice (some ⟨gr, 0, none⟩) n cr) := cg
                              have cp2 : (wr.drewN nq).cell? ⟨gr, u, none⟩ = some (.int .i64 xp) := cp
                              have cq2 : (wr.drewN nq).cell? ⟨gr, v, none⟩ = some (.int .i64 xq) := cq
                              have fq2 : (wr.drewN nq).frozen? ⟨gr, v, none⟩ = false := fq
                              have cz2 : (wr.drewN nq).cell? ⟨bb, off + k * 3 + 2, none⟩ = some (.int .i64 z) := hcz
                              clear cg cp cq fq hcx hcy hcz
                              generalize wr.drewN nq = wq at hO2 hT2 hB2 cg2 cp2 cq2 fq2 cz2 ⊢
                              obtain ⟨hO3, hT3, hgB⟩ := tab_set (xp + z) hO2 hT2 hlta hvl HVR.out
                              rw [HX'.out] at hT3
                              have HO3 := Lib.hid hO3
                              have HT3 := Lib.hid hT3
                              have HB3 := Lib.hid (hB2.setCell (p := ⟨gr, v, none⟩) hgB (.int .i64 (xp + z)))
                              clear hO2 hT2 hB2 hO3 hT3
                              go_wp2
                              go_region
                              all_goals
                                have HO4 := Lib.hid (HO3.out.drewN 1)
                                have HT4 := Lib.hid (HT3.out.drewN 1)
                                have HB4 := Lib.hid (below_drewN HB3.out 1)
                                go_wp2
                                go_roundw
                                case rel => exact ⟨1, by omega, by go_num, X', true, rfl, HX2.out, HC2.out, HO4.out, HT4.out, HB4.out⟩
                                case measure => simp [intOf]
                            · have hX2 : True := trivial
                              have HC2 := Lib.hid (HC.out.imp fun h => Seen.first h HP.out (fun _ => by rw [HXp.out, HXq.out]; omega))
                              clear hX2
                              go_wp2
                              go_quiet (fail)
                              have HO2 := Lib.hid (HO.out.drewN nq)
                              have HT2 := Lib.hid (HT.out.drewN nq)
                              have HB2 := Lib.hid (below_drewN HB.out nq)
                              go_wp2
                              go_roundw
                              case rel => exact ⟨1, by omega, by go_num, X, b, rfl, HX.out, HC2.out, HO2.out, HT2.out, HB2.out⟩
                              case measure => simp [intOf]
                        · have hX2 : ¬ 0 ≤ X a u := by rw [HXp.out]; exact hp0
                          have hp1 : xp < 0 := by omega
                          have hp2 : decide (xp ≥ 0) = false := decide_eq_false (by omega)
                          have HC2 := Lib.hid (HC.out.imp fun h => Seen.first h HP.out (fun h => absurd h hX2))
                          clear hX2
                          go_wp2
                          go_quiet (fail)
                          have HO2 := Lib.hid (HO.out.drewN nq)
                          have HT2 := Lib.hid (HT.out.drewN nq)
                          have HB2 := Lib.hid (below_drewN HB.out nq)
                          go_wp2
                          go_roundw
                          case rel => exact ⟨1, by omega, by go_num, X, b, rfl, HX.out, HC2.out, HO2.out, HT2.out, HB2.out⟩
                          case measure => simp [intOf]
                      · obtain rfl : t = 1 := by omega
                        clear ht0
                        obtain ⟨xp, HXp⟩ : ∃ x, Hid (X a v = x) := ⟨_, rfl⟩
                        obtain ⟨xq, HXq⟩ : ∃ x, Hid (X a u = x) := ⟨_, rfl⟩
                        obtain ⟨gr, cr, hVR, cg, cp, fp⟩ := tab_cells hO hT hlta hvl
                        obtain ⟨gr', cr', hVR', -, cq, fq⟩ := tab_cells hO hT hlta hul
                        have hsame := hVR.symm.trans hVR'
                        injection hsame with e1 e2 e3
                        injection e1 with e1
                        injection e1 with e1
                        subst e1 e3
                        have hXp := hX.le hn7 hlta hvl
                        have hXq := hX.le hn7 hlta hul
                        rw [HXp.out] at cp hXp
                        rw [HXq.out] at cq hXq
                        have w1 : IntKind.i64.wrap (xp + z) = xp + z := IntWalk.i64_in _ (by omega)
                        obtain ⟨X', HX'⟩ : ∃ X', Hid (up2 X a u (xp + z) = X') := ⟨_, rfl⟩
                        have Hedge : Hid (SE ss v u z) := ⟨_, getD_mem3 (by rw [Hm.out]; exact hltk), by rw [HP.out], by rw [HP.out]; exact .inr ⟨rfl, rfl⟩⟩
                        have HVR := Lib.hid hVR
                        have HX := Lib.hid hX
                        have HC := Lib.hid hC
                        have HO := Lib.hid hO
                        have HT := Lib.hid hT
                        have HB := Lib.hid hB
                        clear hX hC hO hT hB hVR hVR' fp
                        by_cases hp0 : 0 ≤ xp
                        · by_cases hq0 : xq < 0
                          · have HX2 := Lib.hid (rlx_step HX.out hlta hvl hul Hedge.out HL.out (by rw [HXp.out]; exact hp0) (by rw [HXp.out, HXq.out]; exact .inl hq0))
                            have HC2 := Lib.hid (Chg.step (D := Seen X' n ss k a 2) HC.out (show totX X' n < totX X n by rw [← HX'.out]; exact totX_step hlta hul (by omega) (by rw [HXq.out]; exact .inl hq0)))
                            rw [HXp.out, HX'.out] at HX2
                            go_wp2
                            go_quiet (fail)
                            have hO2 := HO.out.drewN nq
                            have hT2 := HT.out.drewN nq
                            have hB2 := below_drewN HB.out nq
                            have cg2 : (wr.drewN nq).cell? ⟨g, a, none⟩ = some (.slice (some ⟨gr, 0, none⟩) n cr) := cg
                            have cp2 : (wr.drewN nq).cell? ⟨gr, v, none⟩ = some (.int .i64 xp) := cp
                            have cq2 : (wr.drewN nq).cell? ⟨gr, u, none⟩ = some (.int .i64 xq) := cq
                            have fq2 : (wr.drewN nq).frozen? ⟨gr, u, none⟩ = false := fq
                            have cz2 : (wr.drewN nq).cell? ⟨bb, off + k * 3 + 2, none⟩ = some (.int .i64 z) := hcz
                            clear cg cp cq fq hcx hcy hcz
                            generalize wr.drewN nq = wq at hO2 hT2 hB2 cg2 cp2 cq2 fq2 cz2 ⊢
                            obtain ⟨hO3, hT3, hgB⟩ := tab_set (xp + z) hO2 hT2 hlta hul HVR.out
                            rw [HX'.out] at hT3
                            have HO3 := Lib.hid hO3
                            have HT3 := Lib.hid hT3
                            have HB3 := Lib.hid (hB2.setCell (p := ⟨gr, u, none⟩) hgB (.int .i64 (xp + z)))
                            clear hO2 hT2 hB2 hO3 hT3
                            go_wp2
                            go_region
                            all_goals
                              have HO4 := Lib.hid (HO3.out.drewN 1)
                              have HT4 := Lib.hid (HT3.out.drewN 1)
                              have HB4 := Lib.hid (below_drewN HB3.out 1)
                              go_wp2
                              go_roundw
                              case rel => exact ⟨2, by omega, by go_num, X', true, rfl, HX2.out, HC2.out, HO4.out, HT4.out, HB4.out⟩
                              case measure => simp [intOf]
                          · by_cases hl : xp + z < xq
                            · have HX2 := Lib.hid (rlx_step HX.out hlta hvl hul Hedge.out HL.out (by rw [HXp.out]; exact hp0) (by rw [HXp.out, HXq.out]; exact .inr hl))
                              have HC2 := Lib.hid (Chg.step (D := Seen X' n ss k a 2) HC.out (show totX X' n < totX X n by rw [← HX'.out]; exact totX_step hlta hul (by omega) (by rw [HXq.out]; exact .inr hl)))
                              rw [HXp.out, HX'.out] at HX2
                              go_wp2
                              go_quiet (fail)
                              have hO2 := HO.out.drewN nq
                              have hT2 := HT.out.drewN nq
                              have hB2 := below_drewN HB.out nq
                              have cg2 : (wr.drewN nq).cell? ⟨g, a, none⟩ = some (.slice (some ⟨gr, 0, none⟩) n cr) := cg
                              have cp2 : (wr.drewN nq).cell? ⟨gr, v, none⟩ = some (.int .i64 xp) := cp
                              have cq2 : (wr.drewN nq).cell? ⟨gr, u, none⟩ = some (.int .i64 xq) := cq
                              have fq2 : (wr.drewN nq).frozen? ⟨gr, u, none⟩ = false := fq
                              have cz2 : (wr.drewN nq).cell? ⟨bb, off + k * 3 + 2, none⟩ = some (.int .i64 z) := hcz
                              clear cg cp cq fq hcx hcy hcz
                              generalize wr.drewN nq = wq at hO2 hT2 hB2 cg2 cp2 cq2 fq2 cz2 ⊢
                              obtain ⟨hO3, hT3, hgB⟩ := tab_set (xp + z) hO2 hT2 hlta hul HVR.out
                              rw [HX'.out] at hT3
                              have HO3 := Lib.hid hO3
                              have HT3 := Lib.hid hT3
                              have HB3 := Lib.hid (hB2.setCell (p := ⟨gr, u, none⟩) hgB (.int .i64 (xp + z)))
                              clear hO2 hT2 hB2 hO3 hT3
                              go_wp2
                              go_region
                              all_goals
                                have HO4 := Lib.hid (HO3.out.drewN 1)
                                have HT4 := Lib.hid (HT3.out.drewN 1)
                                have HB4 := Lib.hid (below_drewN HB3.out 1)
                                go_wp2
                                go_roundw
                                case rel => exact ⟨2, by omega, by go_num, X', true, rfl, HX2.out, HC2.out, HO4.out, HT4.out, HB4.out⟩
                                case measure => simp [intOf]
                            · have hX2 : True := trivial
                              have HC2 := Lib.hid (HC.out.imp fun h => Seen.second h HP.out (fun _ => by rw [HXp.out, HXq.out]; omega))
                              clear hX2
                              go_wp2
                              go_quiet (fail)
                              have HO2 := Lib.hid (HO.out.drewN nq)
                              have HT2 := Lib.hid (HT.out.drewN nq)
                              have HB2 := Lib.hid (below_drewN HB.out nq)
                              go_wp2
                              go_roundw
                              case rel => exact ⟨2, by omega, by go_num, X, b, rfl, HX.out, HC2.out, HO2.out, HT2.out, HB2.out⟩
                              case measure => simp [intOf]
                        · have hX2 : ¬ 0 ≤ X a v := by rw [HXp.out]; exact hp0
                          have hp1 : xp < 0 := by omega
                          have hp2 : decide (xp ≥ 0) = false := decide_eq_false (by omega)
                          have HC2 := Lib.hid (HC.out.imp fun h => Seen.second h HP.out (fun h => absurd h hX2))
                          clear hX2
                          go_wp2
                          go_quiet (fail)
                          have HO2 := Lib.hid (HO.out.drewN nq)
                          have HT2 := Lib.hid (HT.out.drewN nq)
                          have HB2 := Lib.hid (below_drewN HB.out nq)
                          go_wp2
                          go_roundw
                          case rel => exact ⟨2, by omega, by go_num, X, b, rfl, HX.out, HC2.out, HO2.out, HT2.out, HB2.out⟩
                          case measure => simp [intOf]
                    · obtain rfl : t = 2 := by omega
                      have HC2 := Lib.hid (hC.imp Seen.row)
                      have HX := Lib.hid hX
                      have HO := Lib.hid hO
                      have HT := Lib.hid hT
                      have HB := Lib.hid hB
                      clear hX hC hO hT hB
                      go_wp2
                      go_roundw
                      case rel => exact ⟨a + 1, by omega, by go_num, X, b, rfl, HX.out, HC2.out, HO.out, HT.out, HB.out⟩
                      case measure => simp [intOf]; omega
                · obtain rfl : n = a := by omega
                  have HC2 := Lib.hid (HC.out.imp Seen.street)
                  go_wp2
                  go_roundw
                  case rel => exact ⟨k + 1, by omega, by go_num, X, b, rfl, HX.out, HC2.out, HO.out, HT.out, HB.out⟩
                  case measure => simp [intOf]; omega
            · obtain rfl : m = k := by omega
              cases b with
              | true =>
                have hlt : totX X n < totX X0 n := by
                  rcases HC.out with ⟨_, h⟩ | ⟨h, _⟩
                  · exact h
                  · cases h
                go_wp2
                go_roundg (totX X n + 1)
                case rel => exact ⟨X, true, rfl, fun _ => Nat.le_refl _, HX, (fun h => by cases h), HO, HT, HB⟩
                case measure => omega
              | false =>
                have hS : Hid (Seen X n ss m 0 0) := by
                  rcases HC.out with ⟨h, _⟩ | ⟨_, rfl, h⟩
                  · cases h
                  · exact h
                go_wp2
                go_roundg 0
                case rel => exact ⟨X, false, rfl, (fun h => by cases h), HX, fun _ => hS.out, HO, HT, HB⟩
                case measure => omega
end Go.Proofs.Ytkgomgfhhhdnjab
namespace Go.Proofs.Ytkgomgfhhhdnjab
open Go.ChangeShapes Go.WideShapes Go.ChangeAt Go.RowKit
set_option linter.unusedVariables false

theorem wrap_pred {n : Int} (h1 : -9223372036854775808 ≤ n) (h2 : n ≤ 9223372036854775807) : (IntKind.i64.wrap (n - 1) = n - 1) ∨ (n = -9223372036854775808) := by
  by_cases e : n = -9223372036854775808
  · exact .inr e
  · exact .inl (IntWalk.i64_in _ (by omega))
theorem vnet_bad {n q : Int} {ss : List Str} {k : Nat} {x y z : Int} (hq : q = n - 1 ∨ n < 1) (hk : k < ss.length) (hx : ss.getD k str0 = (x, y, z)) (h : x < 0 ∨ q < x ∨ y < 0 ∨ q < y ∨ z < 1 ∨ 9 < z) : vnet n ss = false := by
  rcases hq with rfl | hq
  · exact vnet_no_at hk hx (by omega)
  · exact vnet_no_n (.inl hq)

set_option maxHeartbeats 800000 in
theorem sValidNet_in (A : Option Addr) (c m : Nat) (n : Int) (ss : List Str) (w : World) (B : Nat) (hr : RdS w B A ss) (hm : ss.length = m) (hb : m ≤ 1152921504606846976) (hwf : (Lit.int .i64 n).wf = true) :
    Calls Try.prog 81 #[.int .i64 n, .slice A m c] w fun e w' => e = .returned (.bool (vnet n ss)) ∧ w = w' := by
  obtain ⟨q, Hq⟩ : ∃ q, Hid (IntKind.i64.wrap (n - 1) = q) := ⟨_, rfl⟩
  have hnb := bounds_i64 hwf
  have hq : q = n - 1 ∨ n < 1 := by
    rcases wrap_pred hnb.1 hnb.2 with h | h
    · exact .inl (by rw [← Hq.out, h])
    · exact .inr (by omega)
  have hq' := Hq.out
  have Hm := Lib.hid hm
  clear hm
  go_enter Try.func81, Try.ntmps81
  go_wp2
  go_loop [5] (fun i => ∃ k : Nat, k ≤ m ∧ i = .int .i64 k ∧ Hid (OkN (q + 1) ss k)) (fun i => m - (intOf i).toNat)
  case atStart => exact ⟨0, Nat.zero_le _, rfl, OkN.zero _ _⟩
  case round =>
    obtain ⟨k, hk, rfl, Ho⟩ := hrel
    by_cases hlt : k < m
    · obtain ⟨b, off, x, y, z, rfl, -, Hx, hcx, hcy, hcz⟩ := hr.x (k := k) (by rw [Hm.out]; omega)
      by_cases h1 : x < 0 ∨ q < x
      · have Hs := Lib.hid (vnet_bad (k := k) hq (by rw [Hm.out]; omega) Hx.out (by omega))
        go_wp2_with fail
        refine (inRange_no _ _ _ w (by omega)).mono ?_
        rintro e w' ⟨rfl, rfl⟩
        go_wp2
        go_ret
        exact ⟨ret_bool Hs.out.symm, rfl⟩
      by_cases h2 : y < 0 ∨ q < y
      · have Hs := Lib.hid (vnet_bad (k := k) hq (by rw [Hm.out]; omega) Hx.out (by omega))
        go_wp2_with fail
        refine (inRange_yes _ _ _ w (by omega) (by omega)).mono ?_
        rintro e w' ⟨rfl, rfl⟩
        go_wp2_with fail
        refine (inRange_no _ _ _ w (by omega)).mono ?_
        rintro e w' ⟨rfl, rfl⟩
        go_wp2
        go_ret
        exact ⟨ret_bool Hs.out.symm, rfl⟩
      by_cases h3 : z < 1 ∨ 9 < z
      · have Hs := Lib.hid (vnet_bad (k := k) hq (by rw [Hm.out]; omega) Hx.out (by omega))
        go_wp2_with fail
        refine (inRange_yes _ _ _ w (by omega) (by omega)).mono ?_
        rintro e w' ⟨rfl, rfl⟩
        go_wp2_with fail
        refine (inRange_yes _ _ _ w (by omega) (by omega)).mono ?_
        rintro e w' ⟨rfl, rfl⟩
        go_wp2_with fail
        refine (inRange_no _ _ _ w (by omega)).mono ?_
        rintro e w' ⟨rfl, rfl⟩
        go_wp2
        go_ret
        exact ⟨ret_bool Hs.out.symm, rfl⟩
      · have Hs := Lib.hid (OkN.step Ho.out Hx.out (by omega) (by omega) (by omega) (by omega) (by omega) (by omega))
        go_wp2_with fail
        refine (inRange_yes _ _ _ w (by omega) (by omega)).mono ?_
        rintro e w' ⟨rfl, rfl⟩
        go_wp2_with fail
        refine (inRange_yes _ _ _ w (by omega) (by omega)).mono ?_
        rintro e w' ⟨rfl, rfl⟩
        go_wp2_with fail
        refine (inRange_yes _ _ _ w (by omega) (by omega)).mono ?_
        rintro e w' ⟨rfl, rfl⟩
        go_wp2
        go_round
        case rel => exact ⟨k + 1, by omega, by go_num, Hs⟩
        case measure => simp [intOf]; omega
    · clear hq'
      by_cases h0 : n < 1 ∨ 7 < n
      · have Hs := Lib.hid (vnet_no_n (ss := ss) h0)
        go_wp2_with fail
        refine (inRange_no _ _ _ w (by omega)).mono ?_
        rintro e w' ⟨rfl, rfl⟩
        go_wp2
        go_ret
        exact ⟨ret_bool Hs.out.symm, rfl⟩
      · by_cases h12 : 12 < m
        · have Hs := Lib.hid (vnet_no_len (n := n) (ss := ss) (by rw [Hm.out]; exact h12))
          go_wp2_with fail
          refine (inRange_yes _ _ _ w (by omega) (by omega)).mono ?_
          rintro e w' ⟨rfl, rfl⟩
          go_wp2
          go_ret
          exact ⟨ret_bool (by rw [Hs.out]; exact decide_eq_false (by omega)), rfl⟩
        · have hqn : q + 1 = n := by omega
          have Hs := Lib.hid (vnet_yes (n := n) (by rw [← hqn]; exact Ho.out) (by omega) (by omega) (by rw [Hm.out]; omega) (by rw [Hm.out]; omega))
          go_wp2_with fail
          refine (inRange_yes _ _ _ w (by omega) (by omega)).mono ?_
          rintro e w' ⟨rfl, rfl⟩
          go_wp2
          go_ret
          exact ⟨ret_bool (by rw [Hs.out]; exact decide_eq_true (by omega)), rfl⟩
end Go.Proofs.Ytkgomgfhhhdnjab
namespace Go.Proofs.Ytkgomgfhhhdnjab
open Go.ChangeShapes Go.WideShapes Go.ChangeAt Go.RowKit
set_option linter.unusedVariables false
set_option maxRecDepth 4000

theorem sValidNet_is (A : Option Addr) (c m : Nat) (n : Int) (ss : List Str) (w : World) (B : Nat) (hr : RdS w B A ss) (hm : ss.length = m) (hb : m ≤ 1152921504606846976) (hwf : (Lit.int .i64 n).wf = true) {b : Bool} (h : vnet n ss = b) :
    Calls Try.prog 81 #[.int .i64 n, .slice A m c] w fun e w' => e = .returned (.bool b) ∧ w = w' := by
  subst h; exact sValidNet_in A c m n ss w B hr hm hb hwf
set_option maxHeartbeats 400000 in
theorem sNetTable_any (A : Option Addr) (c m : Nat) (n : Int) (ss : List Str) (w : World) (hr : RdS w w.heap.size A ss) (hm : ss.length = m) (hb : m ≤ 1152921504606846976) (hwf : (Lit.int .i64 n).wf = true) :
    Calls Try.prog 51 #[.int .i64 n, .slice A m c] w (NetAns w n ss) := by
  by_cases hv : vnet n ss = true
  · have H1 := Lib.hid (sValidNet_is A c m n ss w _ hr hm hb hwf hv)
    obtain ⟨k, rfl, -, -⟩ := vnet_nat hv
    have Ht := Lib.hid (netTable_any A c m k ss w hr hm hv)
    have Hv := Lib.hid hv
    clear hv hr hm hwf
    go_enter Try.func51, Try.ntmps51
    go_wp2_with fail
    refine H1.out.mono ?_
    rintro e w' ⟨rfl, rfl⟩
    go_wp2_with fail
    refine Ht.out.mono ?_
    rintro e w1 ⟨v, VR, rfl, hO, hT, hnx1⟩
    have HO := Lib.hid hO
    have HT := Lib.hid hT
    have HB := Lib.hid hnx1
    clear hO hT hnx1
    go_wp2
    go_ret
    exact .inr ⟨Hv.out, v, VR, rfl, HO.out, HT.out, HB.out⟩
  · have hv' : vnet n ss = false := by simpa using hv
    have H1 := Lib.hid (sValidNet_is A c m n ss w _ hr hm hb hwf hv')
    have Hv := Lib.hid hv'
    clear hv hv' hr hm hwf
    go_enter Try.func51, Try.ntmps51
    go_wp2_with fail
    refine H1.out.mono ?_
    rintro e w' ⟨rfl, rfl⟩
    go_wp2
    go_ret
    exact .inl ⟨Hv.out, rfl, Below.refl _ _⟩
end Go.Proofs.Ytkgomgfhhhdnjab
