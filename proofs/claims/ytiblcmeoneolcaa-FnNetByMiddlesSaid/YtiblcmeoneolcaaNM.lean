/-
  NetByMiddles of the program, walked: node by node in the middle.
  Conditions: at most 2^20 streets.
-/
import Derived.Test.YtiblcmeoneolcaaAM
import Derived.Test.YtiblcmeoneolcaaTW
import Derived.Test.YtiblcmeoneolcaaVN
namespace Go.Proofs.Ytiblcmeoneolcaa
open Go.ChangeShapes Go.WideShapes Go.ChangeAt Go.RowKit
set_option linter.unusedVariables false
set_option maxRecDepth 4000

theorem sh_pos {z q : Int} (hz : 1 ≤ z) (hq : -1 ≤ q) : ShW z q ↔ q < 0 ∨ z < q := by
  unfold ShW; omega
theorem nb1_low {ss : List Str} {n k : Nat} {X : Nat → Nat → Int} (h : Nb1 ss n k X) {a b : Nat} (ha : a < n) (hb : b < n) : -1 ≤ X a b := by
  rcases h.way a b ha hb with h | ⟨h, _⟩ <;> omega
theorem nb1_both {ss : List Str} {n k u v : Nat} {L : Int} {X : Nat → Nat → Int} (h : Nb1 ss n k X) (hk : k < ss.length) (hp : ss.getD k str0 = ((u : Int), (v : Int), L)) (hu : u < n) (hv : v < n) (hL : 1 ≤ L ∧ L ≤ 9) : Nb1 ss n (k + 1) (shX (shX X u v L) v u L) := by
  have h1 := nb1_low h hu hv
  have h2 := h.symm u v
  by_cases hc : X u v < 0 ∨ L < X u v
  · have hne : u ≠ v := fun e => by subst e; rw [h.zero u hu] at hc; omega
    have e1 : shX X u v L = up2 X u v L := if_pos ((sh_pos hL.1 h1).2 hc)
    rw [e1]
    have e2 : up2 X u v L v u = X v u := up2_other _ _ (fun e => hne e.1.symm)
    have e3 : shX (up2 X u v L) v u L = up2 (up2 X u v L) v u L := if_pos (by rw [e2, ← h2]; exact (sh_pos hL.1 h1).2 hc)
    rw [e3]
    exact nb1_step h hk hp hu hv hL hc
  · have e1 : shX X u v L = X := if_neg (fun hs => hc ((sh_pos hL.1 h1).1 hs))
    rw [e1]
    have e3 : shX X v u L = X := if_neg (fun hs => hc ((sh_pos hL.1 h1).1 (by rw [h2]; exact hs)))
    rw [e3]
    exact nb1_skip h hp hc

set_option maxHeartbeats 1600000 in
theorem iNetByMiddles_ok : IRows 30 := by
  intro A c m n ss w hin
  by_cases hv : vnet n ss = true
  · have H1 := Lib.hid (iValidNet_is A c m n ss w hin hv)
    obtain ⟨n, rfl, hk1, hk7⟩ := vnet_nat hv
    obtain ⟨-, h12, hok⟩ := (vnet_iff _ _).1 hv
    rw [hin.len] at h12
    have Hok := Lib.hid hok
    have Hv := Lib.hid hv
    have Hm := Lib.hid hin.len
    have Hr := Lib.hid hin.rd
    have Ht := Lib.hid (fun W => tableW_any n W hk1 hk7)
    clear hv hin hok
    go_enter Try.func30, Try.ntmps30
    go_wp2_with fail
    refine H1.out.mono ?_
    rintro e w1 ⟨rfl, hnx1⟩
    go_wp2_with fail
    refine (Ht.out w1).mono ?_
    rintro e w2 ⟨v, VR, rfl, hO, hT, hnx2⟩
    obtain ⟨A', c', rfl, -, -, hA⟩ := own_sliceN hO
    obtain ⟨g, rfl, -, -⟩ := hA (by omega)
    have HX0 : Hid (TabX w w2 n g c' VR ownX) := ⟨ownG_base hO hnx1.size, hT.base hnx1.size, hnx1.trans (hnx2.mono hnx1.size)⟩
    clear hO hT hA hnx2 hnx1
    go_wp2
    go_loopw [17] (fun s wr => ∃ k : Nat, ∃ X, k ≤ m ∧ s = .int .i64 k ∧ Hid (Nb1 ss n k X) ∧ Hid (TabX w wr n g c' VR X)) (fun s _ => m - (intOf s).toNat)
    case atStart => exact ⟨0, ownX, Nat.zero_le _, rfl, nb1_start _ _, HX0⟩
    case round =>
      clear HX0
      obtain ⟨k, X, hk, rfl, HN, HX⟩ := hrel
      by_cases hltk : k < m
      · obtain ⟨bb, off, x, y, z, rfl, -, HP, hcx, hcy, hcz⟩ := (Hr.out.below HX.out.bel).x (k := k) (by rw [Hm.out]; exact hltk)
        have hok := Hok.out _ (getD_mem3 (k := k) (by rw [Hm.out]; exact hltk))
        rw [HP.out] at hok
        obtain ⟨⟨hx0, hx1⟩, ⟨hy0, hy1⟩, hz1, hz9⟩ := hok
        simp only at hx0 hx1 hy0 hy1 hz1 hz9
        obtain ⟨u, rfl⟩ := Int.eq_ofNat_of_zero_le hx0
        obtain ⟨v, rfl⟩ := Int.eq_ofNat_of_zero_le hy0
        have hul : u < n := by omega
        have hvl : v < n := by omega
        have HN2 := Lib.hid (nb1_both HN.out (by rw [Hm.out]; exact hltk) HP.out hul hvl ⟨hz1, hz9⟩)
        obtain ⟨gu, cu, hVu⟩ := HX.out.rowAt hul
        obtain ⟨gv, cv, hVv⟩ := HX.out.rowAt hvl
        have HVu := Lib.hid hVu
        have HVv := Lib.hid hVv
        clear hVu hVv
        have hbs := (Below.refl wr.heap.size wr).alloc (Nat.le_refl _) (.cells #[.int .i64 u, .int .i64 v, .int .i64 z] 45)
        have hTW : TabX w ((wr.alloc (.cells #[.int .i64 u, .int .i64 v, .int .i64 z] 45)).drewN 1) n g c' VR X := ⟨(show Outer (wr.alloc (.cells #[.int .i64 u, .int .i64 v, .int .i64 z] 45)) w.heap.size n (.slice (some ⟨g, 0, none⟩) n c') VR from ownN_below HX.out.out hbs).drewN 1, (HX.out.row.below hbs).drewN 1, below_drewN (HX.out.bel.alloc HX.out.bel.size _) 1⟩
        have hS : ((wr.alloc (.cells #[.int .i64 u, .int .i64 v, .int .i64 z] 45)).drewN 1).heap[wr.heap.size]? = some (.cells #[.int .i64 u, .int .i64 v, .int .i64 z] 45) := heap_alloc_new wr _
        have HTW := Lib.hid hTW
        have HS := Lib.hid hS
        clear hbs hTW hS HX
        go_wp2
        refine wp_region_still_tail 9 (by kernel_rfl) (by kernel_rfl) ?_
        simp only [List.take_succ_cons, List.take_zero, List.drop_succ_cons, List.drop_zero]
        show wpStill Try.prog _ ((wr.alloc (.cells #[.int .i64 u, .int .i64 v, .int .i64 z] 45)).drewN 1) (fun a' => wpList Try.prog _ _ _ a' ((wr.alloc (.cells #[.int .i64 u, .int .i64 v, .int .i64 z] 45)).drewN 1)) _ _
        generalize (wr.alloc (.cells #[.int .i64 u, .int .i64 v, .int .i64 z] 45)).drewN 1 = wd at HTW HS ⊢
        obtain ⟨cg1, -, -⟩ := HTW.out.cell hul hvl HVu.out
        have s0 : wd.cell? ⟨wr.heap.size, 0, none⟩ = some (.int .i64 u) := by rw [cell_of_row _ _ _ _ _ _ HS.out]; rfl
        have s1 : wd.cell? ⟨wr.heap.size, 1, none⟩ = some (.int .i64 v) := by rw [cell_of_row _ _ _ _ _ _ HS.out]; rfl
        have s2 : wd.cell? ⟨wr.heap.size, 2, none⟩ = some (.int .i64 z) := by rw [cell_of_row _ _ _ _ _ _ HS.out]; rfl
        repeat still_step
        try refine wpStill_nil ?_
        have Hsh := Lib.hid (shortenX_any w wd n g c' u v gu cu VR X z HTW.out hul hvl HVu.out)
        clear cg1 s0 s1 s2 hcx hcy hcz
        go_wp2_with fail
        refine Hsh.out.mono ?_
        rintro e w3 ⟨t1, rfl, hX3, hK3⟩
        have HX3 : Hid (TabX w (w3.drewN 1) n g c' VR (shX X u v z)) := hX3.drewN 1
        have HS3 : Hid ((w3.drewN 1).heap[wr.heap.size]? = some (.cells #[.int .i64 u, .int .i64 v, .int .i64 z] 45)) := hK3 _ _ _ _ (by decide) HS.out
        clear hX3 hK3 HTW HS
        go_wp2
        refine wp_region_still_tail 9 (by kernel_rfl) (by kernel_rfl) ?_
        simp only [List.take_succ_cons, List.take_zero, List.drop_succ_cons, List.drop_zero]
        show wpStill Try.prog _ (w3.drewN 1) (fun a' => wpList Try.prog _ _ _ a' (w3.drewN 1)) _ _
        generalize w3.drewN 1 = wz at HX3 HS3 ⊢
        obtain ⟨cg1, -, -⟩ := HX3.out.cell hvl hul HVv.out
        have s0 : wz.cell? ⟨wr.heap.size, 0, none⟩ = some (.int .i64 u) := by rw [cell_of_row _ _ _ _ _ _ HS3.out]; rfl
        have s1 : wz.cell? ⟨wr.heap.size, 1, none⟩ = some (.int .i64 v) := by rw [cell_of_row _ _ _ _ _ _ HS3.out]; rfl
        have s2 : wz.cell? ⟨wr.heap.size, 2, none⟩ = some (.int .i64 z) := by rw [cell_of_row _ _ _ _ _ _ HS3.out]; rfl
        repeat still_step
        try refine wpStill_nil ?_
        have Hsh2 := Lib.hid (shortenX_any w wz n g c' v u gv cv VR _ z HX3.out hvl hul HVv.out)
        clear cg1 s0 s1 s2
        go_wp2_with fail
        refine Hsh2.out.mono ?_
        rintro e w4 ⟨t2, rfl, hX4, -⟩
        have HX4 := Lib.hid hX4
        clear hX4
        go_wp2
        go_roundw
        case rel => exact ⟨k + 1, _, by omega, by go_num, HN2, HX4⟩
        case measure => simp [intOf]; omega
      · obtain rfl : m = k := by omega
        have HN1 := Lib.hid (nb2_start (by rw [Hm.out]; exact HN.out))
        clear HN
        go_wp2
        go_loopw [43] (fun s wr => ∃ k : Nat, ∃ X, k ≤ n ∧ s = .int .i64 k ∧ Hid (Nb2 ss n k X) ∧ Hid (TabX w wr n g c' VR X)) (fun s _ => n - (intOf s).toNat)
        case atStart => exact ⟨0, X, Nat.zero_le _, rfl, HN1, HX⟩
        case round =>
          clear HX HN1
          obtain ⟨k, X, hk, rfl, HN, HX⟩ := hrel
          by_cases hltk : k < n
          · have Hm := Lib.hid (addMiddle_any w wr n g c' k VR X hk7 hltk (HN.out.zero k hltk) (fun a b ha hb => HN.out.le (by omega) ha hb) HX.out)
            have HN2 := Lib.hid (nb2_step HN.out hltk hk7)
            clear HX
            go_wp2_with fail
            refine Hm.out.mono ?_
            rintro e w5 ⟨rfl, hX5⟩
            have HX5 := Lib.hid hX5
            clear hX5
            go_wp2
            go_roundw
            case rel => exact ⟨k + 1, _, by omega, by go_num, HN2, HX5⟩
            case measure => simp [intOf]; omega
          · obtain rfl : n = k := by omega
            have hsh := nb2_end Hv.out hk7 HN.out
            have HX2 := Lib.hid (HX.out.congr (Y := sht n ss) fun i j hi hj => sht_is Hv.out hsh hi hj)
            clear hsh
            go_wp2
            go_ret
            exact .inr ⟨Hv.out, _, VR, rfl, HX2.out.out, HX2.out.row, HX2.out.bel⟩
  · have hv' : vnet n ss = false := by simpa using hv
    have H1 := Lib.hid (iValidNet_is A c m n ss w hin hv')
    have Hv := Lib.hid hv'
    clear hv hv' hin
    go_enter Try.func30, Try.ntmps30
    go_wp2_with fail
    refine H1.out.mono ?_
    rintro e w1 ⟨rfl, hnx1⟩
    go_wp2
    go_ret
    exact .inl ⟨Hv.out, rfl, hnx1⟩
end Go.Proofs.Ytiblcmeoneolcaa
