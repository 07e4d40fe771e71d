/-
  Costs drawn.
  Conditions: none beyond what each theorem states.
-/
import Derived.Test.YtakljcpneghgnaaRD
import Derived.Deep.RegionHeld3
namespace Go.Proofs.Ytakljcpneghgnaa
open Go.ChangeShapes Go.WideShapes Go.ChangeAt Go.RowKit
set_option linter.unusedVariables false
set_option maxRecDepth 4000

/-- A row of so many numbers. -/
def LenV (n : Nat) (u : Value) : Prop := ∃ a c, u = .slice a n c
def RowsRelG (B R k B0 n : Nat) (w : World) (o v : Value) (wr : World) : Prop :=
  ∃ i q : Nat, (∃ g c, o = .slice (some ⟨g, 0, none⟩) i c) ∧ v = .int .i64 i ∧ i ≤ n ∧ q ≤ k + 1 + 24 * i ∧ Hid (GRows wr B0 o i (LenV n)) ∧ Hid (GR wr B R q) ∧ Hid (w.grownBy wr (some R))
def RowRelD (B R k : Nat) (n : Nat) (W : World) (o v : Value) (wr : World) : Prop :=
  ∃ j q g c : Nat, ∃ zs : List Int, v = .int .i64 j ∧ j ≤ n ∧ q ≤ k + 4 * j ∧ o = .slice (some ⟨g, 0, none⟩) j c ∧ zs.length = j ∧ Hid (wr.ownsRow W.heap.size 3 1 o j (zs.map (Value.int .i64))) ∧ Hid (GR wr B R q) ∧ Hid (W.grownBy wr (some R))
def RowsPost (B R k : Nat) (w : World) (e : Ending) (w' : World) : Prop :=
  ∃ v, ∃ n : Nat, e = .returned v ∧ n ≤ 6 ∧ GRows w' w.heap.size v n (fun _ => True) ∧ w.grownBy w' (some R)
set_option maxHeartbeats 4000000 in
theorem someCosts_any (R B k : Nat) (m : Int) (w : World) (hg : GR w B R k) (hk : k ≤ 80000) (hm6 : 6 ≤ m) :
    Calls Try.prog 59 #[.pointer (some ⟨R, 0, none⟩), .int .i64 m] w (RowsPost B R k w) := by
  obtain ⟨i0, hi0, hz0, hz1, hz2⟩ := info_parts intInfo
  obtain ⟨is, his, hzs0, hzs1, hzs2⟩ := info_parts slInfo2
  have hRlt := hg.lt
  have H1 := Lib.hid (oneLit R B k [3, 4, 2, 5, 1, 6, 0] 7 0 6 w _ hg (by omega) rfl (by omega) (by omega) rfl (by decide))
  clear hg
  go_enter Try.func59, Try.ntmps59
  go_wp2_with fail
  refine H1.out.mono ?_
  rintro e w1 ⟨n, rfl, hn0, hn6, hg1, hgr1⟩
  obtain ⟨n, rfl⟩ := Int.eq_ofNat_of_zero_le hn0
  clear H1
  have hga : GR (w1.alloc (.cells #[] 23)) B R (k + 1) := hg1.kept (row := none) (World.grownBy_alloc _ _ _) (fun g h => by cases h)
  have hgba : w.grownBy (w1.alloc (.cells #[] 23)) (some R) := gb_trans hgr1 (World.grownBy_alloc w1 _ none) (.inr (fun g h => by cases h))
  have hown0 : GRows (w1.alloc (.cells #[] 23)) w.heap.size (.slice (some ⟨w1.heap.size, 0, none⟩) 0 0) 0 (LenV n) :=
    ⟨[], World.ownsRow_lit w1 #[] 0 hgr1.size (by decide) rfl, fun u hu => by simp at hu⟩
  have Hown0 := Lib.hid hown0
  have Hga := Lib.hid hga
  have Hgba := Lib.hid hgba
  clear hown0 hga hgba hg1 hgr1
  go_wp2
  go_loopw [6, 7] (fun o v wr => RowsRelG B R k w.heap.size n w o v wr) (fun _ v _ => n - (intOf v).toNat)
  case atStart => exact ⟨0, k + 1, ⟨_, _, rfl⟩, rfl, by omega, by omega, Hown0, Hga, Hgba⟩
  case round =>
    clear Hown0 Hga Hgba
    obtain ⟨i, q, Hsh, rfl, hin, hq, HO, HG, HB⟩ := hrel
    by_cases hlt : i < n
    · clear Hsh
      obtain ⟨W, rfl⟩ : ∃ W, W = wr := ⟨_, rfl⟩
      have HR0 : Hid ((W.alloc (.cells #[] 3)).ownsRow W.heap.size 3 1 (.slice (some ⟨W.heap.size, 0, none⟩) 0 0) 0 ([].map (Value.int .i64))) := World.ownsRow_lit W #[] 0 (Nat.le_refl _) (by decide) rfl
      have HG0 : Hid (GR (W.alloc (.cells #[] 3)) B R q) := HG.out.kept (row := none) (World.grownBy_alloc _ _ _) (fun g h => by cases h)
      have HB0 : Hid (W.grownBy (W.alloc (.cells #[] 3)) (some R)) := World.grownBy_alloc W _ _
      have hWR := HG.out.lt
      go_wp2
      go_loopw [8, 9] (fun o v wr => RowRelD B R q n W o v wr) (fun _ v _ => n - (intOf v).toNat)
      case atStart => exact ⟨0, q, _, _, [], rfl, by omega, by omega, rfl, rfl, HR0, HG0, HB0⟩
      case round =>
        clear HR0 HG0 HB0
        obtain ⟨j, p, g, c, zs, rfl, hjn, hp, rfl, hzs, HOr, HGr, HBr⟩ := hrel
        have Hzs := Lib.hid hzs
        clear hzs
        by_cases hjlt : j < n
        · go_wp2_with fail
          refine (pick_any R B p 10 wr HGr.out (by omega) (by omega) (by omega)).mono ?_
          rintro e w2 ⟨x, rfl, hx0, hx1, -, hg2, hgw2⟩
          go_wp2_with fail
          refine (pick_any R B (p + 1) 50 w2 hg2 (by omega) (by omega) (by omega)).mono ?_
          rintro e w3 ⟨y, rfl, hy0, hy1, -, hg3, hgw3⟩
          go_wp2_with fail
          refine (pick_any R B (p + 1 + 1) 10 w3 hg3 (by omega) (by omega) (by omega)).mono ?_
          rintro e w4 ⟨z, rfl, hz0', hz1', -, hg4, hgw4⟩
          have hx1 := hx1 (by omega)
          have hy1 := hy1 (by omega)
          have hz1' := hz1' (by omega)
          have hgw := gb_trans (gb_trans hgw2 hgw3 (.inl rfl)) hgw4 (.inl rfl)
          have Hgw := Lib.hid hgw
          clear hgw2 hgw3 hgw4 hg2 hg3 hgw
          go_wp2_with fail
          refine (oneLitAt _ R B (p + 1 + 1 + 1) [x, y, 0, z, 50] 5 0 50 w4 _ hg4 (by omega) rfl (by omega) (by omega) rfl (by intro x hx; simp at hx; omega) rfl).mono ?_
          rintro e w5 ⟨d, rfl, hd0, hd1, hg5, hgw5⟩
          have hgb5 := gb_trans Hgw.out hgw5 (.inl rfl)
          have hgW5 := gb_trans HBr.out hgb5 (.inl rfl)
          have hws5 := hgW5.size
          have hown5 := HOr.out.kept hgb5 (.inr (fun e => by have := (HOr.out.lt R e).1; omega))
          have Hown5 := Lib.hid hown5
          have HgW5 := Lib.hid hgW5
          have Hg5 := Lib.hid hg5
          have hsz : j + 1 ≤ maxLen := by unfold maxLen; omega
          have hsz2 : (j + 1) * 8 ≤ 140737488355328 := by omega
          have hsz3 : W.heap.size ≤ (w5.alloc (.cells #[.int .i64 d] 3)).heap.size := by rw [size_alloc1]; omega
          clear hg4 hg5 hgw5 hgb5 hgW5 hown5 Hgw HOr HGr HBr hd0 hd1 hx0 hx1 hy0 hy1 hz0' hz1'
          go_wp2_with (at_builtin; refine wpList_append_lies _ rfl _ _ 23 rfl W.heap.size 3 i0 _ 1 8 Try.underlying23 hi0 hz0 hz1 hz2 rfl (by decide) _ _ _ rfl (Hown5.out.alloc _) ⟨w5.heap.size, 0, none⟩ 1 1 [.int .i64 d] rfl rfl (cell_one_new _ _ _) (by intro u hu; simp at hu; subst hu; rfl) (by decide) hsz hsz2 hsz3 _ rfl ?_; intro g6 c6 w6 hown6 hgrow6 hat6 hlt6)
          have HR6 : Hid (w6.ownsRow W.heap.size 3 1 (.slice (some ⟨g6, 0, none⟩) (j + 1) c6) (j + 1) ((zs ++ [d]).map (Value.int .i64))) := by show World.ownsRow _ _ _ _ _ _ _; rw [List.map_append]; exact hown6
          have HG6 : Hid (GR w6 B R (p + 1 + 1 + 1 + 1)) := (Hg5.out.kept (row := none) (World.grownBy_alloc _ _ _) (fun g h => by cases h)).kept hgrow6 (fun g h => by have := (Hown5.out.lt g h).1; omega)
          have HB6 : Hid (W.grownBy w6 (some R)) := gb_trans (gb_trans HgW5.out (World.grownBy_alloc w5 _ none) (.inr (fun g h => by cases h))) hgrow6 (.inr (fun g h => (Hown5.out.lt g h).1))
          have hl6 : (zs ++ [d]).length = j + 1 := by rw [List.length_append, Hzs.out]; rfl
          clear hown6 hgrow6 hat6 hlt6 Hown5 HgW5 Hg5 hsz hsz2 hsz3 hws5
          go_wp2
          go_roundw
          case rel => exact ⟨j + 1, p + 1 + 1 + 1 + 1, g6, c6, zs ++ [d], by go_num, by omega, by omega, rfl, hl6, HR6, HG6, HB6⟩
          case measure => simp [intOf]; omega
        · obtain rfl : j = n := by omega
          have HGo := Lib.hid (HO.out.drawn HG.out HBr.out (by omega))
          obtain ⟨vs, ho, hv⟩ := HGo.out
          have HGu := Lib.hid (gRow_own (B' := w.heap.size) HOr.out Hzs.out (by omega) HB.out.size)
          have Ho := Lib.hid ho
          have Hv := Lib.hid hv
          have hgW : w.grownBy wr (some R) := gb_trans HB.out HBr.out (.inl rfl)
          have HgW := Lib.hid hgW
          have hsz : i + 1 ≤ maxLen := by unfold maxLen; omega
          have hsz2 : (i + 1) * 24 ≤ 140737488355328 := by omega
          have hsz3 : ∀ o, w.heap.size ≤ (wr.alloc o).heap.size := fun o => by rw [size_alloc1]; have := hgW.size; omega
          have Hsz3 := Lib.hid hsz3
          clear ho hv hgW hsz3 HOr
          go_wp2_with (at_builtin; refine wpList_append_lies _ rfl _ _ 24 rfl w.heap.size 23 is _ 1 24 Try.underlying24 his hzs0 hzs1 hzs2 rfl (by decide) _ _ _ rfl (World.ownsRow.alloc Ho.out _) ⟨_, 0, none⟩ 1 1 [.slice (some ⟨g, 0, none⟩) j c] rfl rfl (cell_one_new _ _ _) (by intro u hu; simp at hu; subst hu; rfl) (by decide) hsz hsz2 (Hsz3.out _) _ rfl ?_; intro g3 c3 w3 hown3 hgrow3 hat3 hlt3)
          have HO3 : Hid (GRows w3 w.heap.size (.slice (some ⟨g3, 0, none⟩) (i + 1) c3) (i + 1) (LenV j)) := gRows_push Ho.out Hv.out HGu.out ⟨_, _, rfl⟩ hgrow3 hown3
          have HG3 : Hid (GR w3 B R p) := (HGr.out.kept (row := none) (World.grownBy_alloc _ _ _) (fun g h => by cases h)).kept hgrow3 (fun g h => by have := (Ho.out.lt g h).1; omega)
          have HB3 : Hid (w.grownBy w3 (some R)) := gb_trans (gb_trans HgW.out (World.grownBy_alloc wr _ none) (.inr (fun g h => by cases h))) hgrow3 (.inr (fun g h => (Ho.out.lt g h).1))
          clear hown3 hgrow3 hat3 hlt3 HGo HGu Ho Hv HgW Hsz3 HGr HBr HO HG HB
          go_wp2
          go_roundw
          case rel => exact ⟨i + 1, p, ⟨_, _, rfl⟩, by go_num, by omega, by omega, HO3, HG3, HB3⟩
          case measure => simp [intOf]; omega
    · obtain rfl : i = n := by omega
      obtain ⟨g, c, rfl⟩ := Hsh
      by_cases hi0 : i = 0
      · subst hi0
        go_wp2
        go_ret
        exact ⟨_, 0, rfl, by omega, HO.out.weaken (fun _ _ => trivial), HB.out⟩
      · have hpos : 0 < i := by omega
        clear hi0
        go_wp2_with fail
        refine (pick_any R B q 40 wr HG.out (by omega) (by omega) (by omega)).mono ?_
        rintro e w2 ⟨x, rfl, hx0, -, -, hg2, hgw2⟩
        have HO2 := Lib.hid (HO.out.drawn HG.out hgw2 (by omega))
        have HB2 := Lib.hid (gb_trans HB.out hgw2 (.inl rfl))
        have HG2 := Lib.hid hg2
        clear HO HG HB hg2 hgw2
        by_cases hv0 : x = 0
        · subst hv0
          obtain ⟨b, off, m', c', hce, hfr, hmc, hcm, hgr, ⟨a', c'', hP⟩, hBg⟩ := HO2.out.at_ hpos
          injection hP with hP1 hP2 hP3
          subst hP1 hP2 hP3
          have Hgr := Lib.hid hgr
          have Hce := Lib.hid hce
          have hgl : g < w2.drew.heap.size := World.block_lt_of_cell? w2 _ hce
          have hgR : some g ≠ some R := fun e => by injection e with e; omega
          clear hgr hfr
          go_wp2_with fail
          go_region_held3 (fun w' => w'.cell? ⟨g, 0, none⟩ = some (.slice (some ⟨b, off, none⟩) m' c'))
            (first
              | go_keep
              | exact (World.cell?_of_block (hgw7.block g hgl hgR)).trans Hce.out
              | (rw [World.cell?_setCell_other _ _ _ _ (by intro e; injection e with e; exact hgb7 e.symm)]; assumption))
            (first
              | (go_at_call 68
                 refine (oneLitAt _ R B (q + 1) [-1, 51] 2 (-1) 51 w2.drew _ HG2.out (by omega) rfl (by omega) (by omega) rfl (by decide) rfl).mono ?_
                 rintro e w7 ⟨d, rfl, hd0, hd1, hgr7, hgw7⟩
                 have HO7 := Lib.hid (HO2.out.drawn HG2.out (grown_undrew hgw7) (by omega))
                 have HB7 := Lib.hid (gb_trans HB2.out (grown_undrew hgw7) (.inl rfl))
                 have Hr7 := Lib.hid ((Hgr.out.drawn HG2.out (grown_undrew hgw7)).cell0 hpos)
                 obtain ⟨x7, hc7⟩ := Hr7.out.1
                 have hf7 := Hr7.out.2.1
                 have hgb7 : g ≠ b := by obtain ⟨-, -, -, cs7, hh7⟩ := Hr7.out; exact HO7.out.apart hh7))
          obtain ⟨-, -, hb7, cs7, hh7⟩ := Hr7.out
          have HB8 : Hid (w.grownBy (w7.setCell ⟨b, off, none⟩ (.int .i64 d)) (some R)) := gb_trans HB7.out (grownBy_set w7 _ _) (.inr (fun g h => by cases h; exact hb7))
          have HO8 : Hid (GRows (w7.setCell ⟨b, off, none⟩ (.int .i64 d)) w.heap.size (.slice (some ⟨g, 0, none⟩) m' c) m' (LenV m')) := HO7.out.set hh7
          clear HO7 HB7 hgw7 hgr7 Hgr hh7 Hr7
          go_wp2
          go_ret
          exact ⟨_, m', rfl, by omega, HO8.out.weaken (fun _ _ => trivial), HB8.out⟩
        · have hvb : (x == 0) = false := by rw [beq_eq_false_iff_ne]; exact hv0
          by_cases hv1 : x = 1
          · subst hv1
            obtain ⟨b, off, m', c', hce, hfr, hmc, hcm, hgr, ⟨a', c'', hP⟩, hBg⟩ := HO2.out.at_ (show i - 1 < i by omega)
            injection hP with hP1 hP2 hP3
            subst hP1 hP2 hP3
            have hwi : IntKind.i64.wrap ((m' : Int) - 1) = ((m' - 1 : Nat) : Int) := by rw [IntWalk.i64_in _ (by omega)]; omega
            have HB8 : Hid (∀ u, w.grownBy (w2.setCell ⟨g, m' - 1, none⟩ u) (some R)) := fun u => gb_trans HB2.out (grownBy_set w2 _ _) (.inr (fun g h => by cases h; exact hBg))
            have Htl := Lib.hid (hgr.tail hpos)
            clear hgr HG2
            by_cases hc1 : c' = 1
            · subst hc1
              obtain rfl : m' = 1 := by omega
              have hce1 : w2.cell? ⟨g, 0, none⟩ = some (.slice (some ⟨b, off, none⟩) 1 1) := hce
              have hfr1 : w2.frozen? ⟨g, 0, none⟩ = false := hfr
              have hwi1 : IntKind.i64.wrap (((1 : Nat) : Int) - 1) = ((0 : Nat) : Int) := hwi
              have HO8 : Hid (GRows (w2.setCell ⟨g, 0, none⟩ (.slice (some ⟨b, off, none⟩) 0 0)) w.heap.size (.slice (some ⟨g, 0, none⟩) 1 c) 1 (fun _ => True)) := HO2.out.put (Htl.out.2 rfl) trivial (fun _ _ => trivial)
              have HB8 : Hid (w.grownBy (w2.setCell ⟨g, 0, none⟩ (.slice (some ⟨b, off, none⟩) 0 0)) (some R)) := HB8.out (.slice (some ⟨b, off, none⟩) 0 0)
              clear HO2 HB2 Htl hce hfr hwi
              go_wp2
              go_ret
              exact ⟨_, 1, rfl, by omega, HO8.out, HB8.out⟩
            · have HO8 : Hid (GRows (w2.setCell ⟨g, m' - 1, none⟩ (.slice (some ⟨b, off + 1, none⟩) (m' - 1) (c' - 1))) w.heap.size (.slice (some ⟨g, 0, none⟩) m' c) m' (fun _ => True)) := HO2.out.put Htl.out.1 trivial (fun _ _ => trivial)
              have HB8 := Lib.hid (HB8.out (.slice (some ⟨b, off + 1, none⟩) (m' - 1) (c' - 1)))
              clear HO2 HB2 Htl
              go_wp2
              go_ret
              exact ⟨_, m', rfl, by omega, HO8.out, HB8.out⟩
          · have hvb1 : (x == 1) = false := by rw [beq_eq_false_iff_ne]; exact hv1
            go_wp2
            go_ret
            exact ⟨_, i, rfl, by omega, HO2.out.weaken (fun _ _ => trivial), HB2.out⟩
end Go.Proofs.Ytakljcpneghgnaa
