/-
  Helpers with room, and calls, drawn.
  Conditions: none beyond what each theorem states.
-/
import Derived.Test.YtakljcpneghgnaaRD
import Derived.Test.YtakljcpneghgnaaWD
namespace Go.Proofs.Ytakljcpneghgnaa
open Go.ChangeShapes Go.WideShapes Go.ChangeAt Go.RowKit
set_option linter.unusedVariables false
set_option maxRecDepth 4000

/-- Ints of the call's own. -/
def OwnD (w : World) (B : Nat) (v : Value) (zs : List Int) : Prop := w.ownsRow B 3 1 v zs.length (zs.map (Value.int .i64))
theorem OwnD.drawn {w w' : World} {B R : Nat} {v : Value} {zs : List Int} (h : OwnD w B v zs) (hg : w.grownBy w' (some R)) (hR : R < B) : OwnD w' B v zs :=
  World.ownsRow.kept h hg (.inr (fun e => by have := (World.ownsRow.lt h R e).1; omega))
/-- What is written into a row of rows leaves them. -/
theorem OwnD.aside {w w' : World} {B B' n : Nat} {v u : Value} {zs : List Int} {xs : List Value} (h : OwnD w B v zs) (ho : w.ownsRow B' 23 1 u n xs) (hg : w.grownBy w' u.ownBlock) : OwnD w' B v zs :=
  World.ownsRow.kept h hg (by
    rcases e : v.ownBlock with _ | g
    · exact .inl rfl
    · right
      intro e2
      obtain ⟨⟨cs, hc⟩, -⟩ := own_heap h e
      exact own_notInt ho g e2.symm cs hc)
theorem cell_one_at (w : World) (x : Value) (t : TypeId) (g : Nat) (hg : w.heap.size = g) : ∀ j u, [x][j]? = some u → (w.alloc (.cells #[x] t)).cell? ((⟨g, 0, none⟩ : Addr).add j) = some u := by subst hg; exact cell_one_new w x t
def HelpRel (B R k : Nat) (w : World) (o v : Value) (wr : World) : Prop :=
  ∃ m q : Nat, ∃ zs : List Int, (∃ g c, o = .slice (some ⟨g, 0, none⟩) zs.length c) ∧ v = .int .i64 m ∧ zs.length + m ≤ 4 ∧ q + m ≤ k + 5 ∧ Hid (OwnD wr w.heap.size o zs) ∧ Hid (GR wr B R q) ∧ Hid (w.grownBy wr (some R))
def WishRel (B R k B1 : Nat) (w : World) (rv : Value) (zs : List Int) (o v : Value) (wr : World) : Prop :=
  ∃ m q i : Nat, (∃ g c, o = .slice (some ⟨g, 0, none⟩) i c) ∧ v = .int .i64 m ∧ i + m ≤ 7 ∧ q + 4 * m ≤ k + 40 ∧ Hid (GRows wr B1 o i (fun _ => True)) ∧ Hid (OwnD wr w.heap.size rv zs) ∧ Hid (GR wr B R q) ∧ Hid (w.grownBy wr (some R)) ∧ B1 ≤ wr.heap.size
def CallRel (B R p H : Nat) (W : World) (o v : Value) (wr : World) : Prop :=
  ∃ j q g c : Nat, ∃ zs : List Int, v = .int .i64 j ∧ j ≤ H ∧ zs.length ≤ j ∧ q ≤ p + j ∧ o = .slice (some ⟨g, 0, none⟩) zs.length c ∧ Hid (OwnD wr W.heap.size o zs) ∧ Hid (GR wr B R q) ∧ Hid (W.grownBy wr (some R))
def DrawnRoomR (R : Nat) (w : World) (e : Ending) (w' : World) : Prop :=
  ∃ A A' c c' H n, ∃ room : List Int, ∃ wish : List (List Int), e = .returned (.tuple #[.slice A H c, .slice A' n c']) ∧ H ≤ 5 ∧ n ≤ 8 ∧ Hid (RoomIn w' A A' c c' H n room wish) ∧ Hid (w.grownBy w' (some R))
theorem drawn_end {R B1 : Nat} {w w' : World} {v v' : Value} {zs : List Int} {n : Nat} (hl : zs.length ≤ 5) (hn : n ≤ 8) (ho : OwnD w' w.heap.size v zs) (hg : GRows w' B1 v' n (fun _ => True)) (hb : w.grownBy w' (some R)) : DrawnRoomR R w (.returned (.tuple #[v, v'])) w' := by
  obtain ⟨A, c, rfl, hc, hm, hrd⟩ := own_slice ho rfl
  obtain ⟨A', c', L, rfl, hc', hm', hL, h8, hrd'⟩ := hg.read hn
  exact ⟨A, A', c, c', zs.length, n, zs, L, rfl, hl, hn, ⟨hrd, rfl, ⟨hc, hm⟩, by omega, hrd', hL, ⟨hc', hm'⟩, by rw [hL]; omega, fun i hi => by have := h8 i (by omega); omega⟩, hb⟩
set_option maxHeartbeats 4000000 in
theorem someRoom_any (R B k : Nat) (w : World) (hg : GR w B R k) (hk : k ≤ 80000) :
    Calls Try.prog 43 #[.pointer (some ⟨R, 0, none⟩)] w (DrawnRoomR R w) := by
  obtain ⟨i0, hi0, hz0, hz1, hz2⟩ := info_parts intInfo
  obtain ⟨is, his, hzs0, hzs1, hzs2⟩ := info_parts slInfo2
  have hRlt := hg.lt
  have HG0 : Hid (GR (w.alloc (.cells #[] 3)) B R k) := hg.kept (row := none) (World.grownBy_alloc _ _ _) (fun g h => by cases h)
  have HO0 : Hid (OwnD (w.alloc (.cells #[] 3)) w.heap.size (.slice (some ⟨w.heap.size, 0, none⟩) 0 0) []) := World.ownsRow_lit w #[] 0 (Nat.le_refl _) (by decide) rfl
  have HB0 : Hid (w.grownBy (w.alloc (.cells #[] 3)) (some R)) := World.grownBy_alloc w _ _
  clear hg
  go_enter Try.func43, Try.ntmps43
  go_wp2_with fail
  refine (oneLitAt _ R B k [3, 2, 4, 1, 0] 5 0 4 _ _ HG0.out (by omega) rfl (by omega) (by omega) rfl (by decide) (size_alloc1 _ _)).mono ?_
  rintro e w1 ⟨n, rfl, hn0, hn6, hg1, hgr1⟩
  obtain ⟨n, rfl⟩ := Int.eq_ofNat_of_zero_le hn0
  have HG1 := Lib.hid hg1
  have HO1 := Lib.hid (HO0.out.drawn hgr1 hRlt)
  have HB1 := Lib.hid (gb_trans HB0.out hgr1 (.inl rfl))
  clear hg1 hgr1 HG0 HO0 HB0
  go_wp2
  go_loopw [4, 5] (fun o v wr => HelpRel B R k w o v wr) (fun _ v _ => (intOf v).toNat)
  case atStart => exact ⟨n, k + 1, [], ⟨_, _, rfl⟩, rfl, by simp; omega, by omega, HO1, HG1, HB1⟩
  case round =>
    clear HO1 HG1 HB1
    obtain ⟨m, q, zs, ⟨g, c, rfl⟩, rfl, hlm, hq, HO, HG, HB⟩ := hrel
    by_cases hpos : 0 < m
    · obtain ⟨L, HL⟩ : ∃ L, Hid (zs.length = L) := ⟨_, rfl⟩
      rw [HL.out] at hlm HO ⊢
      go_wp2_with fail
      refine (oneLitAt _ R B q [1, 2, 1, 0, 3] 5 0 3 wr _ HG.out (by omega) rfl (by omega) (by omega) rfl (by decide) rfl).mono ?_
      rintro e w5 ⟨d, rfl, hd0, hd1, hg5, hgw5⟩
      have hown5 : w5.ownsRow w.heap.size 3 1 (.slice (some ⟨g, 0, none⟩) L c) L (zs.map (Value.int .i64)) := by
        have := HO.out.drawn hgw5 hRlt
        unfold OwnD at this
        rw [HL.out] at this
        exact this
      have Hown5 := Lib.hid hown5
      have HB5 := Lib.hid (gb_trans HB.out hgw5 (.inl rfl))
      have HG5 := Lib.hid hg5
      have hsz : L + 1 ≤ maxLen := by unfold maxLen; omega
      have hsz2 : (L + 1) * 8 ≤ 140737488355328 := by omega
      have hsz3 : w.heap.size ≤ (w5.alloc (.cells #[.int .i64 d] 3)).heap.size := by rw [size_alloc1]; have := HB5.out.size; omega
      clear hown5 hg5 hgw5 HO HG HB hd0 hd1
      go_wp2_with (at_builtin; refine wpList_append_lies _ rfl _ _ 23 rfl w.heap.size 3 i0 _ 1 8 Try.underlying23 hi0 hz0 hz1 hz2 rfl (by decide) _ _ _ rfl (Hown5.out.alloc _) ⟨w5.heap.size, 0, none⟩ 1 1 [.int .i64 d] rfl rfl (cell_one_new _ _ _) (by intro u hu; simp at hu; subst hu; rfl) (by decide) hsz hsz2 hsz3 _ rfl ?_; intro g6 c6 w6 hown6 hgrow6 hat6 hlt6)
      have hl6 : Hid ((zs ++ [d]).length = L + 1) := by show _ = _; rw [List.length_append, HL.out]; rfl
      have HR6 : Hid (OwnD w6 w.heap.size (.slice (some ⟨g6, 0, none⟩) (L + 1) c6) (zs ++ [d])) := by show World.ownsRow _ _ _ _ _ _ _; rw [hl6.out, List.map_append]; exact hown6
      have HG6 : Hid (GR w6 B R (q + 1)) := (HG5.out.kept (row := none) (World.grownBy_alloc _ _ _) (fun g h => by cases h)).kept hgrow6 (fun g h => by have := (Hown5.out.lt g h).1; omega)
      have HB6 : Hid (w.grownBy w6 (some R)) := gb_trans (gb_trans HB5.out (World.grownBy_alloc w5 _ none) (.inr (fun g h => by cases h))) hgrow6 (.inr (fun g h => (Hown5.out.lt g h).1))
      clear hown6 hgrow6 hat6 hlt6 Hown5 HG5 HB5 hsz hsz2 hsz3
      go_wp2
      go_roundw
      case rel => exact ⟨m - 1, q + 1, zs ++ [d], ⟨g6, c6, by rw [hl6.out]⟩, by go_num, by rw [hl6.out]; omega, by omega, HR6, HG6, HB6⟩
      case measure => simp [intOf]; omega
    · obtain rfl : m = 0 := by omega
      obtain ⟨L, HL⟩ : ∃ L, Hid (zs.length = L) := ⟨_, rfl⟩
      rw [HL.out] at hlm
      have Hsh : Hid (∃ c', (Value.slice (some ⟨g, 0, none⟩) zs.length c = .slice (some ⟨g, 0, none⟩) L c')) := ⟨c, by rw [HL.out]⟩
      rw [HL.out] at HO ⊢
      have hBw0 := HB.out.size
      have hga : GR (wr.alloc (.cells #[] 23)) B R q := HG.out.kept (row := none) (World.grownBy_alloc _ _ _) (fun g h => by cases h)
      have HGa := Lib.hid hga
      have HOa : Hid (OwnD (wr.alloc (.cells #[] 23)) w.heap.size (.slice (some ⟨g, 0, none⟩) L c) zs) := World.ownsRow.alloc HO.out _
      have HBa : Hid (w.grownBy (wr.alloc (.cells #[] 23)) (some R)) := gb_trans HB.out (World.grownBy_alloc wr _ none) (.inr (fun g h => by cases h))
      have hgw0 : g < wr.heap.size := (World.ownsRow.lt HO.out g rfl).2
      obtain ⟨B1, hB1⟩ : ∃ B1, wr.heap.size = B1 := ⟨_, rfl⟩
      have HWa : Hid (GRows (wr.alloc (.cells #[] 23)) B1 (.slice (some ⟨wr.heap.size, 0, none⟩) 0 0) 0 (fun _ => True)) :=
        ⟨[], World.ownsRow_lit wr #[] 0 (by omega) (by decide) rfl, fun u hu => by simp at hu⟩
      have HBw : w.heap.size ≤ B1 := by omega
      have hRw : R < B1 := by omega
      have hgw : g < B1 := by omega
      have hBle : B1 ≤ wr.heap.size := by omega
      clear hga HO HG HB Hsh hB1
      go_wp2_with fail
      refine (oneLitAt _ R B q [4, 5, 3, 6, 2, 7, 0] 7 0 7 _ _ HGa.out (by omega) rfl (by omega) (by omega) rfl (by decide) (size_alloc1 _ _)).mono ?_
      rintro e w2 ⟨n2, rfl, hn20, hn27, hg2, hgw2⟩
      obtain ⟨n2, rfl⟩ := Int.eq_ofNat_of_zero_le hn20
      have HG2 := Lib.hid hg2
      have HO2 := Lib.hid (HOa.out.drawn hgw2 hRlt)
      have HB2 := Lib.hid (gb_trans HBa.out hgw2 (.inl rfl))
      have HW2 := Lib.hid (HWa.out.drawn HGa.out hgw2 hRw)
      have hs2 : B1 ≤ w2.heap.size := by have := hgw2.size; rw [size_alloc1] at this; omega
      clear hg2 hgw2 HGa HOa HBa HWa
      go_wp2
      go_loopw [6, 7] (fun o v wr => WishRel B R k B1 w (.slice (some ⟨g, 0, none⟩) L c) zs o v wr) (fun _ v _ => (intOf v).toNat)
      case atStart => exact ⟨n2, q + 1, 0, ⟨_, _, rfl⟩, rfl, by omega, by omega, HW2, HO2, HG2, HB2, hs2⟩
      case round =>
        clear HW2 HO2 HG2 HB2 hs2
        obtain ⟨m, q, i, ⟨g', c', rfl⟩, rfl, him, hq, HW, HO, HG, HB, hs⟩ := hrel
        by_cases hpos : 0 < m
        · obtain ⟨W, rfl⟩ : ∃ W, W = wr := ⟨_, rfl⟩
          have HR0 : Hid (OwnD (W.alloc (.cells #[] 3)) W.heap.size (.slice (some ⟨W.heap.size, 0, none⟩) 0 0) []) := World.ownsRow_lit W #[] 0 (Nat.le_refl _) (by decide) rfl
          have HG0 : Hid (GR (W.alloc (.cells #[] 3)) B R q) := HG.out.kept (row := none) (World.grownBy_alloc _ _ _) (fun g h => by cases h)
          have HB0 : Hid (W.grownBy (W.alloc (.cells #[] 3)) (some R)) := World.grownBy_alloc W _ _
          have hWR := HG.out.lt
          go_wp2
          go_loopw [8, 9] (fun o v wr => CallRel B R q L W o v wr) (fun _ v _ => L - (intOf v).toNat)
          case atStart => exact ⟨0, q, _, _, [], rfl, by omega, by simp, by omega, rfl, HR0, HG0, HB0⟩
          case round =>
            clear HR0 HG0 HB0
            obtain ⟨j, p, gr, cr, ys, rfl, hjL, hys, hp, rfl, HOr, HGr, HBr⟩ := hrel
            obtain ⟨M, HM⟩ : ∃ M, Hid (ys.length = M) := ⟨_, rfl⟩
            rw [HM.out] at hys HOr ⊢
            by_cases hjlt : j < L
            · go_wp2_with fail
              refine (pick_any R B p 5 wr HGr.out (by omega) (by omega) (by omega)).mono ?_
              rintro e w5 ⟨x, rfl, hx0, hx1, -, hg5, hgw5⟩
              have hown5 : w5.ownsRow W.heap.size 3 1 (.slice (some ⟨gr, 0, none⟩) M cr) M (ys.map (Value.int .i64)) := by
                have := HOr.out.drawn hgw5 hWR
                unfold OwnD at this
                rw [HM.out] at this
                exact this
              have Hown5 := Lib.hid hown5
              have HB5 := Lib.hid (gb_trans HBr.out hgw5 (.inl rfl))
              have HG5 := Lib.hid hg5
              clear hown5 hg5 hgw5 HGr HBr HOr hx1
              by_cases hx2 : x < 2
              · have hsz : M + 1 ≤ maxLen := by unfold maxLen; omega
                have hsz2 : (M + 1) * 8 ≤ 140737488355328 := by omega
                have hsz3 : W.heap.size ≤ (w5.alloc (.cells #[.int .i64 j] 3)).heap.size := by rw [size_alloc1]; have := HB5.out.size; omega
                go_wp2_with (at_builtin; refine wpList_append_lies _ rfl _ _ 23 rfl W.heap.size 3 i0 _ 1 8 Try.underlying23 hi0 hz0 hz1 hz2 rfl (by decide) _ _ _ rfl (Hown5.out.alloc _) ⟨w5.heap.size, 0, none⟩ 1 1 [.int .i64 j] rfl rfl (cell_one_new _ _ _) (by intro u hu; simp at hu; subst hu; rfl) (by decide) hsz hsz2 hsz3 _ rfl ?_; intro g6 c6 w6 hown6 hgrow6 hat6 hlt6)
                have hl6 : Hid ((ys ++ [(j : Int)]).length = M + 1) := by show _ = _; rw [List.length_append, HM.out]; rfl
                have HR6 : Hid (OwnD w6 W.heap.size (.slice (some ⟨g6, 0, none⟩) (M + 1) c6) (ys ++ [(j : Int)])) := by show World.ownsRow _ _ _ _ _ _ _; rw [hl6.out, List.map_append]; exact hown6
                have HG6 : Hid (GR w6 B R (p + 1)) := (HG5.out.kept (row := none) (World.grownBy_alloc _ _ _) (fun g h => by cases h)).kept hgrow6 (fun g h => by have := (Hown5.out.lt g h).1; omega)
                have HB6 : Hid (W.grownBy w6 (some R)) := gb_trans (gb_trans HB5.out (World.grownBy_alloc w5 _ none) (.inr (fun g h => by cases h))) hgrow6 (.inr (fun g h => (Hown5.out.lt g h).1))
                clear hown6 hgrow6 hat6 hlt6 Hown5 HG5 HB5 hsz hsz2 hsz3
                go_wp2
                go_roundw
                case rel => exact ⟨j + 1, p + 1, g6, c6, ys ++ [(j : Int)], by go_num, by omega, by rw [hl6.out]; omega, by omega, by rw [hl6.out], HR6, HG6, HB6⟩
                case measure => simp [intOf]; omega
              · have HR6 : Hid (OwnD w5 W.heap.size (.slice (some ⟨gr, 0, none⟩) M cr) ys) := by show World.ownsRow _ _ _ _ _ _ _; rw [HM.out]; exact Hown5.out
                clear Hown5
                go_wp2
                go_roundw
                case rel => exact ⟨j + 1, p + 1, gr, cr, ys, by go_num, by omega, by rw [HM.out]; omega, by omega, by rw [HM.out], HR6, HG5, HB5⟩
                case measure => simp [intOf]; omega
            · obtain rfl : j = L := by omega
              have hBB : B1 ≤ W.heap.size := hs
              have HGo := Lib.hid (HW.out.drawn HG.out HBr.out hRw)
              obtain ⟨vs, ho, hv⟩ := HGo.out
              have hOr : wr.ownsRow W.heap.size 3 1 (.slice (some ⟨gr, 0, none⟩) M cr) M (ys.map (Value.int .i64)) := by
                have := HOr.out
                unfold OwnD at this
                rw [HM.out] at this
                exact this
              have HGu := Lib.hid (gRow_own (B' := B1) hOr HM.out (by omega) hBB)
              have Ho := Lib.hid ho
              have Hv := Lib.hid hv
              have HOz := Lib.hid (HO.out.drawn HBr.out hRlt)
              have hgW : w.grownBy wr (some R) := gb_trans HB.out HBr.out (.inl rfl)
              have HgW := Lib.hid hgW
              have hs2 := HBr.out.size
              have hsz : i + 1 ≤ maxLen := by unfold maxLen; omega
              have hsz2 : (i + 1) * 24 ≤ 140737488355328 := by omega
              have hsz3 : ∀ o, B1 ≤ (wr.alloc o).heap.size := fun o => by rw [size_alloc1]; omega
              have Hsz3 := Lib.hid hsz3
              clear ho hv hgW hsz3 HOr hOr
              go_wp2_with (at_builtin; refine wpList_append_lies _ rfl _ _ 24 rfl B1 23 is _ 1 24 Try.underlying24 his hzs0 hzs1 hzs2 rfl (by decide) _ _ _ rfl (World.ownsRow.alloc Ho.out _) ⟨_, 0, none⟩ 1 1 [.slice (some ⟨gr, 0, none⟩) M cr] rfl rfl (cell_one_new _ _ _) (by intro u hu; simp at hu; subst hu; rfl) (by decide) hsz hsz2 (Hsz3.out _) _ rfl ?_; intro g3 c3 w3 hown3 hgrow3 hat3 hlt3)
              have HW3 : Hid (GRows w3 B1 (.slice (some ⟨g3, 0, none⟩) (i + 1) c3) (i + 1) (fun _ => True)) := gRows_push Ho.out Hv.out HGu.out trivial hgrow3 hown3
              have HG3 : Hid (GR w3 B R p) := (HGr.out.kept (row := none) (World.grownBy_alloc _ _ _) (fun g h => by cases h)).kept hgrow3 (fun g h => by have := (Ho.out.lt g h).1; omega)
              have HB3 : Hid (w.grownBy w3 (some R)) := gb_trans (gb_trans HgW.out (World.grownBy_alloc wr _ none) (.inr (fun g h => by cases h))) hgrow3 (.inr (fun g h => by have := (Ho.out.lt g h).1; omega))
              have HO3 : Hid (OwnD w3 w.heap.size (.slice (some ⟨g, 0, none⟩) j c) zs) := OwnD.aside (World.ownsRow.alloc HOz.out _) (World.ownsRow.alloc Ho.out _) hgrow3
              have hs3 : B1 ≤ w3.heap.size := by have := hgrow3.size; rw [size_alloc1] at this; omega
              clear hown3 hgrow3 hat3 hlt3 HGo HGu Ho Hv HgW Hsz3 HGr HBr HO HG HB HW HOz
              go_wp2
              go_roundw
              case rel => exact ⟨m - 1, p, i + 1, ⟨_, _, rfl⟩, by go_num, by omega, by omega, HW3, HO3, HG3, HB3, hs3⟩
              case measure => simp [intOf]; omega
        · obtain rfl : m = 0 := by omega
          go_wp2_with fail
          refine (pick_any R B q 40 wr HG.out (by omega) (by omega) (by omega)).mono ?_
          rintro e w2 ⟨x, rfl, hx0, -, -, hg2, hgw2⟩
          have HW2 := Lib.hid (HW.out.drawn HG.out hgw2 hRw)
          have HO2 := Lib.hid (HO.out.drawn hgw2 hRlt)
          have HB2 := Lib.hid (gb_trans HB.out hgw2 (.inl rfl))
          have HG2 := Lib.hid hg2
          have hs2 := hgw2.size
          clear HW HO HG HB hg2 hgw2
          by_cases hv0 : x = 0
          · subst hv0
            go_wp2_with fail
            refine (oneLitAt _ R B (q + 1) [-1, 8] 2 (-1) 8 w2 _ HG2.out (by omega) rfl (by omega) (by omega) rfl (by decide) rfl).mono ?_
            rintro e w5 ⟨d, rfl, hd0, hd1, hg5, hgw5⟩
            have hown5 : w5.ownsRow w.heap.size 3 1 (.slice (some ⟨g, 0, none⟩) L c) L (zs.map (Value.int .i64)) := by
              have := HO2.out.drawn hgw5 hRlt
              unfold OwnD at this
              rw [HL.out] at this
              exact this
            have Hown5 := Lib.hid hown5
            have HB5 := Lib.hid (gb_trans HB2.out hgw5 (.inl rfl))
            have HW5 := Lib.hid (HW2.out.drawn HG2.out hgw5 hRw)
            have hsz : L + 1 ≤ maxLen := by unfold maxLen; omega
            have hsz2 : (L + 1) * 8 ≤ 140737488355328 := by omega
            have hsz3 : w.heap.size ≤ (w5.alloc (.cells #[.int .i64 d] 3)).heap.size := by rw [size_alloc1]; have := HB5.out.size; omega
            clear hown5 hg5 hgw5 HO2 HG2 HB2 HW2 hd0 hd1
            go_wp2_with (at_builtin; refine wpList_append_lies _ rfl _ _ 23 rfl w.heap.size 3 i0 _ 1 8 Try.underlying23 hi0 hz0 hz1 hz2 rfl (by decide) _ _ _ rfl (Hown5.out.alloc _) ⟨w5.heap.size, 0, none⟩ 1 1 [.int .i64 d] rfl rfl (cell_one_new _ _ _) (by intro u hu; simp at hu; subst hu; rfl) (by decide) hsz hsz2 hsz3 _ rfl ?_; intro g6 c6 w6 hown6 hgrow6 hat6 hlt6)
            have hl6 : Hid ((zs ++ [d]).length = L + 1) := by show _ = _; rw [List.length_append, HL.out]; rfl
            have HR6 : Hid (OwnD w6 w.heap.size (.slice (some ⟨g6, 0, none⟩) (L + 1) c6) (zs ++ [d])) := by show World.ownsRow _ _ _ _ _ _ _; rw [hl6.out, List.map_append]; exact hown6
            have HW6 : Hid (GRows w6 B1 (.slice (some ⟨g', 0, none⟩) i c') i (fun _ => True)) := (HW5.out.aside (World.grownBy_alloc w5 _ none) (fun g h => by cases h)).aside hgrow6 (fun g h => by cases h; exact hgw)
            have HB6 : Hid (w.grownBy w6 (some R)) := gb_trans (gb_trans HB5.out (World.grownBy_alloc w5 _ none) (.inr (fun g h => by cases h))) hgrow6 (.inr (fun g h => (Hown5.out.lt g h).1))
            have Hend := Lib.hid (drawn_end (by rw [hl6.out]; omega) (by omega) HR6.out HW6.out HB6.out)
            clear hown6 hgrow6 hat6 hlt6 Hown5 HB5 hsz hsz2 hsz3 HR6 HW6 HB6 HW5
            go_wp2
            go_ret2
            exact Hend.out
          · have hvb : (x == 0) = false := by rw [beq_eq_false_iff_ne]; exact hv0
            by_cases hv1 : x = 1
            · subst hv1
              go_wp2_with fail
              refine (oneLitAt _ R B (q + 1) [-1, (L : Int), 0] 3 (-1) 4 w2 _ HG2.out (by omega) rfl (by omega) (by omega) rfl (by intro x hx; simp at hx; omega) rfl).mono ?_
              rintro e w5 ⟨d, rfl, hd0, hd1, hg5, hgw5⟩
              have HO5 := Lib.hid (HO2.out.drawn hgw5 hRlt)
              have HB5 := Lib.hid (gb_trans HB2.out hgw5 (.inl rfl))
              have HW5 := Lib.hid (HW2.out.drawn HG2.out hgw5 hRw)
              have hs5 := hgw5.size
              have HWr := Lib.hid (HW5.out.aside (World.grownBy_alloc w5 (.cells #[.int .i64 d] 3) none) (fun g h => by cases h))
              have HOr := Lib.hid (World.ownsRow.alloc HO5.out (.cells #[.int .i64 d] 3))
              have HBr := Lib.hid (gb_trans HB5.out (World.grownBy_alloc w5 (.cells #[.int .i64 d] 3) none) (.inr (fun g h => by cases h)))
              have HGu : Hid (GRow (w5.alloc (.cells #[.int .i64 d] 3)) B1 (.slice (some ⟨w5.heap.size, 0, none⟩) 1 1)) := gRow_own (B := B1) (zs := [d]) (World.ownsRow_lit w5 #[.int .i64 d] 1 (by omega) (by decide) rfl) rfl (by omega) (Nat.le_refl _)
              obtain ⟨vs, ho, hv⟩ := HWr.out
              have Ho := Lib.hid ho
              have Hv := Lib.hid hv
              have hsz : i + 1 ≤ maxLen := by unfold maxLen; omega
              have hsz2 : (i + 1) * 24 ≤ 140737488355328 := by omega
              have hsz3 : ∀ o, B1 ≤ ((w5.alloc (.cells #[.int .i64 d] 3)).alloc o).heap.size := fun o => by rw [size_alloc1, size_alloc1]; omega
              have Hsz3 := Lib.hid hsz3
              clear ho hv hsz3 hg5 hgw5 HO2 HG2 HB2 HW2 hd0 hd1 HO5 HB5 HW5
              go_wp2_with (at_builtin; refine wpList_append_lies _ rfl _ _ 24 rfl B1 23 is _ 1 24 Try.underlying24 his hzs0 hzs1 hzs2 rfl (by decide) _ _ _ rfl (World.ownsRow.alloc Ho.out _) ⟨w5.heap.size + 1, 0, none⟩ 1 1 [.slice (some ⟨w5.heap.size, 0, none⟩) 1 1] rfl rfl (cell_one_at _ _ _ _ (size_alloc1 _ _)) (by intro u hu; simp at hu; subst hu; rfl) (by decide) hsz hsz2 (Hsz3.out _) _ rfl ?_; intro g3 c3 w3 hown3 hgrow3 hat3 hlt3)
              have HW3 : Hid (GRows w3 B1 (.slice (some ⟨g3, 0, none⟩) (i + 1) c3) (i + 1) (fun _ => True)) := gRows_push Ho.out Hv.out HGu.out trivial hgrow3 hown3
              have HB3 : Hid (w.grownBy w3 (some R)) := gb_trans (gb_trans HBr.out (World.grownBy_alloc _ _ none) (.inr (fun g h => by cases h))) hgrow3 (.inr (fun g h => by have := (Ho.out.lt g h).1; omega))
              have HO3 : Hid (OwnD w3 w.heap.size (.slice (some ⟨g, 0, none⟩) L c) zs) := OwnD.aside (World.ownsRow.alloc HOr.out _) (World.ownsRow.alloc Ho.out _) hgrow3
              have Hend := Lib.hid (drawn_end (by rw [HL.out]; omega) (by omega) HO3.out HW3.out HB3.out)
              clear hown3 hgrow3 hat3 hlt3 Ho Hv Hsz3 HO3 HW3 HB3 HWr HOr HBr HGu
              go_wp2
              go_ret2
              exact Hend.out
            · have hvb1 : (x == 1) = false := by rw [beq_eq_false_iff_ne]; exact hv1
              have Hend := Lib.hid (drawn_end (by rw [HL.out]; omega) (by omega) HO2.out HW2.out HB2.out)
              go_wp2
              go_ret2
              exact Hend.out
end Go.Proofs.Ytakljcpneghgnaa
