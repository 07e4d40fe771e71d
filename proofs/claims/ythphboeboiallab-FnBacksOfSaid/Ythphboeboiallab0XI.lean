/-
  listsInOrder of the program, walked: all lists of so many of the places, in order.
  Conditions: at most nine places, at least one, and at most four a list.
-/
import Derived.Test.Ythphboeboiallab0R
import Derived.Test.YthphboeboiallabUR
import Derived.Test.Ythphboeboiallab1L
namespace Go.Proofs.Ythphboeboiallab
open Go.ChangeShapes Go.WideShapes Go.ChangeAt Go.RowKit
set_option linter.unusedVariables false
set_option maxRecDepth 4000

/-- A table of lists of places of the call's own. -/
structure RowsI (w : World) (B g c L : Nat) (Ls : List (List Int)) (VR : Nat → Value) : Prop where
  len : Ls.length = L
  out : Outer w B L (.slice (some ⟨g, 0, none⟩) L c) VR
  tt : TT w B L VR (fun j => Ls.getD j [])
theorem RowsI.below {w w' : World} {B g c L : Nat} {Ls : List (List Int)} {VR : Nat → Value} (h : RowsI w B g c L Ls VR) (hb : Below w.heap.size w w') : RowsI w' B g c L Ls VR := ⟨h.len, h.out.below hb, h.tt.below hb⟩
theorem RowsI.g_lt {w : World} {B g c L : Nat} {Ls : List (List Int)} {VR : Nat → Value} (h : RowsI w B g c L Ls VR) : B ≤ g ∧ g < w.heap.size := World.ownsRow.lt h.out g rfl
theorem getD_snocI {Ls : List (List Int)} {l : List Int} {L j : Nat} (hL : Ls.length = L) (hj : j < L + 1) : upd (fun j => Ls.getD j []) L l j = (Ls ++ [l]).getD j [] := by
  by_cases e : j = L
  · subst e; rw [upd_at]; simp [List.getD, hL]
  · rw [upd_other _ _ e]
    simp only [List.getD]
    rw [List.getElem?_append_left (by omega)]
/-- One row more. -/
theorem RowsI.push {W wr w4 w5 : World} {g c L g5 c5 k : Nat} {Ls : List (List Int)} {VR : Nat → Value} {l : List Int} {v : Value} (h : RowsI wr W.heap.size g c L Ls VR) (hB : Below W.heap.size W wr) (hb : Below wr.heap.size wr w4) (hk : l.length = k)
    (hown : w4.ownsRow wr.heap.size 3 1 v k (l.map (Value.int .i64))) (hown5 : w5.ownsRow W.heap.size 23 1 (.slice (some ⟨g5, 0, none⟩) (L + 1) c5) (L + 1) ((List.range L).map VR ++ [v])) (hg : (w4.alloc (.cells #[v] 23)).grownBy w5 (Value.slice (some ⟨g, 0, none⟩) L c).ownBlock) :
    RowsI w5 W.heap.size g5 c5 (L + 1) (Ls ++ [l]) (upd VR L v) ∧ Below W.heap.size W w5 := by
  obtain ⟨h1, h2, h3⟩ := tabX_end (h.tt.addRow hB.size hb hk hown) (h.out.below hb) (hB.trans (hb.mono hB.size)) hown5 hg (size_alloc1 _ _)
  exact ⟨⟨by rw [List.length_append, h.len]; rfl, h1, h2.congr fun j hj => getD_snocI h.len hj⟩, h3⟩
/-- Another table stays. -/
theorem RowsI.stay {wr w4 w5 : World} {B B' g c L g1 c1 L1 : Nat} {Ls Ls1 : List (List Int)} {VR VR1 : Nat → Value} {o : Obj} (h : RowsI wr B g c L Ls VR) (h1 : RowsI wr B' g1 c1 L1 Ls1 VR1) (hne : g1 ≠ g) (hb : Below wr.heap.size wr w4) (hg : (w4.alloc o).grownBy w5 (Value.slice (some ⟨g1, 0, none⟩) L1 c1).ownBlock) : RowsI w5 B g c L Ls VR := by
  have hb2 : Below wr.heap.size wr (w4.alloc o) := hb.alloc hb.size _
  obtain ⟨⟨cs, hcs⟩, -, -⟩ := own_heap (h1.out.below hb2) (g := g1) rfl
  refine ⟨h.len, World.ownsRow.kept (h.out.below hb2) hg (.inr ?_), (h.tt.below hb2).keptBy hg fun g' e => ?_⟩
  · intro e
    injection e with e
    exact hne e.symm
  · injection e with e
    subst e
    exact ⟨cs, _, hcs, by decide⟩
/-- A row of the call's own, as a list wherever it lies. -/
theorem part_own {w : World} {B n : Nat} {v : Value} {xs : List Int} (h : w.ownsRow B 3 1 v n (xs.map (Value.int .i64))) (hn : xs.length = n) : ∃ A c, v = .slice A n c ∧ PartQ w A n c xs := by
  obtain ⟨A, c, rfl, h1, h2, hr⟩ := own_slice h hn
  refine ⟨A, c, rfl, hr, hn, ?_, ?_⟩
  · rintro rfl
    rcases h.2 with ⟨e, -⟩ | ⟨g, cap, cur, e, -⟩
    · injection e with _ e1 e2; exact ⟨e1, e2⟩
    · injection e with e _ _; cases e
  · rintro a rfl
    rcases h.2 with ⟨e, -⟩ | ⟨g, cap, cur, e, -⟩
    · injection e with e _ _; cases e
    · injection e with e _ _; injection e with e; exact ⟨g, 0, e⟩
theorem RowsI.rowAt {w : World} {B g c L : Nat} {Ls : List (List Int)} {VR : Nat → Value} (h : RowsI w B g c L Ls VR) {j : Nat} (hj : j < L) : ∃ A n c', w.cell? ⟨g, j, none⟩ = some (.slice A n c') ∧ PartQ w A n c' (Ls.getD j []) ∧ (Ls.getD j []).length = n := by
  obtain ⟨A, c', e, hp⟩ := part_own (h.tt.own j hj) rfl
  have hc := Outer.cell h.out hj
  rw [e] at hc
  exact ⟨A, _, c', hc, hp, rfl⟩


def LsPost (Ls : List (List Int)) (w : World) (e : Ending) (w' : World) : Prop :=
  ∃ g c VR, e = .returned (.slice (some ⟨g, 0, none⟩) Ls.length c) ∧ Hid (RowsI w' w.heap.size g c Ls.length Ls VR) ∧ Hid (Below w.heap.size w w')
theorem lsPost_zero (zs : List Int) (w : World) : LsPost (loL 0 zs) w (.returned (.slice (some ⟨w.heap.size + 1, 0, none⟩) 1 1)) ((w.alloc (.cells #[] 3)).alloc (.cells #[.slice (some ⟨w.heap.size, 0, none⟩) 0 0] 23)) := by
  have hb1 : Below w.heap.size w (w.alloc (.cells #[] 3)) := (Below.refl _ _).alloc (Nat.le_refl _) _
  have hs1 : (w.alloc (.cells #[] 3)).heap.size = w.heap.size + 1 := size_alloc1 _ _
  have h1 : (w.alloc (.cells #[] 3)).ownsRow w.heap.size 3 1 (.slice (some ⟨w.heap.size, 0, none⟩) 0 0) 0 [] := World.ownsRow_lit w #[] 0 (Nat.le_refl _) (by decide) rfl
  have h2 := World.ownsRow_lit (w.alloc (.cells #[] 3)) #[.slice (some ⟨w.heap.size, 0, none⟩) 0 0] 1 (base := w.heap.size) (size := 1) (e := 23) (by rw [hs1]; omega) (by decide) rfl
  rw [hs1] at h2
  refine ⟨w.heap.size + 1, 1, fun _ => .slice (some ⟨w.heap.size, 0, none⟩) 0 0, rfl, ⟨rfl, h2, ⟨fun j hj => ?_, fun i j g hi hj _ _ => ?_⟩⟩, hb1.alloc hb1.size _⟩
  · obtain rfl : j = 0 := by simp [loL] at hj; exact hj
    exact h1.alloc _
  · simp [loL] at hi hj; omega
def LsO (k n : Nat) (zs : List Int) (W : World) (o i : Value) (wr : World) : Prop :=
  ∃ p g c L VR, p ≤ n ∧ o = .slice (some ⟨g, 0, none⟩) L c ∧ i = .int .i64 ((p : Nat) : Int) ∧ Hid (RowsI wr W.heap.size g c L (loP (loL k) zs p) VR) ∧ Hid (Below W.heap.size W wr)
def LsI (k p gR cR N : Nat) (x : Int) (zs : List Int) (VRR : Nat → Value) (B : Nat) (W : World) (o i : Value) (wr : World) : Prop :=
  ∃ j g c L VR, j ≤ N ∧ o = .slice (some ⟨g, 0, none⟩) L c ∧ i = .int .i64 ((j : Nat) : Int) ∧ g ≠ gR ∧ Hid (RowsI wr W.heap.size g c L (loP (loL k) zs p ++ ((loL k (zs.drop p)).take j).map (x :: ·)) VR) ∧ Hid (RowsI wr B gR cR N (loL k (zs.drop p)) VRR) ∧ Hid (Below W.heap.size W wr)
theorem take_snocI {Ls : List (List Int)} {j : Nat} {x : Int} (h : j < Ls.length) : (Ls.take (j + 1)).map (x :: ·) = (Ls.take j).map (x :: ·) ++ [x :: Ls.getD j []] := by
  rw [List.take_succ_eq_append_getElem h, List.map_append]
  simp [List.getD, h]
theorem tail_runI (b o n c t : Nat) (h1 : t < n) (h2 : n ≤ c) (W : World) : (Instr.slice 23 (.slice (some ⟨b, o, none⟩) n c) (some (.int .i64 (t : Int))) none none).run Try.prog W = .ok (.slice (some ⟨b, o + t, none⟩) (n - t : Nat) (c - t : Nat)) W := by
  have e1 : (0 : Int) ≤ (t : Int) := by omega
  have e2 : (t : Int) ≤ (n : Int) := by omega
  have e3 : (n : Int) ≤ (c : Int) := by omega
  have e4 : ¬ c = t := by omega
  go_simp
  all_goals omega
theorem RdI.dropI {w : World} {B b off : Nat} {zs : List Int} (h : RdI w B (some ⟨b, off, none⟩) zs) (i : Nat) : RdI w B (some ⟨b, off + i, none⟩) (zs.drop i) := fun hp => by
  rw [List.length_drop] at hp
  obtain ⟨b', off', e, hb, hc⟩ := h (by omega)
  injection e with e
  injection e with e1 e2
  subst e1 e2
  refine ⟨b, off + i, rfl, hb, fun j hj => ?_⟩
  rw [List.length_drop] at hj
  rw [Nat.add_assoc, hc (i + j) (by omega)]
  simp [List.getD, List.getElem?_drop]
def LsAt (k : Nat) : Prop := ∀ (b off n c : Nat) (zs : List Int) (w : World), RdI w w.heap.size (some ⟨b, off, none⟩) zs → zs.length = n → 1 ≤ n → n ≤ 9 → n ≤ c → c ≤ 9223372036854775807 →
  Calls Try.prog 77 #[.slice (some ⟨b, off, none⟩) n c, .int .i64 ((k : Nat) : Int)] w (LsPost (loL k zs) w)
theorem ls_zero : LsAt 0 := by
  intro b off n c zs w hr hn h1 h9 hc hm
  have HE := Lib.hid (lsPost_zero zs w)
  clear hr hn
  go_enter Try.func77, Try.ntmps77
  go_wp2
  go_ret
  exact HE.out
set_option maxHeartbeats 3200000 in
theorem ls_step (k : Nat) (hk4 : k + 1 ≤ 4) (IH : LsAt k) : LsAt (k + 1) := by
  intro b off n c zs w hr hn h1 h9 hc hm
  obtain ⟨is, his, hzs0, hzs1, hzs2⟩ := info_parts slInfo2
  have HIH := Lib.hid IH
  have HR0 := Lib.hid hr
  have Hn := Lib.hid hn
  have HO0 : Hid (RowsI (w.alloc (.cells #[] 23)) w.heap.size w.heap.size 0 0 (loP (loL k) zs 0) (fun _ => .slice none 0 0)) := by
    have h := World.ownsRow_lit (base := w.heap.size) (e := 23) (size := 1) w #[] 0 (Nat.le_refl _) (by decide) rfl
    exact ⟨rfl, h, ⟨fun j hj => by omega, fun i j g hi _ _ _ => by omega⟩⟩
  have HB0 : Hid (Below w.heap.size w (w.alloc (.cells #[] 23))) := (Below.refl _ _).alloc (Nat.le_refl _) _
  have hk0 : (((k + 1 : Nat) : Int) == 0) = false := by rw [beq_eq_false_iff_ne]; omega
  have hk1 : IntKind.i64.wrap (((k + 1 : Nat) : Int) - 1) = (k : Int) := by rw [IntKind.wrap_i64]; omega
  have Hlen := Lib.hid (fun p (h2 : p ≤ n) => loP_le (k := k) (zs := zs) (p := p) hk4 (by omega) (by omega))
  generalize hkk : ((k + 1 : Nat) : Int) = kk at hk0 hk1 ⊢
  clear IH hkk hr hn
  go_enter Try.func77, Try.ntmps77
  go_wp2
  go_loopw [5, 17] (fun o i wr => LsO k n zs w o i wr) (fun _ i _ => n - (intOf i).toNat)
  case atStart => exact ⟨0, _, _, _, _, Nat.zero_le _, rfl, rfl, HO0, HB0⟩
  case round =>
    clear HO0 HB0
    obtain ⟨p, g, c2, L, VR, hpn, rfl, rfl, HT, HB⟩ := hrel
    by_cases hlt : p < n
    · have HRw := Lib.hid ((HR0.out.below HB.out).more HB.out.size)
      obtain ⟨b', off', x, e', hbl, Hx, hcell⟩ := HRw.out.x (k := p) (by rw [Hn.out]; exact hlt)
      injection e' with e'
      injection e' with e1 e2
      subst e1 e2
      have htl := fun W => tail_runI b off n c p hlt hc W
      have hnp : ((n - p : Nat) : Int) = (n : Int) - (p : Int) := by omega
      have HC2 := Lib.hid (HIH.out b (off + p) (n - p) (c - p) (zs.drop p) wr (HRw.out.dropI p) (by rw [List.length_drop, Hn.out]) (by omega) (by omega) (by omega) (by omega))
      clear hbl
      go_wp2_with fail
      refine HC2.out.mono ?_
      rintro e w2 ⟨gR, cR, VRR, rfl, hT2, hb2⟩
      obtain ⟨N, HN⟩ : ∃ N, Hid ((loL k (zs.drop p)).length = N) := ⟨_, rfl⟩
      rw [HN.out] at hT2 ⊢
      have hN : N ≤ 1000 := by rw [← HN.out]; exact loL_le (by omega) (by rw [List.length_drop, Hn.out]; omega)
      have hgne : g ≠ gR := by have := HT.out.g_lt; have := hT2.out.g_lt; omega
      have HT2 : Hid (RowsI w2 w.heap.size g c2 L (loP (loL k) zs p ++ ((loL k (zs.drop p)).take 0).map (x :: ·)) VR) := by
        have := HT.out.below hb2.out
        rw [List.take_zero, List.map_nil, List.append_nil]; exact this
      have HR2 := Lib.hid hT2.out
      have HB2 : Hid (Below w.heap.size w w2) := HB.out.trans (hb2.out.mono HB.out.size)
      clear HT HB hT2 hb2 htl hcell HRw HC2
      go_wp2
      go_loopw [5, 29] (fun o i wr' => LsI k p gR cR N x zs VRR wr.heap.size w o i wr') (fun _ i _ => N - (intOf i).toNat)
      case atStart => exact ⟨0, _, _, _, _, Nat.zero_le _, rfl, rfl, hgne, HT2, HR2, HB2⟩
      case round =>
        clear HT2 HR2 HB2 hgne
        obtain ⟨j, g, c3, L, VR, hj, rfl, rfl, hgne, HT, HR, HB⟩ := hrel
        by_cases hlj : j < N
        · obtain ⟨A1, n1, c1, hc1, hp1, hl1⟩ := HR.out.rowAt hlj
          have hn1 : n1 = k := by rw [← hl1]; exact (loL_row (by rw [HN.out]; exact hlj)).1
          rw [hn1] at hc1 hp1 hl1
          clear hn1
          obtain ⟨l, Hl⟩ : ∃ l, Hid ((loL k (zs.drop p)).getD j [] = l) := ⟨_, rfl⟩
          rw [Hl.out] at hp1 hl1
          have HP1 := Lib.hid hp1
          have hLl := Hlen.out (p + 1) (by omega)
          have hLe := HT.out.len
          have hL : L + 1 ≤ 1000 := by
            rw [loP_succ, List.length_append, List.length_map, HN.out] at hLl
            rw [List.length_append, List.length_map, List.length_take, HN.out] at hLe
            omega
          have hb3 : Below wr.heap.size wr ((wr.alloc (.cells #[.int .i64 x] 3)).alloc (.cells #[.slice (some ⟨wr.heap.size, 0, none⟩) 1 1, .slice A1 k c1] 23)) := ((Below.refl _ _).alloc (Nat.le_refl _) _).alloc (by rw [size_alloc1]; omega) _
          have hs3 : ((wr.alloc (.cells #[.int .i64 x] 3)).alloc (.cells #[.slice (some ⟨wr.heap.size, 0, none⟩) 1 1, .slice A1 k c1] 23)).heap.size = wr.heap.size + 1 + 1 := by rw [size_alloc1, size_alloc1]
          have hv3 : ((wr.alloc (.cells #[.int .i64 x] 3)).alloc (.cells #[.slice (some ⟨wr.heap.size, 0, none⟩) 1 1, .slice A1 k c1] 23)).heap[wr.heap.size + 1]? = some (.cells #[.slice (some ⟨wr.heap.size, 0, none⟩) 1 1, .slice A1 k c1] 23 (0, 0)) := by
            have := heap_alloc_new (wr.alloc (.cells #[.int .i64 x] 3)) (.cells #[.slice (some ⟨wr.heap.size, 0, none⟩) 1 1, .slice A1 k c1] 23)
            rw [size_alloc1] at this; exact this
          have hp3 : ((wr.alloc (.cells #[.int .i64 x] 3)).alloc (.cells #[.slice (some ⟨wr.heap.size, 0, none⟩) 1 1, .slice A1 k c1] 23)).heap[wr.heap.size]? = some (.cells #[.int .i64 x] 3 (0, 0)) := by
            rw [heap_alloc_old _ _ (by rw [size_alloc1]; omega)]; exact heap_alloc_new _ _
          have HCc : Hid (Calls Try.prog 67 #[.slice (some ⟨wr.heap.size + 1, 0, none⟩) 2 2] ((wr.alloc (.cells #[.int .i64 x] 3)).alloc (.cells #[.slice (some ⟨wr.heap.size, 0, none⟩) 1 1, .slice A1 k c1] 23)) (RowQ (x :: l) ((wr.alloc (.cells #[.int .i64 x] 3)).alloc (.cells #[.slice (some ⟨wr.heap.size, 0, none⟩) 1 1, .slice A1 k c1] 23)))) := by
            show Calls _ _ _ _ _
            have e : x :: l = [x] ++ l := rfl
            rw [e]
            refine concatQ_any (wr.heap.size + 1) 2 1 1 k c1 (some ⟨wr.heap.size, 0, none⟩) A1 [x] l _ ⟨fun _ => ⟨wr.heap.size, 0, rfl, by rw [hs3]; omega, fun i hi => ?_⟩, rfl, (fun h => by cases h), fun a ha => ⟨wr.heap.size, 0, by injection ha with ha; exact ha.symm⟩⟩ (HP1.out.later hb3) (by omega) (by omega) hv3
            obtain rfl : i = 0 := by simp at hi; exact hi
            rw [cell_of_row _ _ _ _ _ _ hp3]; rfl
          have HB3 := Lib.hid hb3
          have Hs3 := Lib.hid hs3
          have Hkl : Hid ((x :: l).length = k + 1) := by show _ = _; rw [List.length_cons, hl1]
          clear hb3 hs3 hv3 hp3 hLl hLe hp1 HP1
          go_wp2_with fail
          refine HCc.out.mono ?_
          rintro e w4 ⟨A4, c4, rfl, ho4, hb4⟩
          rw [Hkl.out] at ho4 ⊢
          have HB4 : Hid (Below wr.heap.size wr w4) := HB3.out.trans (hb4.out.mono HB3.out.size)
          have HO4 : Hid (w4.ownsRow wr.heap.size 3 1 (.slice A4 (k + 1) c4) (k + 1) ((x :: l).map (Value.int .i64))) := own_lowQ ho4.out HB3.out.size
          have HT4 := Lib.hid (World.ownsRow.alloc (HT.out.below HB4.out).out (.cells #[.slice A4 (k + 1) c4] 23))
          have hsz1 : L + 1 ≤ maxLen := by unfold maxLen; omega
          have hsz2 : (L + 1) * 24 ≤ 140737488355328 := by omega
          have hB4 : w.heap.size ≤ w4.heap.size := Nat.le_trans HB.out.size HB4.out.size
          have hsz3 : w.heap.size ≤ (w4.alloc (.cells #[.slice A4 (k + 1) c4] 23)).heap.size := by rw [size_alloc1]; omega
          clear ho4 hb4 HCc HB3 Hs3
          go_wp2_with (at_builtin; refine wpList_append_lies _ rfl _ _ 68 rfl w.heap.size 23 is _ 1 24 Try.underlying68 his hzs0 hzs1 hzs2 rfl (by decide) _ _ _ rfl HT4.out ⟨_, 0, none⟩ 1 1 [.slice A4 (k + 1) c4] rfl rfl (cell_one_new _ _ _) (by intro u hu; simp at hu; subst hu; rfl) (by decide) hsz1 hsz2 hsz3 _ rfl ?_; intro g5 c5 w5 hown5 hgrow5 hat5 hlt5)
          obtain ⟨hT5, hB5⟩ := HT.out.push HB.out HB4.out Hkl.out HO4.out hown5 hgrow5
          have HR5 := Lib.hid (HR.out.stay HT.out hgne HB4.out hgrow5)
          have hg5 : g5 ≠ gR := by
            rcases hat5 with h5 | h5
            · injection h5 with h5
              rw [← h5]; exact hgne
            · have h6 := HR.out.g_lt.2
              have h7 := HB4.out.size
              rw [size_alloc1] at h5
              omega
          have HT5 : Hid (RowsI w5 w.heap.size g5 c5 (L + 1) (loP (loL k) zs p ++ ((loL k (zs.drop p)).take (j + 1)).map (x :: ·)) (upd VR L (.slice A4 (k + 1) c4))) := by
            show RowsI _ _ _ _ _ _ _
            rw [take_snocI (by rw [HN.out]; exact hlj), Hl.out, ← List.append_assoc]; exact hT5
          have HB5 := Lib.hid hB5
          clear hT5 hB5 hown5 hgrow5 hat5 hlt5 HT HR HT4 HO4 HB4 hsz1 hsz2 hsz3 hB4
          go_wp2
          go_roundw
          case rel => exact ⟨j + 1, g5, c5, L + 1, _, by omega, rfl, by go_num, hg5, HT5, HR5, HB5⟩
          case measure => simp [intOf]; omega
        · obtain rfl : j = N := by omega
          have HT2 : Hid (RowsI wr w.heap.size g c3 L (loP (loL k) zs (p + 1)) VR) := by
            show RowsI _ _ _ _ _ _ _
            rw [loP_succ, Hx.out]
            have := HT.out
            rw [List.take_of_length_le (by rw [HN.out]; omega)] at this
            exact this
          clear HT HR
          go_wp2
          go_roundw
          case rel => exact ⟨p + 1, g, c3, L, VR, by omega, rfl, by go_num, HT2, HB⟩
          case measure => simp [intOf]; omega
    · obtain rfl : p = n := by omega
      have HE : Hid (LsPost (loL (k + 1) zs) w (.returned (.slice (some ⟨g, 0, none⟩) L c2)) wr) := by
        have hT := HT.out
        rw [show loP (loL k) zs p = loL (k + 1) zs by rw [← Hn.out]; rfl] at hT
        have hl := hT.len
        subst hl
        exact ⟨g, c2, VR, rfl, hT, HB⟩
      go_wp2
      go_ret
      exact HE.out
theorem lists_any : ∀ k, k ≤ 4 → LsAt k
  | 0, _ => ls_zero
  | k + 1, hk => ls_step k hk (lists_any k (by omega))
end Go.Proofs.Ythphboeboiallab
