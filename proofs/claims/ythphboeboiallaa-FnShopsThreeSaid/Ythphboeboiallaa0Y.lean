/-
  RestsOf of the program, walked: the lists of shops at rest are kept, the others deleted.
  Conditions: none.
-/
import Derived.Test.Ythphboeboiallaa0W
import Derived.Test.Ythphboeboiallaa0X
import Derived.Lib.SliceRun
namespace Go.Proofs.Ythphboeboiallaa
open Go.ChangeShapes Go.WideShapes Go.ChangeAt Go.RowKit
set_option linter.unusedVariables false
set_option maxRecDepth 4000

/-- Which of the first lists rest. -/
def kpS (n : Nat) (Ls : List (List Nat)) (j : Nat) : List Nat := (List.range j).filter fun t => rstS n (Ls.getD t [])
theorem kpS_yes {n j : Nat} {Ls : List (List Nat)} (h : rstS n (Ls.getD j []) = true) : kpS n Ls (j + 1) = kpS n Ls j ++ [j] := by
  unfold kpS
  rw [List.range_succ, List.filter_append, List.filter_cons_of_pos (p := fun t => rstS n (Ls.getD t [])) h, List.filter_nil]
theorem kpS_no {n j : Nat} {Ls : List (List Nat)} (h : rstS n (Ls.getD j []) = false) : kpS n Ls (j + 1) = kpS n Ls j := by
  unfold kpS
  rw [List.range_succ, List.filter_append, List.filter_cons_of_neg (p := fun t => rstS n (Ls.getD t [])) (by rw [h]; simp), List.filter_nil, List.append_nil]
theorem kpS_le (n : Nat) (Ls : List (List Nat)) (j : Nat) : (kpS n Ls j).length ≤ j := by
  have := List.length_filter_le (fun t => rstS n (Ls.getD t [])) (List.range j)
  rwa [List.length_range] at this
theorem kpS_full {n : Nat} {Ls : List (List Nat)} : ∀ {j : Nat}, (∀ t, t < j → rstS n (Ls.getD t []) = true) → kpS n Ls j = List.range j
  | 0, _ => rfl
  | j + 1, h => by rw [kpS_yes (h j (by omega)), kpS_full fun t ht => h t (by omega), List.range_succ]
theorem kpS_lt {n j : Nat} {Ls : List (List Nat)} {t : Nat} (h : t ∈ kpS n Ls j) : t < j := by simp [kpS] at h; exact h.1
theorem kpS_nodup (n : Nat) (Ls : List (List Nat)) (j : Nat) : (kpS n Ls j).Nodup := List.nodup_range.filter _
theorem range_rows (Ls : List (List Nat)) : (List.range Ls.length).map (fun i => Ls.getD i []) = Ls := by
  apply List.ext_getElem?
  intro i
  by_cases hi : i < Ls.length
  · simp [hi, List.getD]
  · simp [hi]
theorem kpS_rows (n : Nat) (Ls : List (List Nat)) : (kpS n Ls Ls.length).map (fun t => Ls.getD t []) = Ls.filter (rstS n) := by
  conv => rhs; rw [← range_rows Ls]
  rw [List.filter_map]
  rfl
theorem kpS_at {n : Nat} {Ls : List (List Nat)} {t : Nat} (ht : t < (kpS n Ls Ls.length).length) : (Ls.filter (rstS n)).getD t [] = Ls.getD ((kpS n Ls Ls.length).getD t 0) [] := by
  rw [← kpS_rows]
  simp [List.getD, ht]

theorem RowsT.rowIn {w : World} {B g c L : Nat} {Ls : List (List Nat)} {VR : Nat → Value} (h : RowsT w B g c L Ls VR) {j : Nat} (hj : j < L) (hl : (Ls.getD j []).length ≤ 100) : ∃ A c' m, w.cell? ⟨g, j, none⟩ = some (.slice A m c') ∧ VR j = .slice A m c' ∧ PIn w A c' m (cI (Ls.getD j [])) := by
  obtain ⟨A, c', e, h1, h2, hr⟩ := own_slice (h.tt.own j hj) rfl
  have hc := Outer.cell h.out hj
  rw [e] at hc
  exact ⟨A, c', _, hc, e, hr, rfl, ⟨h1, h2⟩, by rw [cI_length]; omega⟩
theorem del_any (n pb m c : Nat) (A : Option Addr) (l : List Nat) (W : World) (hc : W.cell? ⟨pb, 0, none⟩ = some (.int .i64 ((n : Nat) : Int))) (h : PIn W A c m (cI l)) (hS : Sh n l) (h2 : 2 ≤ l.length) :
    Calls Try.prog 63 #[.slice A m c, .pointer (some ⟨pb, 0, none⟩)] W fun e w' => e = .returned (.bool (!rstS n l)) ∧ Below W.heap.size W w' := by
  have H := Lib.hid (iIsRest_ok (n : Int) A c m (cI l) W h)
  rw [rtQ_yes hS h2] at H
  clear h hS h2
  generalize rstS n l = r at H ⊢
  go_enter Try.func63, Try.ntmps63
  go_wp2_with fail
  refine H.out.mono ?_
  rintro e w' ⟨rfl, hb⟩
  cases r
  all_goals
    go_wp2
    go_ret
    exact ⟨ret_bool rfl, hb⟩
/-- Lists of at least two shops. -/
def AllSh (n L : Nat) (Ls : List (List Nat)) : Prop := ∀ j, j < L → Sh n (Ls.getD j []) ∧ 2 ≤ (Ls.getD j []).length
def IxPost (n L : Nat) (Ls : List (List Nat)) (w : World) (e : Ending) (w' : World) : Prop :=
  ∃ r : Int, e = .returned (.int .i64 r) ∧ Hid ((∃ k : Nat, r = k ∧ k < L ∧ rstS n (Ls.getD k []) = false ∧ ∀ j, j < k → rstS n (Ls.getD j []) = true) ∨ (r = -1 ∧ ∀ j, j < L → rstS n (Ls.getD j []) = true)) ∧ Hid (Below w.heap.size w w')
set_option maxHeartbeats 800000 in
theorem indexR_any (n pb B g c L : Nat) (Ls : List (List Nat)) (VR : Nat → Value) (w : World) (hT : RowsT w B g c L Ls VR) (hA : AllSh n L Ls) (hpb : w.cell? ⟨pb, 0, none⟩ = some (.int .i64 ((n : Nat) : Int))) (hL : L ≤ 1000) :
    Calls Try.prog 74 #[.slice (some ⟨g, 0, none⟩) L c, .func (.func 63) #[] #[.pointer (some ⟨pb, 0, none⟩)]] w (IxPost n L Ls w) := by
  have HT := Lib.hid hT
  have HA := Lib.hid hA
  have Hpb := Lib.hid hpb
  have lpb := World.block_lt_of_cell? w _ hpb
  have Hlp := Lib.hid lpb
  clear hT hA hpb lpb
  go_enter Try.func74, Try.ntmps74
  go_wp2
  go_loopw [8] (fun i wr => ∃ k : Nat, k ≤ L ∧ i = .int .i64 (k : Int) ∧ Hid (∀ j, j < k → rstS n (Ls.getD j []) = true) ∧ Hid (Below w.heap.size w wr)) (fun i _ => L - (intOf i).toNat)
  case atStart => exact ⟨0, Nat.zero_le _, rfl, fun j hj => by omega, Below.refl _ _⟩
  case round =>
    obtain ⟨k, hk, rfl, HK, HB⟩ := hrel
    by_cases hlt : k < L
    · obtain ⟨hS, h2⟩ := HA.out k hlt
      obtain ⟨A, c', m, hc, -, hp⟩ := (HT.out.below HB.out).rowIn hlt (by have := hS.l4; omega)
      have HD := Lib.hid (del_any n pb m c' A _ wr ((HB.out.cell (p := ⟨pb, 0, none⟩) Hlp.out).trans Hpb.out) hp hS h2)
      obtain ⟨r, Hr⟩ : ∃ r, Hid (rstS n (Ls.getD k []) = r) := ⟨_, rfl⟩
      rw [Hr.out] at HD
      clear hS h2 hp
      cases r with
      | false =>
        have HE : Hid ((∃ k' : Nat, ((k : Nat) : Int) = k' ∧ k' < L ∧ rstS n (Ls.getD k' []) = false ∧ ∀ j, j < k' → rstS n (Ls.getD j []) = true) ∨ (((k : Nat) : Int) = -1 ∧ ∀ j, j < L → rstS n (Ls.getD j []) = true)) := .inl ⟨k, rfl, hlt, Hr.out, HK.out⟩
        go_wp2_with fail
        refine HD.out.mono ?_
        rintro e w2 ⟨rfl, hb2⟩
        have HB2 := Lib.hid (HB.out.trans (hb2.mono HB.out.size))
        clear hb2 HD
        go_wp2
        go_ret
        exact ⟨_, rfl, HE, HB2⟩
      | true =>
        have HK2 : Hid (∀ j, j < k + 1 → rstS n (Ls.getD j []) = true) := fun j hj => by
          by_cases e : j = k
          · subst e; exact Hr.out
          · exact HK.out j (by omega)
        go_wp2_with fail
        refine HD.out.mono ?_
        rintro e w2 ⟨rfl, hb2⟩
        have HB2 := Lib.hid (HB.out.trans (hb2.mono HB.out.size))
        clear hb2 HD
        go_wp2
        go_roundw
        case rel => exact ⟨k + 1, by omega, by go_num, HK2, HB2⟩
        case measure => simp [intOf]; omega
    · obtain rfl : k = L := by omega
      go_wp2
      go_ret
      exact ⟨-1, rfl, .inr ⟨rfl, HK.out⟩, HB⟩

/-- A slice made shorter. -/
theorem Outer.cut {w : World} {B n i g c : Nat} {VR : Nat → Value} (h : Outer w B n (.slice (some ⟨g, 0, none⟩) n c) VR) (hi : i ≤ n) : Outer w B i (.slice (some ⟨g, 0, none⟩) i c) VR := by
  obtain ⟨h1, h2⟩ := h
  refine ⟨by simp, .inr ?_⟩
  rcases h2 with ⟨h2, _⟩ | ⟨g', cap', cur, hv, hg, hh, hn, hm, hs, ht⟩
  · cases h2
  · injection hv with e1 e2 e3
    injection e1 with e1
    injection e1 with e1
    subst e1 e3
    refine ⟨g, c, cur, rfl, hg, hh, by omega, hm, hs, ?_⟩
    rw [Nat.mul_one] at ht ⊢
    have : cur.toList.take i = (cur.toList.take n).take i := by rw [List.take_take, show min i n = i by omega]
    rw [this, ht, ← List.map_take]
    rw [List.take_range, Nat.min_eq_left hi]
/-- Cells wiped. -/
theorem Outer.wiped {B n g c : Nat} {z : Value} : ∀ (m o : Nat) {w : World} {VR : Nat → Value}, Outer w B n (.slice (some ⟨g, 0, none⟩) n c) VR → o + m ≤ n → ∃ VR', Outer (w.setCells g o (List.replicate m z)) B n (.slice (some ⟨g, 0, none⟩) n c) VR' ∧ ∀ j, j < o → VR' j = VR j
  | 0, o, w, VR, h, _ => ⟨VR, h, fun _ _ => rfl⟩
  | m + 1, o, w, VR, h, hm => by
    obtain ⟨VR', h1, h2⟩ := Outer.wiped (z := z) m (o + 1) (h.stored (k := o) (v := z) (by omega)) (by omega)
    exact ⟨VR', h1, fun j hj => by rw [h2 j (by omega), upd_other _ _ (by omega)]⟩
theorem TT.wiped {B m g : Nat} {z : Value} {VR : Nat → Value} {ls : Nat → List Int} {ty : TypeId} (hne : ty ≠ 3) : ∀ (k o : Nat) {w : World}, (∃ cs, w.heap[g]? = some (.cells cs ty (0, 0))) → TT w B m VR ls → TT (w.setCells g o (List.replicate k z)) B m VR ls
  | 0, _, _, _, h => h
  | k + 1, o, w, ⟨cs, hc⟩, h => by
    refine TT.wiped hne k (o + 1) ?_ (h.store hc hne)
    exact ⟨_, heap_setCell_same _ _ _ _ _ _ hc⟩
theorem below_wiped {B g : Nat} {a : World} (hg : B ≤ g) : ∀ (vs : List Value) (o : Nat) (w : World), Below B a w → Below B a (w.setCells g o vs)
  | [], _, _, h => h
  | v :: r, o, w, h => by rw [World.setCells]; exact below_wiped hg r _ _ (h.setCell hg v)
theorem clear_runQ (w : World) (g o n c : Nat) (ty : TypeId) (hn : 0 < n) (hc : ∀ j, j < n → (w.cell? ⟨g, o + j, none⟩).isSome = true) (hf : ∀ j, j < n → w.frozen? ⟨g, o + j, none⟩ = false) :
    (Builtin.clear_ #[36] ty #[.slice (some ⟨g, o, none⟩) n c]).run Try.prog w = .ok (.tuple #[]) (w.setCells g o (List.replicate n (.slice none 0 0))) :=
  Lib.run_clear_slice w 36 23 ty (.slice none 0 0) Try.underlying36 (fun w => Try.zeroValue23 w) rfl rfl g o n c hn hc hf
theorem headR_run (b n c i : Nat) (h1 : i ≤ n) (h2 : n ≤ c) (W : World) : (Instr.slice 36 (.slice (some ⟨b, 0, none⟩) n c) none (some (.int .i64 (i : Int))) none).run Try.prog W = .ok (.slice (some ⟨b, 0, none⟩) i c) W := by
  have e1 : (0 : Int) ≤ (i : Int) := by omega
  have e2 : (i : Int) ≤ (c : Int) := by omega
  go_simp
  all_goals omega
theorem tailR_run (b n c t : Nat) (h1 : t < n) (h2 : n ≤ c) (W : World) : (Instr.slice 36 (.slice (some ⟨b, 0, none⟩) n c) (some (.int .i64 (t : Int))) none none).run Try.prog W = .ok (.slice (some ⟨b, t, none⟩) (n - t : Nat) (c - t : Nat)) W := by
  have e1 : (0 : Int) ≤ (t : Int) := by omega
  have e2 : (t : Int) ≤ (n : Int) := by omega
  have e3 : (n : Int) ≤ (c : Int) := by omega
  have e4 : ¬ c = t := by omega
  go_simp
  all_goals omega
/-- The table while rows are struck. -/
structure DfS (w wr : World) (B n g c L i j : Nat) (Ls : List (List Nat)) (VR VS : Nat → Value) : Prop where
  out : Outer wr B L (.slice (some ⟨g, 0, none⟩) L c) VS
  tt : TT wr B L VR (fun j => cI (Ls.getD j []))
  len : (kpS n Ls j).length = i
  front : ∀ t, t < i → VS t = VR ((kpS n Ls j).getD t 0)
  back : ∀ t, j ≤ t → t < L → VS t = VR t
  bel : Below B w wr
theorem DfS.skip {w wr w2 : World} {B n g c L i j : Nat} {Ls : List (List Nat)} {VR VS : Nat → Value} (h : DfS w wr B n g c L i j Ls VR VS) (hB : B ≤ wr.heap.size) (hb : Below wr.heap.size wr w2) (hr : rstS n (Ls.getD j []) = false) : DfS w w2 B n g c L i (j + 1) Ls VR VS :=
  ⟨h.out.below hb, h.tt.below hb, by rw [kpS_no hr]; exact h.len, by rw [kpS_no hr]; exact h.front, fun t h1 h2 => h.back t (by omega) h2, h.bel.trans (hb.mono hB)⟩
theorem DfS.keep {w wr w2 : World} {B n g c L i j : Nat} {Ls : List (List Nat)} {VR VS : Nat → Value} (h : DfS w wr B n g c L i j Ls VR VS) (hB : B ≤ wr.heap.size) (hb : Below wr.heap.size wr w2) (hr : rstS n (Ls.getD j []) = true) (hij : i < j) (hj : j < L) :
    DfS w (w2.setCell ⟨g, i, none⟩ (VR j)) B n g c L (i + 1) (j + 1) Ls VR (upd VS i (VR j)) := by
  have ho := h.out.below hb
  obtain ⟨⟨cs, hc⟩, hg, -⟩ := own_heap ho (g := g) rfl
  refine ⟨ho.stored (by omega), (h.tt.below hb).store hc (by decide), by rw [kpS_yes hr, List.length_append, h.len]; rfl, fun t ht => ?_, fun t h1 h2 => by rw [upd_other _ _ (by omega)]; exact h.back t (by omega) h2, (h.bel.trans (hb.mono hB)).setCell hg _⟩
  rw [kpS_yes hr]
  simp only [List.getD]
  by_cases e : t = i
  · subst e
    rw [upd_at, List.getElem?_append_right (by rw [h.len]; exact Nat.le_refl _), h.len]; simp
  · rw [upd_other _ _ e, List.getElem?_append_left (by rw [h.len]; omega), h.front t (by omega)]; rfl
def DfPost (B n g c : Nat) (Ls : List (List Nat)) (w : World) (e : Ending) (w' : World) : Prop :=
  ∃ i VR', e = .returned (.slice (some ⟨g, 0, none⟩) i c) ∧ Hid (RowsT w' B g c i (Ls.filter (rstS n)) VR') ∧ Hid (Below B w w')
theorem DfS.done {w wr : World} {B n g c L i : Nat} {Ls : List (List Nat)} {VR VS : Nat → Value} (h : DfS w wr B n g c L i L Ls VR VS) (hL : Ls.length = L) (hi : i < L) :
    DfPost B n g c Ls w (.returned (.slice (some ⟨g, 0, none⟩) i c)) (wr.setCells g i (List.replicate (L - i) (.slice none 0 0))) := by
  obtain ⟨VS', h1, h2⟩ := Outer.wiped (z := .slice none 0 0) (L - i) i h.out (by omega)
  obtain ⟨⟨cs, hc⟩, hg, -⟩ := own_heap h.out (g := g) rfl
  have ht := TT.wiped (B := B) (m := L) (z := .slice none 0 0) (VR := VR) (ls := fun j => cI (Ls.getD j [])) (ty := 23) (by decide) (L - i) i ⟨cs, hc⟩ h.tt
  have hlen : (Ls.filter (rstS n)).length = i := by rw [← kpS_rows, List.length_map, hL]; exact h.len
  have hkl := h.len
  have hat : ∀ t, t < i → (Ls.filter (rstS n)).getD t [] = Ls.getD ((kpS n Ls L).getD t 0) [] := fun t ht => by
    have := kpS_at (n := n) (Ls := Ls) (t := t) (by rw [hL, hkl]; exact ht)
    rw [hL] at this; exact this
  have hlt : ∀ t, t < i → (kpS n Ls L).getD t 0 < L := fun t ht => kpS_lt (getDN_mem (by rw [hkl]; exact ht))
  refine ⟨i, fun t => VR ((kpS n Ls L).getD t 0), rfl, ⟨hlen, (h1.cut (Nat.le_of_lt hi)).congr fun t ht => by rw [h2 t ht, h.front t ht], ⟨fun t hti => ?_, fun s t g' hs hti e1 e2 => ?_⟩⟩, below_wiped hg _ _ _ h.bel⟩
  · have := ht.own _ (hlt t hti)
    show World.ownsRow _ _ _ _ _ _ _
    rw [hat t hti]; exact this
  · have e3 := ht.dis _ _ _ (hlt s hs) (hlt t hti) e1 e2
    have hn := kpS_nodup n Ls L
    simp only [List.getD, List.getElem?_eq_getElem (show s < (kpS n Ls L).length by rw [hkl]; exact hs), List.getElem?_eq_getElem (show t < (kpS n Ls L).length by rw [hkl]; exact hti), Option.getD_some] at e3
    exact (List.getElem_inj hn).1 e3
def DfRel (w : World) (B n g c L : Nat) (Ls : List (List Nat)) (VR : Nat → Value) (a b : Value) (wr : World) : Prop :=
  ∃ i j VS, i < j ∧ j ≤ L ∧ a = .int .i64 ((i : Nat) : Int) ∧ b = .int .i64 ((j : Nat) : Int) ∧ Hid (DfS w wr B n g c L i j Ls VR VS)
set_option maxHeartbeats 1600000 in
theorem deleteR_any (n pb B g c L : Nat) (Ls : List (List Nat)) (VR : Nat → Value) (w : World) (hT : RowsT w B g c L Ls VR) (hA : AllSh n L Ls) (hpb : w.cell? ⟨pb, 0, none⟩ = some (.int .i64 ((n : Nat) : Int))) (hpB : pb < B) (hL : L ≤ 1000) :
    Calls Try.prog 60 #[.slice (some ⟨g, 0, none⟩) L c, .func (.func 63) #[] #[.pointer (some ⟨pb, 0, none⟩)]] w (DfPost B n g c Ls w) := by
  have HI := Lib.hid (indexR_any n pb B g c L Ls VR w hT hA hpb hL)
  have HT := Lib.hid hT
  have HA := Lib.hid hA
  have Hpb := Lib.hid hpb
  have HpB := Lib.hid hpB
  have hBw : B ≤ w.heap.size := by have := hT.g_lt; omega
  have Hc : Hid (L ≤ c) := by
    obtain ⟨A2, c2, he, hLc, -⟩ := own_sliceN hT.out
    injection he with _ _ he
    subst he
    exact hLc
  clear hT hA hpb hpB
  go_enter Try.func60, Try.ntmps60
  go_wp2_with fail
  refine HI.out.mono ?_
  rintro e w2 ⟨r, rfl, hr, hb2⟩
  have HB2 := Lib.hid hb2.out
  rcases hr.out with ⟨k, rfl, hkL, hkr, hkf⟩ | ⟨rfl, hall⟩
  · have hne : (((k : Nat) : Int) == -1) = false := by rw [beq_eq_false_iff_ne]; omega
    have HS0 : Hid (DfS w w2 B n g c L k (k + 1) Ls VR VR) := by
      have hkp : kpS n Ls (k + 1) = List.range k := by rw [kpS_no hkr, kpS_full hkf]
      have h2 := HT.out.below HB2.out
      refine ⟨h2.out, h2.tt, by rw [hkp, List.length_range], fun t ht => ?_, fun _ _ _ => rfl, HB2.out.mono hBw⟩
      rw [hkp]
      simp [List.getD, ht]
    clear hr hb2 hkr hkf HI
    go_wp2
    go_loopw [5, 6] (fun a b wr => DfRel w B n g c L Ls VR a b wr) (fun _ b _ => L - (intOf b).toNat)
    case atStart => exact ⟨k, k + 1, VR, by omega, by omega, rfl, by go_num, HS0⟩
    case round =>
      clear HS0
      obtain ⟨i, j, VS, hij, hjL, rfl, rfl, HS⟩ := hrel
      have Hsz : Hid (B ≤ wr.heap.size) := Nat.le_trans hBw HS.out.bel.size
      by_cases hlt : j < L
      · obtain ⟨hSj, h2⟩ := HA.out j hlt
        have hcj := (Outer.cell HS.out.out hlt).trans (by rw [HS.out.back j (Nat.le_refl _) hlt])
        obtain ⟨A, c', e, h1, h3, hrd⟩ := own_slice (HS.out.tt.own j hlt) rfl
        have hl4 := hSj.l4
        obtain ⟨m, Hm⟩ : ∃ m, Hid ((cI (Ls.getD j [])).length = m) := ⟨_, rfl⟩
        rw [Hm.out] at e h1
        have hp : PIn wr A c' m (cI (Ls.getD j [])) := ⟨hrd, Hm.out, ⟨h1, h3⟩, by rw [← Hm.out, cI_length]; omega⟩
        rw [e] at hcj
        have HD := Lib.hid (del_any n pb m c' A _ wr ((HS.out.bel.cell (p := ⟨pb, 0, none⟩) HpB.out).trans Hpb.out) hp hSj h2)
        obtain ⟨r, Hr⟩ : ∃ r, Hid (rstS n (Ls.getD j []) = r) := ⟨_, rfl⟩
        rw [Hr.out] at HD
        have He := Lib.hid e
        clear hSj h2 hp hrd hl4 e h1 h3
        cases r with
        | false =>
          go_wp2_with fail
          refine HD.out.mono ?_
          rintro e w3 ⟨rfl, hb3⟩
          have HS3 := Lib.hid (HS.out.skip Hsz.out hb3 Hr.out)
          clear hb3 HD HS
          go_wp2
          go_roundw
          case rel => exact ⟨i, j + 1, VS, by omega, by omega, rfl, by go_num, HS3⟩
          case measure => simp [intOf]; omega
        | true =>
          go_wp2_with fail
          refine HD.out.mono ?_
          rintro e w3 ⟨rfl, hb3⟩
          have hk3 := HS.out.keep Hsz.out hb3 Hr.out hij hlt
          rw [He.out] at hk3
          have HS3 := Lib.hid hk3
          have ho3 := HS.out.out.below hb3
          have ci : ∃ x, w3.cell? ⟨g, i, none⟩ = some x := ⟨_, Outer.cell ho3 (show i < L by omega)⟩
          obtain ⟨x, ci⟩ := ci
          have fi := World.ownsRow.frozenAt ho3 i
          have hiL : i < L := by omega
          clear hb3 HD HS hk3 ho3
          go_wp2
          go_roundw
          case rel => exact ⟨i + 1, j + 1, _, by omega, by omega, by go_num, by go_num, HS3⟩
          case measure => simp [intOf]; omega
      · obtain rfl : j = L := by omega
        have HE := Lib.hid (HS.out.done HT.out.len hij)
        have htl := tailR_run g j c i hij Hc.out
        have hhd := headR_run g j c i (by omega) Hc.out
        have hcl : ∀ ty, (Builtin.clear_ #[36] ty #[.slice (some ⟨g, i, none⟩) (j - i : Nat) (c - i : Nat)]).run Try.prog wr = .ok (.tuple #[]) (wr.setCells g i (List.replicate (j - i) (.slice none 0 0))) := fun ty =>
          clear_runQ wr g i (j - i) (c - i) ty (by omega) (fun t ht => by rw [Outer.cell HS.out.out (show i + t < j by omega)]; rfl) (fun t ht => World.ownsRow.frozenAt HS.out.out _)
        clear HS
        go_wp2
        go_ret
        exact HE.out
  · have hlen := HT.out.len
    have HE : Hid (DfPost B n g c Ls w (.returned (.slice (some ⟨g, 0, none⟩) L c)) w2) := by
      have e : Ls.filter (rstS n) = Ls := by
        rw [← kpS_rows, hlen, kpS_full hall, ← hlen, range_rows]
      exact ⟨L, VR, rfl, by rw [e]; exact HT.out.below HB2.out, HB2.out.mono hBw⟩
    clear hr hb2 hall HI hlen
    go_wp2
    go_ret
    exact HE.out
/-- A table as an answer. -/
def TabPost (Ls : List (List Nat)) (w : World) (e : Ending) (w' : World) : Prop :=
  ∃ A c VR, e = .returned (.slice A Ls.length c) ∧ Hid (Outer w' w.heap.size Ls.length (.slice A Ls.length c) VR) ∧ Hid (TT w' w.heap.size Ls.length VR (fun j => cI (Ls.getD j []))) ∧ Hid (Below w.heap.size w w')
theorem tabPost_nil (w w' : World) (h : Below w.heap.size w w') : TabPost [] w (.returned (.slice none 0 0)) w' :=
  ⟨none, 0, fun _ => .slice none 0 0, rfl, World.ownsRow_nil _ _ _ _, ⟨fun j hj => by simp at hj, fun i j g hi _ _ _ => by simp at hi⟩, h⟩
def QRows (F : Nat) : Prop := ∀ (n k : Int) (w : World), (Lit.int .i64 n).wf = true → (Lit.int .i64 k).wf = true → Calls Try.prog F #[.int .i64 n, .int .i64 k] w (TabPost (rsQ n k) w)
theorem allSh_lst {n k : Nat} (h1 : 1 ≤ n) (h9 : n ≤ 9) (h2 : 2 ≤ k) (h4 : k ≤ 4) : AllSh n (lstS n k 0).length (lstS n k 0) := fun j hj => by
  have hm : (lstS n k 0).getD j [] ∈ lstS n k 0 := by simp [List.getD, hj]
  have h := lstS_mem.1 hm
  exact ⟨⟨h1, h9, by omega, by omega, h.2.2, h.2.1⟩, by omega⟩
set_option maxHeartbeats 800000 in
theorem iRestsOf_ok : QRows 33 := by
  intro n k w hwn hwk
  have hb1 : Below w.heap.size w (w.alloc (.cells #[.int .i64 n] 3)) := (Below.refl _ _).alloc (Nat.le_refl _) _
  have hbx : (w.alloc (.cells #[.int .i64 n] 3)).cell? ⟨w.heap.size, 0, none⟩ = some (.int .i64 n) := (cell_of_row _ _ _ _ _ _ (heap_alloc_new w _)).trans rfl
  have hs1 : (w.alloc (.cells #[.int .i64 n] 3)).heap.size = w.heap.size + 1 := size_alloc1 _ _
  have HV := Lib.hid (fun W => validStreet_any n W)
  by_cases hn : 1 ≤ n ∧ n ≤ 9
  · have hv : (decide (1 ≤ n) && decide (n ≤ 9)) = true := by simp [hn.1, hn.2]
    rw [hv] at HV
    by_cases h2 : k < 2
    · rw [rsQ_no (by unfold okR; simp; omega)]
      have HB1 := Lib.hid hb1
      clear hn hv hb1 hs1
      go_enter Try.func33, Try.ntmps33
      go_wp2_with fail
      refine (HV.out _).mono ?_
      rintro e w1 ⟨rfl, rfl⟩
      go_wp2
      go_ret
      exact tabPost_nil _ _ HB1.out
    · by_cases h4 : 4 < k
      · rw [rsQ_no (by unfold okR; simp; omega)]
        have HB1 := Lib.hid hb1
        clear hn hv hb1 hs1
        go_enter Try.func33, Try.ntmps33
        go_wp2_with fail
        refine (HV.out _).mono ?_
        rintro e w1 ⟨rfl, rfl⟩
        go_wp2
        go_ret
        exact tabPost_nil _ _ HB1.out
      · obtain ⟨N, K, rfl, rfl, q1, q2, q3, q4⟩ := okR_get (n := n) (k := k) (by unfold okR; simp; omega)
        rw [rsQ_yes q1 q2 q3 q4]
        have HPl := Lib.hid (fun W => placesBelow_any N W q1 q2)
        have HLs := Lib.hid (fun A c W h => listsN_any N K A c W q1 q2 q4 h)
        have Hll := Lib.hid (lst_le (a := 0) q2 q4 (by omega))
        have HA := Lib.hid (allSh_lst q1 q2 q3 q4)
        have HF : Hid ((lstS N K 0).filter (rstS N) = rsS N K) := rfl
        have HB1 := Lib.hid hb1
        have HS1 := Lib.hid hs1
        have Hbx := Lib.hid hbx
        obtain ⟨w1, Hw1⟩ : ∃ w1, Hid (w.alloc (.cells #[.int .i64 ((N : Nat) : Int)] 3) = w1) := ⟨_, rfl⟩
        rw [Hw1.out] at HB1 HS1 Hbx hbx
        have hk2 : ¬ ((K : Nat) : Int) < 2 := by omega
        clear hn hv hb1 hs1
        go_enter Try.func33, Try.ntmps33
        go_wp2_with fail
        rw [Hw1.out]
        refine (HV.out _).mono ?_
        rintro e w2 ⟨rfl, rfl⟩
        go_wp2_with fail
        refine (HPl.out _).mono ?_
        rintro e wp ⟨Ap, cp, rfl, hop, hbp⟩
        have HLp := Lib.hid (show (cI (List.range' 0 N)).length = N by rw [cI_length, List.length_range'])
        rw [HLp.out] at hop ⊢
        go_wp2_with fail
        refine (HLs.out _ _ _ (.inr ⟨_, hop.out⟩)).mono ?_
        rintro e w3 ⟨g, c, VR, rfl, hT, hb3'⟩
        have hb3 : Hid (Below w1.heap.size w1 w3) := hbp.out.trans (hb3'.out.mono hbp.out.size)
        have hTl : Hid (RowsT w3 w1.heap.size g c (lstS N K 0).length (lstS N K 0) VR) := ⟨hT.out.len, own_lowQ hT.out.out hbp.out.size, ⟨fun j hj => own_lowQ (hT.out.tt.own j hj) hbp.out.size, hT.out.tt.dis⟩⟩
        have HD := Lib.hid (deleteR_any N w.heap.size w1.heap.size g c _ _ VR w3 hTl.out HA.out ((hb3.out.cell (p := ⟨w.heap.size, 0, none⟩) (by rw [HS1.out]; exact Nat.lt_succ_self _)).trans Hbx.out) (by rw [HS1.out]; exact Nat.lt_succ_self _) Hll.out)
        have HB3 := Lib.hid hb3.out
        clear hT hTl hb3 hb3' hop hbp hbx
        go_wp2_with fail
        refine HD.out.mono ?_
        rintro e w4 ⟨i, VR', rfl, hT4, hb4⟩
        rw [HF.out] at hT4
        have HE : Hid (TabPost (rsS N K) w (.returned (.slice (some ⟨g, 0, none⟩) i c)) w4) := by
          obtain ⟨hl, ho, ht⟩ := hT4.out
          subst hl
          exact ⟨_, _, VR', rfl, own_lowQ ho HB1.out.size, ⟨fun j hj => own_lowQ (ht.own j hj) HB1.out.size, ht.dis⟩, HB1.out.trans ((HB3.out.trans hb4.out).mono HB1.out.size)⟩
        clear hT4 hb4 HD
        go_wp2
        go_ret
        exact HE.out
  · have hv : (decide (1 ≤ n) && decide (n ≤ 9)) = false := by simp; omega
    rw [hv] at HV
    rw [rsQ_no (by unfold okR; rw [hv]; rfl)]
    have HB1 := Lib.hid hb1
    clear hn hv hb1 hs1
    go_enter Try.func33, Try.ntmps33
    go_wp2_with fail
    refine (HV.out _).mono ?_
    rintro e w1 ⟨rfl, rfl⟩
    go_wp2
    go_ret
    exact tabPost_nil _ _ HB1.out
end Go.Proofs.Ythphboeboiallaa
