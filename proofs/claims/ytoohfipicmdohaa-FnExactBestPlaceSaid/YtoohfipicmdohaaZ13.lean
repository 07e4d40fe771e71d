/-
  RestsOf of the program, walked: the lists of shops at rest are kept, the others deleted.
  Conditions: none.
  restsFrom and RestsOf of the model, walked.
  Conditions: none.
  There are at most seven lists of shops at rest.
  Conditions: as the theorem states.
  The copy of a slice of ints in the exact laws.
  Conditions: the slice is shorter than 2^20 elements.
  Rows of ints marked, and the marks read again.
  Conditions: none beyond what each theorem states.
-/
import Derived.Test.YtoohfipicmdohaaZ4
import Derived.Test.YtoohfipicmdohaaZ5
import Derived.Test.YtoohfipicmdohaaZ0
import Derived.Test.YtoohfipicmdohaaZ7
import Derived.Lib.SliceRun
import Derived.Deep.Quiet
namespace Go.Proofs.Ytoohfipicmdohaa
open Go.ChangeShapes Go.WideShapes Go.ChangeAt Go.RowKit
set_option linter.unusedVariables false
set_option maxRecDepth 4000

/-- Which of the first lists rest. -/
def kpS (n : Nat) (Ls : List (List Nat)) (j : Nat) : List Nat := (List.range j).filter fun t => rstS n (Ls.getD t [])
theorem kpS_yes {n j : Nat} {Ls : List (List Nat)} (h : rstS n (Ls.getD j []) = true) : kpS n Ls (j + 1) = kpS n Ls j ++ [j] := by
  unfold kpS
  rw [List.range_succ, List.filter_append, List.filter_cons_of_pos (p := fun t => rstS n (Ls.getD t [])) h, List.filter_nil]
theorem kpS_no {n j : Nat} {Ls : List (List Nat)} (h : rstS n (Ls.getD j []) = false) : kpS n Ls (j + 1) = kpS n Ls j := by
  unfold kpS
  rw [List.range_succ, List.filter_append, List.filter_cons_of_neg (p := fun t => rstS n (Ls.getD t [])) (by rw [h]; simp), List.filter_nil, List.append_nil]
theorem kpS_le (n : Nat) (Ls : List (List Nat)) (j : Nat) : (kpS n Ls j).length ≤ j := by
  have := List.length_filter_le (fun t => rstS n (Ls.getD t [])) (List.range j)
  rwa [List.length_range] at this
theorem kpS_full {n : Nat} {Ls : List (List Nat)} : ∀ {j : Nat}, (∀ t, t < j → rstS n (Ls.getD t []) = true) → kpS n Ls j = List.range j
  | 0, _ => rfl
  | j + 1, h => by rw [kpS_yes (h j (by omega)), kpS_full fun t ht => h t (by omega), List.range_succ]
theorem kpS_lt {n j : Nat} {Ls : List (List Nat)} {t : Nat} (h : t ∈ kpS n Ls j) : t < j := by simp [kpS] at h; exact h.1
theorem kpS_nodup (n : Nat) (Ls : List (List Nat)) (j : Nat) : (kpS n Ls j).Nodup := List.nodup_range.filter _
theorem range_rows (Ls : List (List Nat)) : (List.range Ls.length).map (fun i => Ls.getD i []) = Ls := by
  apply List.ext_getElem?
  intro i
  by_cases hi : i < Ls.length
  · simp [hi, List.getD]
  · simp [hi]
theorem kpS_rows (n : Nat) (Ls : List (List Nat)) : (kpS n Ls Ls.length).map (fun t => Ls.getD t []) = Ls.filter (rstS n) := by
  conv => rhs; rw [← range_rows Ls]
  rw [List.filter_map]
  rfl
theorem kpS_at {n : Nat} {Ls : List (List Nat)} {t : Nat} (ht : t < (kpS n Ls Ls.length).length) : (Ls.filter (rstS n)).getD t [] = Ls.getD ((kpS n Ls Ls.length).getD t 0) [] := by
  rw [← kpS_rows]
  simp [List.getD, ht]

theorem RowsT.rowIn {w : World} {B g c L : Nat} {Ls : List (List Nat)} {VR : Nat → Value} (h : RowsT w B g c L Ls VR) {j : Nat} (hj : j < L) (hl : (Ls.getD j []).length ≤ 100) : ∃ A c' m, w.cell? ⟨g, j, none⟩ = some (.slice A m c') ∧ VR j = .slice A m c' ∧ PIn w A c' m (cI (Ls.getD j [])) := by
  obtain ⟨A, c', e, h1, h2, hr⟩ := own_slice (h.tt.own j hj) rfl
  have hc := Outer.cell h.out hj
  rw [e] at hc
  exact ⟨A, c', _, hc, e, hr, rfl, ⟨h1, h2⟩, by rw [cI_length]; omega⟩
theorem del_any (n pb m c : Nat) (A : Option Addr) (l : List Nat) (W : World) (hc : W.cell? ⟨pb, 0, none⟩ = some (.int .i64 ((n : Nat) : Int))) (h : PIn W A c m (cI l)) (hS : Sh n l) (h2 : 2 ≤ l.length) :
    Calls Try.prog 62 #[.slice A m c, .pointer (some ⟨pb, 0, none⟩)] W fun e w' => e = .returned (.bool (!rstS n l)) ∧ Below W.heap.size W w' := by
  have H := Lib.hid (iIsRest_ok (n : Int) A c m (cI l) W h)
  rw [rtQ_yes hS h2] at H
  clear h hS h2
  generalize rstS n l = r at H ⊢
  go_enter Try.func62, Try.ntmps62
  go_wp2_with fail
  refine H.out.mono ?_
  rintro e w' ⟨rfl, hb⟩
  cases r
  all_goals
    go_wp2
    go_ret
    exact ⟨ret_bool rfl, hb⟩
/-- Lists of at least two shops. -/
def AllSh (n L : Nat) (Ls : List (List Nat)) : Prop := ∀ j, j < L → Sh n (Ls.getD j []) ∧ 2 ≤ (Ls.getD j []).length
def IxPost (n L : Nat) (Ls : List (List Nat)) (w : World) (e : Ending) (w' : World) : Prop :=
  ∃ r : Int, e = .returned (.int .i64 r) ∧ Hid ((∃ k : Nat, r = k ∧ k < L ∧ rstS n (Ls.getD k []) = false ∧ ∀ j, j < k → rstS n (Ls.getD j []) = true) ∨ (r = -1 ∧ ∀ j, j < L → rstS n (Ls.getD j []) = true)) ∧ Hid (Below w.heap.size w w')
set_option maxHeartbeats 800000 in
theorem indexR_any (n pb B g c L : Nat) (Ls : List (List Nat)) (VR : Nat → Value) (w : World) (hT : RowsT w B g c L Ls VR) (hA : AllSh n L Ls) (hpb : w.cell? ⟨pb, 0, none⟩ = some (.int .i64 ((n : Nat) : Int))) (hL : L ≤ 1000) :
    Calls Try.prog 73 #[.slice (some ⟨g, 0, none⟩) L c, .func (.func 62) #[] #[.pointer (some ⟨pb, 0, none⟩)]] w (IxPost n L Ls w) := by
  have HT := Lib.hid hT
  have HA := Lib.hid hA
  have Hpb := Lib.hid hpb
  have lpb := World.block_lt_of_cell? w _ hpb
  have Hlp := Lib.hid lpb
  clear hT hA hpb lpb
  go_enter Try.func73, Try.ntmps73
  go_wp2
  go_loopw [8] (fun i wr => ∃ k : Nat, k ≤ L ∧ i = .int .i64 (k : Int) ∧ Hid (∀ j, j < k → rstS n (Ls.getD j []) = true) ∧ Hid (Below w.heap.size w wr)) (fun i _ => L - (intOf i).toNat)
  case atStart => exact ⟨0, Nat.zero_le _, rfl, fun j hj => by omega, Below.refl _ _⟩
  case round =>
    obtain ⟨k, hk, rfl, HK, HB⟩ := hrel
    by_cases hlt : k < L
    · obtain ⟨hS, h2⟩ := HA.out k hlt
      obtain ⟨A, c', m, hc, -, hp⟩ := (HT.out.below HB.out).rowIn hlt (by have := hS.l4; omega)
      have HD := Lib.hid (del_any n pb m c' A _ wr ((HB.out.cell (p := ⟨pb, 0, none⟩) Hlp.out).trans Hpb.out) hp hS h2)
      obtain ⟨r, Hr⟩ : ∃ r, Hid (rstS n (Ls.getD k []) = r) := ⟨_, rfl⟩
      rw [Hr.out] at HD
      clear hS h2 hp
      cases r with
      | false =>
        have HE : Hid ((∃ k' : Nat, ((k : Nat) : Int) = k' ∧ k' < L ∧ rstS n (Ls.getD k' []) = false ∧ ∀ j, j < k' → rstS n (Ls.getD j []) = true) ∨ (((k : Nat) : Int) = -1 ∧ ∀ j, j < L → rstS n (Ls.getD j []) = true)) := .inl ⟨k, rfl, hlt, Hr.out, HK.out⟩
        go_wp2_with fail
        refine HD.out.mono ?_
        rintro e w2 ⟨rfl, hb2⟩
        have HB2 := Lib.hid (HB.out.trans (hb2.mono HB.out.size))
        clear hb2 HD
        go_wp2
        go_ret
        exact ⟨_, rfl, HE, HB2⟩
      | true =>
        have HK2 : Hid (∀ j, j < k + 1 → rstS n (Ls.getD j []) = true) := fun j hj => by
          by_cases e : j = k
          · subst e; exact Hr.out
          · exact HK.out j (by omega)
        go_wp2_with fail
        refine HD.out.mono ?_
        rintro e w2 ⟨rfl, hb2⟩
        have HB2 := Lib.hid (HB.out.trans (hb2.mono HB.out.size))
        clear hb2 HD
        go_wp2
        go_roundw
        case rel => exact ⟨k + 1, by omega, by go_num, HK2, HB2⟩
        case measure => simp [intOf]; omega
    · obtain rfl : k = L := by omega
      go_wp2
      go_ret
      exact ⟨-1, rfl, .inr ⟨rfl, HK.out⟩, HB⟩

/-- A slice made shorter. -/
theorem Outer.cut {w : World} {B n i g c : Nat} {VR : Nat → Value} (h : Outer w B n (.slice (some ⟨g, 0, none⟩) n c) VR) (hi : i ≤ n) : Outer w B i (.slice (some ⟨g, 0, none⟩) i c) VR := by
  obtain ⟨h1, h2⟩ := h
  refine ⟨by simp, .inr ?_⟩
  rcases h2 with ⟨h2, _⟩ | ⟨g', cap', cur, hv, hg, hh, hn, hm, hs, ht⟩
  · cases h2
  · injection hv with e1 e2 e3
    injection e1 with e1
    injection e1 with e1
    subst e1 e3
    refine ⟨g, c, cur, rfl, hg, hh, by omega, hm, hs, ?_⟩
    rw [Nat.mul_one] at ht ⊢
    have : cur.toList.take i = (cur.toList.take n).take i := by rw [List.take_take, show min i n = i by omega]
    rw [this, ht, ← List.map_take]
    rw [List.take_range, Nat.min_eq_left hi]
/-- Cells wiped. -/
theorem Outer.wiped {B n g c : Nat} {z : Value} : ∀ (m o : Nat) {w : World} {VR : Nat → Value}, Outer w B n (.slice (some ⟨g, 0, none⟩) n c) VR → o + m ≤ n → ∃ VR', Outer (w.setCells g o (List.replicate m z)) B n (.slice (some ⟨g, 0, none⟩) n c) VR' ∧ ∀ j, j < o → VR' j = VR j
  | 0, o, w, VR, h, _ => ⟨VR, h, fun _ _ => rfl⟩
  | m + 1, o, w, VR, h, hm => by
    obtain ⟨VR', h1, h2⟩ := Outer.wiped (z := z) m (o + 1) (h.stored (k := o) (v := z) (by omega)) (by omega)
    exact ⟨VR', h1, fun j hj => by rw [h2 j (by omega), upd_other _ _ (by omega)]⟩
theorem TT.wiped {B m g : Nat} {z : Value} {VR : Nat → Value} {ls : Nat → List Int} {ty : TypeId} (hne : ty ≠ 3) : ∀ (k o : Nat) {w : World}, (∃ cs, w.heap[g]? = some (.cells cs ty (0, 0))) → TT w B m VR ls → TT (w.setCells g o (List.replicate k z)) B m VR ls
  | 0, _, _, _, h => h
  | k + 1, o, w, ⟨cs, hc⟩, h => by
    refine TT.wiped hne k (o + 1) ?_ (h.store hc hne)
    exact ⟨_, heap_setCell_same _ _ _ _ _ _ hc⟩
theorem below_wiped {B g : Nat} {a : World} (hg : B ≤ g) : ∀ (vs : List Value) (o : Nat) (w : World), Below B a w → Below B a (w.setCells g o vs)
  | [], _, _, h => h
  | v :: r, o, w, h => by rw [World.setCells]; exact below_wiped hg r _ _ (h.setCell hg v)
theorem clear_runQ (w : World) (g o n c : Nat) (ty : TypeId) (hn : 0 < n) (hc : ∀ j, j < n → (w.cell? ⟨g, o + j, none⟩).isSome = true) (hf : ∀ j, j < n → w.frozen? ⟨g, o + j, none⟩ = false) :
    (Builtin.clear_ #[36] ty #[.slice (some ⟨g, o, none⟩) n c]).run Try.prog w = .ok (.tuple #[]) (w.setCells g o (List.replicate n (.slice none 0 0))) :=
  Lib.run_clear_slice w 36 23 ty (.slice none 0 0) Try.underlying36 (fun w => Try.zeroValue23 w) rfl rfl g o n c hn hc hf
theorem headR_run (b n c i : Nat) (h1 : i ≤ n) (h2 : n ≤ c) (W : World) : (Instr.slice 36 (.slice (some ⟨b, 0, none⟩) n c) none (some (.int .i64 (i : Int))) none).run Try.prog W = .ok (.slice (some ⟨b, 0, none⟩) i c) W := by
  have e1 : (0 : Int) ≤ (i : Int) := by omega
  have e2 : (i : Int) ≤ (c : Int) := by omega
  go_simp
  all_goals omega
theorem tailR_run (b n c t : Nat) (h1 : t < n) (h2 : n ≤ c) (W : World) : (Instr.slice 36 (.slice (some ⟨b, 0, none⟩) n c) (some (.int .i64 (t : Int))) none none).run Try.prog W = .ok (.slice (some ⟨b, t, none⟩) (n - t : Nat) (c - t : Nat)) W := by
  have e1 : (0 : Int) ≤ (t : Int) := by omega
  have e2 : (t : Int) ≤ (n : Int) := by omega
  have e3 : (n : Int) ≤ (c : Int) := by omega
  have e4 : ¬ c = t := by omega
  go_simp
  all_goals omega
/-- The table while rows are struck. -/
structure DfS (w wr : World) (B n g c L i j : Nat) (Ls : List (List Nat)) (VR VS : Nat → Value) : Prop where
  out : Outer wr B L (.slice (some ⟨g, 0, none⟩) L c) VS
  tt : TT wr B L VR (fun j => cI (Ls.getD j []))
  len : (kpS n Ls j).length = i
  front : ∀ t, t < i → VS t = VR ((kpS n Ls j).getD t 0)
  back : ∀ t, j ≤ t → t < L → VS t = VR t
  bel : Below B w wr
theorem DfS.skip {w wr w2 : World} {B n g c L i j : Nat} {Ls : List (List Nat)} {VR VS : Nat → Value} (h : DfS w wr B n g c L i j Ls VR VS) (hB : B ≤ wr.heap.size) (hb : Below wr.heap.size wr w2) (hr : rstS n (Ls.getD j []) = false) : DfS w w2 B n g c L i (j + 1) Ls VR VS :=
  ⟨h.out.below hb, h.tt.below hb, by rw [kpS_no hr]; exact h.len, by rw [kpS_no hr]; exact h.front, fun t h1 h2 => h.back t (by omega) h2, h.bel.trans (hb.mono hB)⟩
theorem DfS.keep {w wr w2 : World} {B n g c L i j : Nat} {Ls : List (List Nat)} {VR VS : Nat → Value} (h : DfS w wr B n g c L i j Ls VR VS) (hB : B ≤ wr.heap.size) (hb : Below wr.heap.size wr w2) (hr : rstS n (Ls.getD j []) = true) (hij : i < j) (hj : j < L) :
    DfS w (w2.setCell ⟨g, i, none⟩ (VR j)) B n g c L (i + 1) (j + 1) Ls VR (upd VS i (VR j)) := by
  have ho := h.out.below hb
  obtain ⟨⟨cs, hc⟩, hg, -⟩ := own_heap ho (g := g) rfl
  refine ⟨ho.stored (by omega), (h.tt.below hb).store hc (by decide), by rw [kpS_yes hr, List.length_append, h.len]; rfl, fun t ht => ?_, fun t h1 h2 => by rw [upd_other _ _ (by omega)]; exact h.back t (by omega) h2, (h.bel.trans (hb.mono hB)).setCell hg _⟩
  rw [kpS_yes hr]
  simp only [List.getD]
  by_cases e : t = i
  · subst e
    rw [upd_at, List.getElem?_append_right (by rw [h.len]; exact Nat.le_refl _), h.len]; simp
  · rw [upd_other _ _ e, List.getElem?_append_left (by rw [h.len]; omega), h.front t (by omega)]; rfl
def DfPost (B n g c : Nat) (Ls : List (List Nat)) (w : World) (e : Ending) (w' : World) : Prop :=
  ∃ i VR', e = .returned (.slice (some ⟨g, 0, none⟩) i c) ∧ Hid (RowsT w' B g c i (Ls.filter (rstS n)) VR') ∧ Hid (Below B w w')
theorem DfS.done {w wr : World} {B n g c L i : Nat} {Ls : List (List Nat)} {VR VS : Nat → Value} (h : DfS w wr B n g c L i L Ls VR VS) (hL : Ls.length = L) (hi : i < L) :
    DfPost B n g c Ls w (.returned (.slice (some ⟨g, 0, none⟩) i c)) (wr.setCells g i (List.replicate (L - i) (.slice none 0 0))) := by
  obtain ⟨VS', h1, h2⟩ := Outer.wiped (z := .slice none 0 0) (L - i) i h.out (by omega)
  obtain ⟨⟨cs, hc⟩, hg, -⟩ := own_heap h.out (g := g) rfl
  have ht := TT.wiped (B := B) (m := L) (z := .slice none 0 0) (VR := VR) (ls := fun j => cI (Ls.getD j [])) (ty := 23) (by decide) (L - i) i ⟨cs, hc⟩ h.tt
  have hlen : (Ls.filter (rstS n)).length = i := by rw [← kpS_rows, List.length_map, hL]; exact h.len
  have hkl := h.len
  have hat : ∀ t, t < i → (Ls.filter (rstS n)).getD t [] = Ls.getD ((kpS n Ls L).getD t 0) [] := fun t ht => by
    have := kpS_at (n := n) (Ls := Ls) (t := t) (by rw [hL, hkl]; exact ht)
    rw [hL] at this; exact this
  have hlt : ∀ t, t < i → (kpS n Ls L).getD t 0 < L := fun t ht => kpS_lt (getDN_mem (by rw [hkl]; exact ht))
  refine ⟨i, fun t => VR ((kpS n Ls L).getD t 0), rfl, ⟨hlen, (h1.cut (Nat.le_of_lt hi)).congr fun t ht => by rw [h2 t ht, h.front t ht], ⟨fun t hti => ?_, fun s t g' hs hti e1 e2 => ?_⟩⟩, below_wiped hg _ _ _ h.bel⟩
  · have := ht.own _ (hlt t hti)
    show World.ownsRow _ _ _ _ _ _ _
    rw [hat t hti]; exact this
  · have e3 := ht.dis _ _ _ (hlt s hs) (hlt t hti) e1 e2
    have hn := kpS_nodup n Ls L
    simp only [List.getD, List.getElem?_eq_getElem (show s < (kpS n Ls L).length by rw [hkl]; exact hs), List.getElem?_eq_getElem (show t < (kpS n Ls L).length by rw [hkl]; exact hti), Option.getD_some] at e3
    exact (List.getElem_inj hn).1 e3
def DfRel (w : World) (B n g c L : Nat) (Ls : List (List Nat)) (VR : Nat → Value) (a b : Value) (wr : World) : Prop :=
  ∃ i j VS, i < j ∧ j ≤ L ∧ a = .int .i64 ((i : Nat) : Int) ∧ b = .int .i64 ((j : Nat) : Int) ∧ Hid (DfS w wr B n g c L i j Ls VR VS)
set_option maxHeartbeats 1600000 in
theorem deleteR_any (n pb B g c L : Nat) (Ls : List (List Nat)) (VR : Nat → Value) (w : World) (hT : RowsT w B g c L Ls VR) (hA : AllSh n L Ls) (hpb : w.cell? ⟨pb, 0, none⟩ = some (.int .i64 ((n : Nat) : Int))) (hpB : pb < B) (hL : L ≤ 1000) :
    Calls Try.prog 60 #[.slice (some ⟨g, 0, none⟩) L c, .func (.func 62) #[] #[.pointer (some ⟨pb, 0, none⟩)]] w (DfPost B n g c Ls w) := by
  have HI := Lib.hid (indexR_any n pb B g c L Ls VR w hT hA hpb hL)
  have HT := Lib.hid hT
  have HA := Lib.hid hA
  have Hpb := Lib.hid hpb
  have HpB := Lib.hid hpB
  have hBw : B ≤ w.heap.size := by have := hT.g_lt; omega
  have Hc : Hid (L ≤ c) := by
    obtain ⟨A2, c2, he, hLc, -⟩ := own_sliceN hT.out
    injection he with _ _ he
    subst he
    exact hLc
  clear hT hA hpb hpB
  go_enter Try.func60, Try.ntmps60
  go_wp2_with fail
  refine HI.out.mono ?_
  rintro e w2 ⟨r, rfl, hr, hb2⟩
  have HB2 := Lib.hid hb2.out
  rcases hr.out with ⟨k, rfl, hkL, hkr, hkf⟩ | ⟨rfl, hall⟩
  · have hne : (((k : Nat) : Int) == -1) = false := by rw [beq_eq_false_iff_ne]; omega
    have HS0 : Hid (DfS w w2 B n g c L k (k + 1) Ls VR VR) := by
      have hkp : kpS n Ls (k + 1) = List.range k := by rw [kpS_no hkr, kpS_full hkf]
      have h2 := HT.out.below HB2.out
      refine ⟨h2.out, h2.tt, by rw [hkp, List.length_range], fun t ht => ?_, fun _ _ _ => rfl, HB2.out.mono hBw⟩
      rw [hkp]
      simp [List.getD, ht]
    clear hr hb2 hkr hkf HI
    go_wp2
    go_loopw [5, 6] (fun a b wr => DfRel w B n g c L Ls VR a b wr) (fun _ b _ => L - (intOf b).toNat)
    case atStart => exact ⟨k, k + 1, VR, by omega, by omega, rfl, by go_num, HS0⟩
    case round =>
      clear HS0
      obtain ⟨i, j, VS, hij, hjL, rfl, rfl, HS⟩ := hrel
      have Hsz : Hid (B ≤ wr.heap.size) := Nat.le_trans hBw HS.out.bel.size
      by_cases hlt : j < L
      · obtain ⟨hSj, h2⟩ := HA.out j hlt
        have hcj := (Outer.cell HS.out.out hlt).trans (by rw [HS.out.back j (Nat.le_refl _) hlt])
        obtain ⟨A, c', e, h1, h3, hrd⟩ := own_slice (HS.out.tt.own j hlt) rfl
        have hl4 := hSj.l4
        obtain ⟨m, Hm⟩ : ∃ m, Hid ((cI (Ls.getD j [])).length = m) := ⟨_, rfl⟩
        rw [Hm.out] at e h1
        have hp : PIn wr A c' m (cI (Ls.getD j [])) := ⟨hrd, Hm.out, ⟨h1, h3⟩, by rw [← Hm.out, cI_length]; omega⟩
        rw [e] at hcj
        have HD := Lib.hid (del_any n pb m c' A _ wr ((HS.out.bel.cell (p := ⟨pb, 0, none⟩) HpB.out).trans Hpb.out) hp hSj h2)
        obtain ⟨r, Hr⟩ : ∃ r, Hid (rstS n (Ls.getD j []) = r) := ⟨_, rfl⟩
        rw [Hr.out] at HD
        have He := Lib.hid e
        clear hSj h2 hp hrd hl4 e h1 h3
        cases r with
        | false =>
          go_wp2_with fail
          refine HD.out.mono ?_
          rintro e w3 ⟨rfl, hb3⟩
          have HS3 := Lib.hid (HS.out.skip Hsz.out hb3 Hr.out)
          clear hb3 HD HS
          go_wp2
          go_roundw
          case rel => exact ⟨i, j + 1, VS, by omega, by omega, rfl, by go_num, HS3⟩
          case measure => simp [intOf]; omega
        | true =>
          go_wp2_with fail
          refine HD.out.mono ?_
          rintro e w3 ⟨rfl, hb3⟩
          have hk3 := HS.out.keep Hsz.out hb3 Hr.out hij hlt
          rw [He.out] at hk3
          have HS3 := Lib.hid hk3
          have ho3 := HS.out.out.below hb3
          have ci : ∃ x, w3.cell? ⟨g, i, none⟩ = some x := ⟨_, Outer.cell ho3 (show i < L by omega)⟩
          obtain ⟨x, ci⟩ := ci
          have fi := World.ownsRow.frozenAt ho3 i
          have hiL : i < L := by omega
          clear hb3 HD HS hk3 ho3
          go_wp2
          go_roundw
          case rel => exact ⟨i + 1, j + 1, _, by omega, by omega, by go_num, by go_num, HS3⟩
          case measure => simp [intOf]; omega
      · obtain rfl : j = L := by omega
        have HE := Lib.hid (HS.out.done HT.out.len hij)
        have htl := tailR_run g j c i hij Hc.out
        have hhd := headR_run g j c i (by omega) Hc.out
        have hcl : ∀ ty, (Builtin.clear_ #[36] ty #[.slice (some ⟨g, i, none⟩) (j - i : Nat) (c - i : Nat)]).run Try.prog wr = .ok (.tuple #[]) (wr.setCells g i (List.replicate (j - i) (.slice none 0 0))) := fun ty =>
          clear_runQ wr g i (j - i) (c - i) ty (by omega) (fun t ht => by rw [Outer.cell HS.out.out (show i + t < j by omega)]; rfl) (fun t ht => World.ownsRow.frozenAt HS.out.out _)
        clear HS
        go_wp2
        go_ret
        exact HE.out
  · have hlen := HT.out.len
    have HE : Hid (DfPost B n g c Ls w (.returned (.slice (some ⟨g, 0, none⟩) L c)) w2) := by
      have e : Ls.filter (rstS n) = Ls := by
        rw [← kpS_rows, hlen, kpS_full hall, ← hlen, range_rows]
      exact ⟨L, VR, rfl, by rw [e]; exact HT.out.below HB2.out, HB2.out.mono hBw⟩
    clear hr hb2 hall HI hlen
    go_wp2
    go_ret
    exact HE.out
/-- A table as an answer. -/
def TabPost (Ls : List (List Nat)) (w : World) (e : Ending) (w' : World) : Prop :=
  ∃ A c VR, e = .returned (.slice A Ls.length c) ∧ Hid (Outer w' w.heap.size Ls.length (.slice A Ls.length c) VR) ∧ Hid (TT w' w.heap.size Ls.length VR (fun j => cI (Ls.getD j []))) ∧ Hid (Below w.heap.size w w')
theorem tabPost_nil (w w' : World) (h : Below w.heap.size w w') : TabPost [] w (.returned (.slice none 0 0)) w' :=
  ⟨none, 0, fun _ => .slice none 0 0, rfl, World.ownsRow_nil _ _ _ _, ⟨fun j hj => by simp at hj, fun i j g hi _ _ _ => by simp at hi⟩, h⟩
def QRows (F : Nat) : Prop := ∀ (n k : Int) (w : World), (Lit.int .i64 n).wf = true → (Lit.int .i64 k).wf = true → Calls Try.prog F #[.int .i64 n, .int .i64 k] w (TabPost (rsQ n k) w)
theorem allSh_lst {n k : Nat} (h1 : 1 ≤ n) (h9 : n ≤ 9) (h2 : 2 ≤ k) (h4 : k ≤ 4) : AllSh n (lstS n k 0).length (lstS n k 0) := fun j hj => by
  have hm : (lstS n k 0).getD j [] ∈ lstS n k 0 := by simp [List.getD, hj]
  have h := lstS_mem.1 hm
  exact ⟨⟨h1, h9, by omega, by omega, h.2.2, h.2.1⟩, by omega⟩
set_option maxHeartbeats 800000 in
theorem iRestsOf_ok : QRows 33 := by
  intro n k w hwn hwk
  have hb1 : Below w.heap.size w (w.alloc (.cells #[.int .i64 n] 3)) := (Below.refl _ _).alloc (Nat.le_refl _) _
  have hbx : (w.alloc (.cells #[.int .i64 n] 3)).cell? ⟨w.heap.size, 0, none⟩ = some (.int .i64 n) := (cell_of_row _ _ _ _ _ _ (heap_alloc_new w _)).trans rfl
  have hs1 : (w.alloc (.cells #[.int .i64 n] 3)).heap.size = w.heap.size + 1 := size_alloc1 _ _
  have HV := Lib.hid (fun W => validStreet_any n W)
  by_cases hn : 1 ≤ n ∧ n ≤ 9
  · have hv : (decide (1 ≤ n) && decide (n ≤ 9)) = true := by simp [hn.1, hn.2]
    rw [hv] at HV
    by_cases h2 : k < 2
    · rw [rsQ_no (by unfold okR; simp; omega)]
      have HB1 := Lib.hid hb1
      clear hn hv hb1 hs1
      go_enter Try.func33, Try.ntmps33
      go_wp2_with fail
      refine (HV.out _).mono ?_
      rintro e w1 ⟨rfl, rfl⟩
      go_wp2
      go_ret
      exact tabPost_nil _ _ HB1.out
    · by_cases h4 : 4 < k
      · rw [rsQ_no (by unfold okR; simp; omega)]
        have HB1 := Lib.hid hb1
        clear hn hv hb1 hs1
        go_enter Try.func33, Try.ntmps33
        go_wp2_with fail
        refine (HV.out _).mono ?_
        rintro e w1 ⟨rfl, rfl⟩
        go_wp2
        go_ret
        exact tabPost_nil _ _ HB1.out
      · obtain ⟨N, K, rfl, rfl, q1, q2, q3, q4⟩ := okR_get (n := n) (k := k) (by unfold okR; simp; omega)
        rw [rsQ_yes q1 q2 q3 q4]
        have HLs := Lib.hid (fun W => lists_any N q2 K q4 0 W (Nat.zero_le _))
        have Hll := Lib.hid (lst_le (a := 0) q2 q4 (by omega))
        have HA := Lib.hid (allSh_lst q1 q2 q3 q4)
        have HF : Hid ((lstS N K 0).filter (rstS N) = rsS N K) := rfl
        have HB1 := Lib.hid hb1
        have HS1 := Lib.hid hs1
        have Hbx := Lib.hid hbx
        obtain ⟨w1, Hw1⟩ : ∃ w1, Hid (w.alloc (.cells #[.int .i64 ((N : Nat) : Int)] 3) = w1) := ⟨_, rfl⟩
        rw [Hw1.out] at HB1 HS1 Hbx hbx
        have hk2 : ¬ ((K : Nat) : Int) < 2 := by omega
        clear hn hv hb1 hs1
        go_enter Try.func33, Try.ntmps33
        go_wp2_with fail
        rw [Hw1.out]
        refine (HV.out _).mono ?_
        rintro e w2 ⟨rfl, rfl⟩
        go_wp2_with fail
        refine (HLs.out _).mono ?_
        rintro e w3 ⟨g, c, VR, rfl, hT, hb3⟩
        have HD := Lib.hid (deleteR_any N w.heap.size w1.heap.size g c _ _ VR w3 hT.out HA.out ((hb3.out.cell (p := ⟨w.heap.size, 0, none⟩) (by rw [HS1.out]; exact Nat.lt_succ_self _)).trans Hbx.out) (by rw [HS1.out]; exact Nat.lt_succ_self _) Hll.out)
        have HB3 := Lib.hid hb3.out
        clear hT hb3 hbx
        go_wp2_with fail
        refine HD.out.mono ?_
        rintro e w4 ⟨i, VR', rfl, hT4, hb4⟩
        rw [HF.out] at hT4
        have HE : Hid (TabPost (rsS N K) w (.returned (.slice (some ⟨g, 0, none⟩) i c)) w4) := by
          obtain ⟨hl, ho, ht⟩ := hT4.out
          subst hl
          exact ⟨_, _, VR', rfl, own_lowQ ho HB1.out.size, ⟨fun j hj => own_lowQ (ht.own j hj) HB1.out.size, ht.dis⟩, HB1.out.trans ((HB3.out.trans hb4.out).mono HB1.out.size)⟩
        clear hT4 hb4 HD
        go_wp2
        go_ret
        exact HE.out
  · have hv : (decide (1 ≤ n) && decide (n ≤ 9)) = false := by simp; omega
    rw [hv] at HV
    rw [rsQ_no (by unfold okR; rw [hv]; rfl)]
    have HB1 := Lib.hid hb1
    clear hn hv hb1 hs1
    go_enter Try.func33, Try.ntmps33
    go_wp2_with fail
    refine (HV.out _).mono ?_
    rintro e w1 ⟨rfl, rfl⟩
    go_wp2
    go_ret
    exact tabPost_nil _ _ HB1.out
end Go.Proofs.Ytoohfipicmdohaa
namespace Go.Proofs.Ytoohfipicmdohaa
open Go.ChangeShapes Go.WideShapes Go.ChangeAt Go.RowKit
set_option linter.unusedVariables false
set_option maxRecDepth 4000

/-- Two tables behind each other. -/
theorem RowsT.cat {W wr w4 w5 : World} {B' g c L gR cR N : Nat} {Ls Rs : List (List Nat)} {VR VRR : Nat → Value} {v : Value} (h : RowsT wr W.heap.size g c L Ls VR) (hB : Below W.heap.size W wr) (hb : Below wr.heap.size wr w4) (hR : RowsT w4 B' gR cR N Rs VRR) (hB' : wr.heap.size ≤ B')
    (hown5 : w5.ownsRow W.heap.size 23 1 v (L + N) ((List.range L).map VR ++ (List.range N).map VRR)) (hg : w4.grownBy w5 (Value.slice (some ⟨g, 0, none⟩) L c).ownBlock) (hv : v ≠ .slice none 0 0) :
    ∃ g5 c5, v = .slice (some ⟨g5, 0, none⟩) (L + N) c5 ∧ RowsT w5 W.heap.size g5 c5 (L + N) (Ls ++ Rs) (fun j => if j < L then VR j else VRR (j - L)) ∧ Below W.heap.size W w5 := by
  have h4 := h.below hb
  obtain ⟨⟨cs, hcs⟩, hgW, -⟩ := own_heap h4.out (g := g) rfl
  have hrow : ∀ g', (Value.slice (some ⟨g, 0, none⟩) L c).ownBlock = some g' → ∃ cs ty, w4.heap[g']? = some (.cells cs ty (0, 0)) ∧ ty ≠ 3 := fun g' e => by
    injection e with e
    subst e
    exact ⟨cs, _, hcs, by decide⟩
  have t1 := h4.tt.keptBy hg hrow
  have t2 := hR.tt.keptBy hg hrow
  have hlt : ∀ {i g'}, i < L → (VR i).ownBlock = some g' → g' < wr.heap.size := fun hi e => (own_heap (h.tt.own _ hi) e).2.2
  have hge : ∀ {i g'}, i < N → (VRR i).ownBlock = some g' → wr.heap.size ≤ g' := fun hi e => Nat.le_trans hB' (own_heap (hR.tt.own _ hi) e).2.1
  have hlen : (Ls ++ Rs).length = L + N := by rw [List.length_append, h.len, hR.len]
  have hW5 : W.heap.size ≤ B' := Nat.le_trans hB.size hB'
  obtain ⟨g5, c5, rfl⟩ : ∃ g5 c5, v = .slice (some ⟨g5, 0, none⟩) (L + N) c5 := by
    rcases hown5.2 with ⟨e, -⟩ | ⟨g5, c5, cur, e, -⟩
    · exact absurd e hv
    · exact ⟨g5, c5, e⟩
  refine ⟨g5, c5, rfl, ⟨hlen, ?_, ⟨fun j hj => ?_, fun i j g' hi hj e1 e2 => ?_⟩⟩, (hB.trans (hb.mono hB.size)).grown hg (Nat.le_trans hB.size hb.size) (fun g' e => ?_)⟩
  · unfold Outer
    rw [List.range_add, List.map_append, List.map_map]
    have e1 : (List.range L).map (fun j => if j < L then VR j else VRR (j - L)) = (List.range L).map VR := List.map_congr_left fun i hi => if_pos (List.mem_range.1 hi)
    have e2 : (List.range N).map ((fun j => if j < L then VR j else VRR (j - L)) ∘ fun x => L + x) = (List.range N).map VRR := List.map_congr_left fun i _ => by
      show (if L + i < L then VR (L + i) else VRR (L + i - L)) = VRR i
      rw [if_neg (by omega), show L + i - L = i by omega]
    rw [e1, e2]; exact hown5
  · by_cases e : j < L
    · have := t1.own j e
      show World.ownsRow _ _ _ _ (if j < L then VR j else VRR (j - L)) _ _
      rw [if_pos e]
      have e3 : (Ls ++ Rs).getD j [] = Ls.getD j [] := by simp only [List.getD]; rw [List.getElem?_append_left (by rw [h.len]; exact e)]
      rw [e3]; exact this
    · have := t2.own (j - L) (by omega)
      show World.ownsRow _ _ _ _ (if j < L then VR j else VRR (j - L)) _ _
      rw [if_neg e]
      have e3 : (Ls ++ Rs).getD j [] = Rs.getD (j - L) [] := by simp only [List.getD]; rw [List.getElem?_append_right (by rw [h.len]; omega), h.len]
      rw [e3]; exact own_lowQ this hW5
  · by_cases a1 : i < L <;> by_cases a2 : j < L
    · simp only [if_pos a1, if_pos a2] at e1 e2; exact h.tt.dis i j g' a1 a2 e1 e2
    · simp only [if_pos a1, if_neg a2] at e1 e2
      have := hlt a1 e1
      have := hge (show j - L < N by omega) e2
      omega
    · simp only [if_neg a1, if_pos a2] at e1 e2
      have := hlt a2 e2
      have := hge (show i - L < N by omega) e1
      omega
    · simp only [if_neg a1, if_neg a2] at e1 e2
      have := hR.tt.dis (i - L) (j - L) g' (by omega) (by omega) e1 e2
      omega
  · injection e with e
    rw [← e]; exact hgW

/-- The last one of some places, 0 for none. -/
def lastQ (ss : List Nat) : Nat := ss.getD (ss.length - 1) 0
theorem lastQ_snoc (ss : List Nat) (q : Nat) : lastQ (ss ++ [q]) = q := by simp [lastQ, List.getD]
structure HdQ (n : Nat) (ss : List Nat) : Prop where
  lt : ∀ s ∈ ss, s < n
  asc : ascS 0 ss = true
  top : ∀ s ∈ ss, s ≤ lastQ ss
theorem ascS_snoc {q : Nat} : ∀ {ss : List Nat} {a : Nat}, ascS a ss = true → (∀ s ∈ ss, s ≤ q) → a ≤ q → ascS a (ss ++ [q]) = true
  | [], a, _, _, h => by simp [ascS, h]
  | s :: r, a, h, hl, hq => by
    simp only [ascS, Bool.and_eq_true, decide_eq_true_eq] at h
    show (decide (a ≤ s) && ascS s (r ++ [q])) = true
    simp only [Bool.and_eq_true, decide_eq_true_eq]
    exact ⟨h.1, ascS_snoc h.2 (fun t ht => hl t (List.mem_cons_of_mem _ ht)) (hl s (by simp))⟩
theorem HdQ.nil (n : Nat) : HdQ n [] := ⟨by simp, rfl, by simp⟩
theorem HdQ.snoc {n q : Nat} {ss : List Nat} (h : HdQ n ss) (h1 : lastQ ss ≤ q) (h2 : q < n) : HdQ n (ss ++ [q]) := by
  have hall : ∀ s ∈ ss, s ≤ q := fun s hs => Nat.le_trans (h.top s hs) h1
  refine ⟨fun s hs => ?_, ascS_snoc h.asc hall (Nat.zero_le _), fun s hs => ?_⟩
  · rcases List.mem_append.1 hs with hs | hs
    · exact h.lt s hs
    · rw [List.mem_singleton.1 hs]; exact h2
  · rw [lastQ_snoc]
    rcases List.mem_append.1 hs with hs | hs
    · exact hall s hs
    · rw [List.mem_singleton.1 hs]; exact Nat.le_refl _
/-- The lists at rest that begin with some places. -/
def rfL (n j a : Nat) (ss : List Nat) : List (List Nat) := ((lstS n j a).map (ss ++ ·)).filter (rstS n)
def prR (n j : Nat) (ss : List Nat) (a p : Nat) : List (List Nat) := (List.range' a (p - a)).flatMap fun q => rfL n j q (ss ++ [q])
theorem prR_start (n j : Nat) (ss : List Nat) (a : Nat) : prR n j ss a a = [] := by simp [prR]
theorem prR_step {n j a p : Nat} {ss : List Nat} (h : a ≤ p) : prR n j ss a (p + 1) = prR n j ss a p ++ rfL n j p (ss ++ [p]) := by
  unfold prR
  rw [show p + 1 - a = p - a + 1 by omega, List.range'_concat, List.flatMap_append]
  simp [show a + (p - a) = p by omega]
theorem rfL_succ (n j a : Nat) (ss : List Nat) : rfL n (j + 1) a ss = prR n j ss a n := by
  unfold rfL prR
  rw [lstS, List.map_flatMap, List.filter_flatMap]
  congr 1
  funext q
  unfold rfL
  rw [List.map_map]
  congr 1
  refine List.map_congr_left fun l _ => ?_
  show ss ++ q :: l = ss ++ [q] ++ l
  simp
theorem rfL_le (n j a : Nat) (ss : List Nat) : (rfL n j a ss).length ≤ (lstS n j a).length := by
  unfold rfL
  have := List.length_filter_le (rstS n) ((lstS n j a).map (ss ++ ·))
  rwa [List.length_map] at this
theorem prR_le {n j a p : Nat} {ss : List Nat} (h1 : a ≤ p) (h2 : p ≤ n) : (prR n j ss a p).length ≤ (lstS n (j + 1) a).length := by
  have h := rfL_le n (j + 1) a ss
  rw [rfL_succ] at h
  have e : prR n j ss a n = prR n j ss a p ++ (List.range' p (n - p)).flatMap fun q => rfL n j q (ss ++ [q]) := by
    unfold prR
    rw [← List.flatMap_append]
    congr 1
    rw [show n - a = (p - a) + (n - p) by omega, ← List.range'_append_1, show a + (p - a) = p by omega]
  rw [e, List.length_append] at h
  omega
/-- What restsFrom must answer, with j places to come. -/
def RfAt (n k j : Nat) : Prop := ∀ (ss : List Nat) (A : Option Addr) (m c : Nat) (w : World), PIn w A c m (cI ss) → PartQ w A m c (cI ss) → HdQ n ss → m + j = k →
  Calls Try.prog 64 #[.int .i64 ((n : Nat) : Int), .slice A m c, .int .i64 ((k : Nat) : Int)] w (LsPost (rfL n j (lastQ ss) ss) w)
theorem lsPost_none (n : Nat) (w w1 : World) (hb : Below w.heap.size w w1) : LsPost [] w (.returned (.slice (some ⟨w1.heap.size, 0, none⟩) 0 0)) (w1.alloc (.cells #[] 23)) :=
  ⟨w1.heap.size, 0, fun _ => .slice none 0 0, rfl, ⟨rfl, World.ownsRow_lit w1 #[] 0 hb.size (by decide) rfl, ⟨fun j hj => by simp at hj, fun i j g hi _ _ _ => by simp at hi⟩⟩, hb.alloc hb.size _⟩
theorem lsPost_one {w w1 : World} {v : Value} {l : List Nat} (hb : Below w.heap.size w w1) (ho : w1.ownsRow w.heap.size 3 1 v l.length ((cI l).map (Value.int .i64))) : LsPost [l] w (.returned (.slice (some ⟨w1.heap.size, 0, none⟩) 1 1)) (w1.alloc (.cells #[v] 23)) := by
  have h2 := World.ownsRow_lit w1 #[v] 1 (base := w.heap.size) (size := 1) (e := 23) hb.size (by decide) rfl
  refine ⟨w1.heap.size, 1, fun _ => v, rfl, ⟨rfl, h2, ⟨fun j hj => ?_, fun i j g hi hj _ _ => ?_⟩⟩, hb.alloc hb.size _⟩
  · obtain rfl : j = 0 := by simp at hj; exact hj
    show World.ownsRow _ _ _ _ _ (cI l).length _
    rw [cI_length]; exact ho.alloc _
  · simp at hi hj; omega
set_option maxHeartbeats 800000 in
theorem rf_zero (n k : Nat) (h1 : 1 ≤ n) (h9 : n ≤ 9) (h2 : 2 ≤ k) (h4 : k ≤ 4) : RfAt n k 0 := by
  intro ss A m c w hp hq hh hmk
  obtain ⟨i0, hi0, hz0, hz1, hz2⟩ := info_parts intInfo
  have hm : ss.length = m := by rw [← cI_length]; exact hp.len
  obtain rfl : m = k := by omega
  have hS : Sh n ss := ⟨h1, h9, by omega, by omega, hh.lt, hh.asc⟩
  have HR := Lib.hid (sRests_any n m c A ss w hp hS h2)
  have hE : rfL n 0 (lastQ ss) ss = if rstS n ss = true then [ss] else [] := by
    unfold rfL
    simp only [lstS, List.map_cons, List.map_nil, List.append_nil]
    by_cases h : rstS n ss = true
    · rw [if_pos h, List.filter_cons_of_pos h, List.filter_nil]
    · rw [if_neg h, List.filter_cons_of_neg h, List.filter_nil]
  rw [hE]
  have Hm := Lib.hid hm
  have HQ := Lib.hid hq
  have ht : ((m : Int) == (m : Int)) = true := by rw [beq_iff_eq]
  clear hp hq hh hmk hm hS hE
  generalize rstS n ss = r at HR ⊢
  cases r with
  | false =>
    go_enter Try.func64, Try.ntmps64
    go_wp2_with fail
    refine HR.out.mono ?_
    rintro e w1 ⟨rfl, hb1⟩
    have HE := Lib.hid (lsPost_none n w w1 hb1)
    go_wp2
    go_ret
    exact HE.out
  | true =>
    go_enter Try.func64, Try.ntmps64
    go_wp2_with fail
    refine HR.out.mono ?_
    rintro e w1 ⟨rfl, hb1⟩
    have HB1 : Hid (Below w.heap.size w (w1.alloc (.cells #[] 3))) := hb1.alloc hb1.size _
    have HO1 : Hid ((w1.alloc (.cells #[] 3)).ownsRow w.heap.size 3 1 (.slice (some ⟨w1.heap.size, 0, none⟩) 0 0) 0 (([] : List Int).map (Value.int .i64))) := World.ownsRow_lit w1 #[] 0 hb1.size (by decide) rfl
    have HP1 := Lib.hid (HQ.out.later HB1.out)
    have Hne : Hid ((Value.slice (some ⟨w1.heap.size, 0, none⟩) 0 0) ≠ .slice none 0 0) := (by intro h; cases h)
    have hs1 := HB1.out.size
    clear hb1
    go_wp2_with (at_builtin; refine wpList_append_partQ hi0 hz0 hz1 hz2 rfl _ _ rfl w.heap.size _ 0 [] rfl HO1.out Hne.out A m c (cI ss) rfl HP1.out (by omega) (by omega) hs1 ?_; intro v2 w2 hown2 hne2 hb2; obtain ⟨g2, c2, rfl, -, -⟩ := World.ownsRow.form hown2 (by omega))
    have HE := Lib.hid (lsPost_one (l := ss) (HB1.out.trans hb2) (by rw [Hm.out]; rw [Nat.zero_add, List.nil_append] at hown2; exact hown2))
    clear hown2 hne2 hb2
    go_wp2
    go_ret
    exact HE.out
def RfRel (n j a : Nat) (ss : List Nat) (W : World) (o i : Value) (wr : World) : Prop :=
  ∃ p g c L VR, a ≤ p ∧ p ≤ n ∧ o = .slice (some ⟨g, 0, none⟩) L c ∧ i = .int .i64 ((p : Nat) : Int) ∧ Hid (RowsT wr W.heap.size g c L (prR n j ss a p) VR) ∧ Hid (Below W.heap.size W wr)
set_option maxHeartbeats 3200000 in
theorem rf_loop (n k j a m c : Nat) (A : Option Addr) (ss : List Nat) (w : World) (hn9 : n ≤ 9) (hj4 : j + 1 ≤ 4) (IH : RfAt n k j) (hp : PIn w A c m (cI ss)) (hq : PartQ w A m c (cI ss)) (hh : HdQ n ss) (hmk : m + (j + 1) = k) (ha : lastQ ss = a) (han : a ≤ n) (hk4 : k ≤ 4) :
    Calls Try.prog 64 #[.int .i64 ((n : Nat) : Int), .slice A m c, .int .i64 ((k : Nat) : Int)] w (LsPost (prR n j ss a n) w) := by
  obtain ⟨i0, hi0, hz0, hz1, hz2⟩ := info_parts intInfo
  obtain ⟨is, his, hzs0, hzs1, hzs2⟩ := info_parts slInfo2
  have hm : ss.length = m := by rw [← cI_length]; exact hp.len
  have Hm := Lib.hid hm
  have HIH := Lib.hid IH
  have HQ := Lib.hid hq
  have Hh := Lib.hid hh
  have Ha := Lib.hid ha
  have HO0 : Hid (RowsT (w.alloc (.cells #[] 23)) w.heap.size w.heap.size 0 0 (prR n j ss a a) (fun _ => .slice none 0 0)) := by
    have h := World.ownsRow_lit (base := w.heap.size) (e := 23) (size := 1) w #[] 0 (Nat.le_refl _) (by decide) rfl
    exact ⟨by rw [prR_start]; rfl, h, ⟨fun j hj => by omega, fun i j g hi _ _ _ => by omega⟩⟩
  have HB0 : Hid (Below w.heap.size w (w.alloc (.cells #[] 23))) := (Below.refl _ _).alloc (Nat.le_refl _) _
  have ht : ((m : Int) == (k : Int)) = false := by rw [beq_eq_false_iff_ne]; omega
  have Hlen : Hid (∀ p, a ≤ p → p ≤ n → (prR n j ss a p).length ≤ 1000) := fun p h1 h2 => Nat.le_trans (prR_le h1 h2) (lst_le hn9 hj4 (by omega))
  have Hmj : Hid (m + 1 + j = k) := by show _ = _; omega
  have hmk2 : m ≤ 4 := by omega
  have HFrom : Hid (0 < m → ∃ b off, A = some ⟨b, off, none⟩ ∧ w.cell? ⟨b, off + (m - 1), none⟩ = some (.int .i64 ((a : Nat) : Int))) := fun h0 => by
    obtain ⟨b, off, s, e, -, hs, hc⟩ := hp.rd.q (k := m - 1) (by omega)
    have : s = a := by rw [← hs.out, ← ha]; unfold lastQ; rw [hm]
    rw [this] at hc
    exact ⟨b, off, e, hc⟩
  have Ha0 : Hid (m = 0 → a = 0) := fun h0 => by
    rw [← ha]
    have : ss = [] := List.length_eq_zero_iff.1 (by omega)
    rw [this]; rfl
  clear IH hp hq hh ha hm hmk
  have HPs : Hid (∀ (p : Nat) (V V1 : World) (v1 : Value), a ≤ p → p < n → V1.ownsRow V.heap.size 3 1 v1 (m + 1) ((cI (ss ++ [p])).map (Value.int .i64)) →
      ∃ A1 c1, v1 = .slice A1 (m + 1 : Nat) c1 ∧ Calls Try.prog 64 #[.int .i64 ((n : Nat) : Int), .slice A1 (m + 1 : Nat) c1, .int .i64 ((k : Nat) : Int)] V1 (LsPost (rfL n j p (ss ++ [p])) V1)) := fun p V V1 v1 h1 h2 ho => by
    have hl : (cI (ss ++ [p])).length = m + 1 := by rw [cI_length]; simp [Hm.out]
    obtain ⟨A1, c1, rfl, hpq⟩ := part_own ho hl
    obtain ⟨A2, c2, he, hc1, hc2, hr⟩ := own_slice ho hl
    injection he with e1 _ e3
    subst e1 e3
    refine ⟨A1, c1, rfl, ?_⟩
    have := HIH.out (ss ++ [p]) A1 (m + 1) c1 V1 ⟨hr, hl, ⟨hc1, hc2⟩, by omega⟩ hpq (Hh.out.snoc (by rw [Ha.out]; exact h1) h2) Hmj.out
    rw [lastQ_snoc] at this
    exact this
  have Hcat : Hid (∀ p, [] ++ cI ss ++ cI [p] = cI (ss ++ [p])) := fun p => by rw [List.nil_append, cI_append]
  have hone : ∀ V : World, PartQ (V.alloc (.cells #[.int .i64 ((0 : Nat) : Int)] 3)) (some ⟨V.heap.size, 0, none⟩) 1 1 (cI [0]) := fun V => partQ_one V 0
  clear hone
  have hcase : (0 < m ∧ m - 1 < m ∧ IntKind.i64.wrap ((m : Int) - 1) = ((m - 1 : Nat) : Int) ∧ ∃ b off, A = some ⟨b, off, none⟩ ∧ w.cell? ⟨b, off + (m - 1), none⟩ = some (.int .i64 ((a : Nat) : Int))) ∨ (¬ 0 < m ∧ Hid (a = 0)) := by
    by_cases h0 : 0 < m
    · exact .inl ⟨h0, by omega, by rw [IntKind.wrap_i64]; omega, HFrom.out h0⟩
    · exact .inr ⟨h0, (show Hid (a = 0) from Ha0.out (by omega))⟩
  clear HFrom Ha0
  rcases hcase with ⟨h0, hm1, hwm, b, off, rfl, hcl⟩ | ⟨h0, h00⟩
  all_goals
    go_enter Try.func64, Try.ntmps64
    go_wp2
    go_loopw [8, 9] (fun o i wr => RfRel n j a ss w o i wr) (fun _ i _ => n - (intOf i).toNat)
    case atStart => exact ⟨a, _, _, _, _, Nat.le_refl _, han, rfl, (by first | rfl | (rw [h00.out]; rfl)), HO0, HB0⟩
    case round =>
      clear HO0 HB0
      obtain ⟨p, g, c', L, VR, hap, hpn, rfl, rfl, HT, HB⟩ := hrel
      by_cases hlt : p < n
      · have HB1 : Hid (Below wr.heap.size wr (wr.alloc (.cells #[] 3))) := (Below.refl _ _).alloc (Nat.le_refl _) _
        have HO1 : Hid ((wr.alloc (.cells #[] 3)).ownsRow wr.heap.size 3 1 (.slice (some ⟨wr.heap.size, 0, none⟩) 0 0) 0 (([] : List Int).map (Value.int .i64))) := World.ownsRow_lit wr #[] 0 (Nat.le_refl _) (by decide) rfl
        have HP1 := Lib.hid (HQ.out.later (HB.out.trans (HB1.out.mono HB.out.size)))
        have Hne : Hid ((Value.slice (some ⟨wr.heap.size, 0, none⟩) 0 0) ≠ .slice none 0 0) := (by intro h; cases h)
        have hs0 : wr.heap.size ≤ (wr.alloc (.cells #[] 3)).heap.size := HB1.out.size
        have hl1 := Hlen.out p hap hpn
        have hl2 := Hlen.out (p + 1) (by omega) (by omega)
        rw [HT.out.len] at hl1
        go_wp2_with (first
          | (at_builtin; refine wpList_append_partQ hi0 hz0 hz1 hz2 rfl _ _ rfl wr.heap.size _ (0 + m) ([] ++ cI ss) rfl hown1 hne1 (some ⟨w1.heap.size, 0, none⟩) 1 1 (cI [p]) rfl (partQ_one w1 p) (by omega) (by omega) hs1 ?_
             intro v2 w2 hown2 hne2 hb2
             rw [Hcat.out p, show 0 + m + 1 = m + 1 by omega] at hown2
             have hb12 : Below wr.heap.size wr w2 := ((HB1.out.trans hb1).alloc (by have := hb1.size; have := HB1.out.size; omega) _).trans hb2
             clear hown1 hne1 hb1 hs1 hb2 hne2
             obtain ⟨A1, c1, rfl, hcall⟩ := HPs.out p wr w2 v2 hap hlt hown2)
          | (at_builtin; refine wpList_append_partQ hi0 hz0 hz1 hz2 rfl _ _ rfl wr.heap.size _ 0 [] rfl HO1.out Hne.out _ m c (cI ss) rfl HP1.out (by omega) (by omega) hs0 ?_
             intro v1 w1 hown1 hne1 hb1
             have hs1 : wr.heap.size ≤ (w1.alloc (.cells #[.int .i64 ((p : Nat) : Int)] 3)).heap.size := (by rw [size_alloc1]; have := hb1.size; have := HB1.out.size; omega)
             have hown1 := World.ownsRow.alloc hown1 (.cells #[.int .i64 ((p : Nat) : Int)] 3)))
        go_wp2_with fail
        refine hcall.mono ?_
        rintro e w3 ⟨gR, cR, VRR, rfl, hT3, hb3⟩
        obtain ⟨N, HN⟩ : ∃ N, Hid ((rfL n j p (ss ++ [p])).length = N) := ⟨_, rfl⟩
        rw [HN.out] at hT3 ⊢
        have HB3 : Hid (Below wr.heap.size wr w3) := hb12.trans (hb3.out.mono hb12.size)
        have hLN : L + N ≤ 1000 := by
          rw [prR_step hap, List.length_append, HT.out.len, HN.out] at hl2
          exact hl2
        have Hnews : Hid (∀ t u, ((List.range N).map VRR)[t]? = some u → w3.cell? ((⟨gR, 0, none⟩ : Addr).add t) = some u) := fun t u hu => by
          have ht : t < N := by have := (List.getElem?_eq_some_iff.1 hu).1; simpa using this
          rw [addr_add0, Outer.cell hT3.out.out ht]
          rw [← hu]; simp [ht]
        have Hone : Hid (∀ u ∈ (List.range N).map VRR, u.oneCell' = true) := fun u hu => by
          obtain ⟨t, ht, rfl⟩ := List.mem_map.1 hu
          obtain ⟨A7, c7, e7, -⟩ := own_sliceN (hT3.out.tt.own t (List.mem_range.1 ht))
          rw [e7]; rfl
        have HTo := Lib.hid (HT.out.below HB3.out).out
        have hsz1 : L + N ≤ maxLen := by unfold maxLen; omega
        have hsz2 : (L + N) * 24 ≤ 140737488355328 := by omega
        have hbase : w.heap.size ≤ w3.heap.size := Nat.le_trans HB.out.size HB3.out.size
        have HR3 := Lib.hid hT3.out
        have Hge : Hid (wr.heap.size ≤ w2.heap.size) := hb12.size
        clear hT3 hb3 hcall hown2 hb12 HB1 HO1 HP1 Hne hs0 hl1 hl2
        go_wp2_with (at_builtin; refine wpList_append_own _ rfl _ _ 36 rfl w.heap.size 23 is _ 1 24 Try.underlying36 his hzs0 hzs1 hzs2 rfl (by decide) _ L ((List.range L).map VR) rfl HTo.out ⟨gR, 0, none⟩ N cR ((List.range N).map VRR) rfl (by simp) Hnews.out Hone.out hsz1 hsz2 hbase ?_; intro v5 w5 hown5 hgrow5 hnil5; obtain ⟨g5, c5, rfl, hT5, hB5⟩ := HT.out.cat HB.out HB3.out HR3.out Hge.out hown5 hgrow5 (fun e => by cases (hnil5.1 e).1))
        have HT5 : Hid (RowsT w5 w.heap.size g5 c5 (L + N) (prR n j ss a (p + 1)) (fun t => if t < L then VR t else VRR (t - L))) := by show RowsT _ _ _ _ _ _ _; rw [prR_step hap]; exact hT5
        have HB5 := Lib.hid hB5
        clear hT5 hB5 hown5 hgrow5 hnil5 HTo HR3 Hnews Hone hsz1 hsz2 hbase HT HB HB3
        go_wp2
        go_roundw
        case rel => exact ⟨p + 1, g5, c5, L + N, _, by omega, by omega, rfl, by go_num, HT5, HB5⟩
        case measure => simp [intOf]; omega
      · obtain rfl : p = n := by omega
        have HE : Hid (LsPost (prR p j ss a p) w (.returned (.slice (some ⟨g, 0, none⟩) L c')) wr) := by
          have hl := HT.out.len
          subst hl
          exact ⟨g, c', VR, rfl, HT, HB⟩
        go_wp2
        go_ret
        exact HE.out
theorem rf_step (n k j : Nat) (h1 : 1 ≤ n) (hn9 : n ≤ 9) (hj4 : j + 1 ≤ 4) (hk4 : k ≤ 4) (IH : RfAt n k j) : RfAt n k (j + 1) := by
  intro ss A m c w hp hq hh hmk
  rw [rfL_succ]
  refine rf_loop n k j (lastQ ss) m c A ss w hn9 hj4 IH hp hq hh hmk rfl ?_ hk4
  unfold lastQ
  by_cases h : 0 < ss.length
  · have := hh.lt _ (getDN_mem (show ss.length - 1 < ss.length by omega)); omega
  · have : ss = [] := List.length_eq_zero_iff.1 (by omega)
    subst this; simp [List.getD]
theorem rf_any (n k : Nat) (h1 : 1 ≤ n) (h9 : n ≤ 9) (h2 : 2 ≤ k) (h4 : k ≤ 4) : ∀ j, j ≤ 4 → RfAt n k j
  | 0, _ => rf_zero n k h1 h9 h2 h4
  | j + 1, hj => rf_step n k j h1 h9 hj h4 (rf_any n k h1 h9 h2 h4 j (by omega))
theorem rfL_all (n k : Nat) : rfL n k 0 [] = rsS n k := by
  unfold rfL rsS
  congr 1
  simp
set_option maxHeartbeats 800000 in
theorem sRestsOf_ok : QRows 35 := by
  intro n k w hwn hwk
  have H1 := Lib.hid (fun W => inRange_any n 1 9 W)
  have H2 := Lib.hid (fun W => inRange_any k 2 4 W)
  by_cases hn : 1 ≤ n ∧ n ≤ 9
  · have hv : (decide (1 ≤ n) && decide (n ≤ 9)) = true := by simp [hn.1, hn.2]
    rw [hv] at H1
    by_cases hk : 2 ≤ k ∧ k ≤ 4
    · have hv2 : (decide (2 ≤ k) && decide (k ≤ 4)) = true := by simp [hk.1, hk.2]
      rw [hv2] at H2
      obtain ⟨N, K, rfl, rfl, q1, q2, q3, q4⟩ := okR_get (n := n) (k := k) (by unfold okR; rw [hv, hv2]; rfl)
      rw [rsQ_yes q1 q2 q3 q4]
      have hb1 : Below w.heap.size w (w.alloc (.cells #[] 3)) := (Below.refl _ _).alloc (Nat.le_refl _) _
      have HR := Lib.hid (rf_any N K q1 q2 q3 q4 K q4 [] (some ⟨w.heap.size, 0, none⟩) 0 0 (w.alloc (.cells #[] 3)) ⟨RdI.nil _ _ _, rfl, ⟨Nat.le_refl _, by omega⟩, by omega⟩ ⟨RdI.nil _ _ _, rfl, (fun h => by cases h), fun a ha => ⟨_, _, by injection ha with ha; exact ha.symm⟩⟩ (HdQ.nil N) (by omega))
      rw [show lastQ [] = 0 from rfl, rfL_all] at HR
      have HB1 := Lib.hid hb1
      clear hn hv hk hv2 hb1
      go_enter Try.func35, Try.ntmps35
      go_wp2_with fail
      refine (H1.out _).mono ?_
      rintro e w1 ⟨rfl, rfl⟩
      go_wp2_with fail
      refine (H2.out _).mono ?_
      rintro e w1 ⟨rfl, rfl⟩
      go_wp2_with fail
      refine HR.out.mono ?_
      rintro e w2 ⟨g, c, VR, rfl, hT, hb2⟩
      have HE : Hid (TabPost (rsS N K) w (.returned (.slice (some ⟨g, 0, none⟩) (rsS N K).length c)) w2) :=
        ⟨_, _, VR, rfl, own_lowQ hT.out.out HB1.out.size, ⟨fun j hj => own_lowQ (hT.out.tt.own j hj) HB1.out.size, hT.out.tt.dis⟩, HB1.out.trans (hb2.out.mono HB1.out.size)⟩
      clear hT hb2
      go_wp2
      go_ret
      exact HE.out
    · have hv2 : (decide (2 ≤ k) && decide (k ≤ 4)) = false := by simp; omega
      rw [hv2] at H2
      rw [rsQ_no (by unfold okR; rw [hv2]; simp)]
      clear hn hv hk hv2
      go_enter Try.func35, Try.ntmps35
      go_wp2_with fail
      refine (H1.out _).mono ?_
      rintro e w1 ⟨rfl, rfl⟩
      go_wp2_with fail
      refine (H2.out _).mono ?_
      rintro e w1 ⟨rfl, rfl⟩
      go_wp2
      go_ret
      exact tabPost_nil _ _ (Below.refl _ _)
  · have hv : (decide (1 ≤ n) && decide (n ≤ 9)) = false := by simp; omega
    rw [hv] at H1
    rw [rsQ_no (by unfold okR; rw [hv]; simp)]
    clear hn hv
    go_enter Try.func35, Try.ntmps35
    go_wp2_with fail
    refine (H1.out _).mono ?_
    rintro e w1 ⟨rfl, rfl⟩
    go_wp2
    go_ret
    exact tabPost_nil _ _ (Below.refl _ _)
end Go.Proofs.Ytoohfipicmdohaa
namespace Go.Proofs.Ytoohfipicmdohaa
open Go.ChangeShapes Go.WideShapes Go.ChangeAt Go.RowKit
set_option linter.unusedVariables false
set_option maxRecDepth 4000

theorem few_all : ((List.range 9).all fun n => (List.range 3).all fun k => decide ((rsS (n + 1) (k + 2)).length ≤ 7)) = true := by decide +kernel
theorem rsS_few {n k : Nat} (h1 : 1 ≤ n) (h9 : n ≤ 9) (h2 : 2 ≤ k) (h4 : k ≤ 4) : (rsS n k).length ≤ 7 := by
  have h := few_all
  simp only [List.all_eq_true, List.mem_range, decide_eq_true_eq] at h
  have := h (n - 1) (by omega) (k - 2) (by omega)
  rwa [show n - 1 + 1 = n by omega, show k - 2 + 2 = k by omega] at this
end Go.Proofs.Ytoohfipicmdohaa
namespace Go.Proofs.Ytoohfipicmdohaa
open Go.ChangeShapes Go.WideShapes Go.ChangeAt Go.RowKit
set_option linter.unusedVariables false

theorem toI_step {w : World} {b k n : Nat} {zs : List Int} {cap B : Nat} (hn : zs.length = n) (hk : k < n)
    (hown : w.ownsRow B 3 1 (.slice (some ⟨b, 0, none⟩) n cap) n ((zs.take k).map (Value.int .i64) ++ List.replicate (n - k) (Value.int .i64 0))) :
    (w.setCell ⟨b, k, none⟩ (Value.int .i64 (zs.getD k 0))).ownsRow B 3 1 (.slice (some ⟨b, 0, none⟩) n cap) n ((zs.take (k + 1)).map (Value.int .i64) ++ List.replicate (n - (k + 1)) (Value.int .i64 0)) := by
  have h := hown.stored k (Value.int .i64 (zs.getD k 0))
  have e : ((zs.take k).map (Value.int .i64) ++ List.replicate (n - k) (Value.int .i64 0)).set k (Value.int .i64 (zs.getD k 0)) = (zs.take (k + 1)).map (Value.int .i64) ++ List.replicate (n - (k + 1)) (Value.int .i64 0) := by
    have hl : ((zs.take k).map (Value.int .i64)).length = k := by simp; omega
    rw [List.set_append_right _ _ (by omega), hl, Nat.sub_self]
    have hr : List.replicate (n - k) (Value.int .i64 0) = Value.int .i64 0 :: List.replicate (n - (k + 1)) (Value.int .i64 0) := by
      rw [show n - k = (n - (k + 1)) + 1 by omega]; rfl
    rw [hr, List.set_cons_zero, List.take_succ_eq_append_getElem (by omega), List.map_append]
    have hg : zs.getD k 0 = zs[k]'(by omega) := by simp [List.getD, List.getElem?_eq_getElem (show k < zs.length by omega)]
    rw [hg]; simp
  rw [e] at h
  exact h.1

theorem copied_mk {w w' : World} {n : Nat} {zs : List Int} (hn : zs.length = n)
    (hown : w'.ownsRow w.heap.size 3 1 (.slice (some ⟨w.heap.size, 0, none⟩) n n) n (zs.map (Value.int .i64) ++ List.replicate 0 (Value.int .i64 0))) (hnx : Below w.heap.size w w') :
    Copied w zs (.returned (.slice (some ⟨w.heap.size, 0, none⟩) n n)) w' := by
  subst hn
  simp only [List.replicate_zero, List.append_nil] at hown
  exact ⟨w.heap.size, rfl, Nat.le_refl _, rdI_of_own hown rfl, hnx, hown⟩

set_option maxHeartbeats 400000 in
theorem toInt_any (A : Option Addr) (c : Nat) (n : Nat) (zs : List Int) (w : World) (hr : RdI w w.heap.size A zs) (hn : zs.length = n) (hb : n ≤ 1048576) :
    Calls Try.prog 37 #[.slice A n c] w (Copied w zs) := by
  obtain ⟨i0, hi0, hz0, hz1, hz2⟩ := info_parts intInfo
  have Hn := Lib.hid hn
  clear hn
  go_enter Try.func37, Try.ntmps37
  go_wp2_with (at_make; refine wpList_make_full _ rfl _ _ 23 rfl w.heap.size 3 i0 _ 1 Try.underlying23 hi0 hz0 hz1 _ _ _ _ n rfl rfl rfl rfl (by rw [hz2]; omega) (by unfold maxLen; omega) (Nat.le_refl _) ?_; intro w1 hown1 hg1)
  have hs1 : w.heap.size < w1.heap.size := (hown1.lt w.heap.size rfl).2
  have hnx1 : Below w.heap.size w w1 := (Below.refl _ _).grown hg1 (Nat.le_refl _) (fun j hj => by cases hj)
  rw [made_ints] at hown1
  go_loopw [4] (fun i wr => ∃ k : Nat, k ≤ n ∧ i = .int .i64 k ∧ wr.ownsRow w.heap.size 3 1 (.slice (some ⟨w.heap.size, 0, none⟩) n n) n ((zs.take k).map (Value.int .i64) ++ List.replicate (n - k) (Value.int .i64 0)) ∧ Below w.heap.size w wr)
    (fun i _ => n - (intOf i).toNat)
  case atStart => exact ⟨0, Nat.zero_le _, rfl, by simpa using hown1, hnx1⟩
  case round =>
    obtain ⟨k, hk, rfl, hown, hnx⟩ := hrel
    by_cases hlt : k < n
    · obtain ⟨b, off, rfl, hbw, hc⟩ := (hr.below hnx).at_ (k := k) (by rw [Hn.out]; exact hlt)
      have hst := toI_step Hn.out hlt hown
      have hcell : ∃ v, wr.cell? ⟨w.heap.size, k, none⟩ = some v := by
        rw [hown.cellAt k (by omega)]
        exact ⟨_, List.getElem?_eq_getElem (by simp [Hn.out]; omega)⟩
      obtain ⟨v, hv⟩ := hcell
      have hfz := hown.frozenAt k
      have Hst := Lib.hid hst
      clear hst
      go_wp2
      go_roundw
      case rel => exact ⟨k + 1, by omega, by go_num, Hst.out, hnx.setCell (Nat.le_refl _) _⟩
      case measure => simp [intOf]; omega
    · have hkn : k = n := by omega
      have hnn : n - k = 0 := by omega
      rw [hnn, List.take_of_length_le (by rw [Hn.out]; omega)] at hown
      have HO := Lib.hid hown
      clear hown hnn
      clear hkn
      go_wp2
      go_ret
      exact copied_mk Hn.out HO.out hnx
end Go.Proofs.Ytoohfipicmdohaa
namespace Go.Proofs.Ytoohfipicmdohaa
open Go.ChangeShapes Go.WideShapes Go.ChangeAt Go.RowKit
set_option linter.unusedVariables false
set_option maxRecDepth 4000

/-- The numbers from k on. -/
def mk (k : Int) (n : Nat) : List Int := (List.range n).map fun (i : Nat) => k + (i : Int)
theorem mk_len (k : Int) (n : Nat) : (mk k n).length = n := by simp [mk]
theorem mk_get {k : Int} {n i : Nat} (h : i < n) : (mk k n).getD i 0 = k + i := by simp [mk, List.getD, h]
/-- The first k elements are marks, the others as they were. -/
def mkL (k : Int) (zs : List Int) (m : Nat) : List Value := ((mk k m) ++ zs.drop m).map (Value.int .i64)
theorem mkL_step {w : World} {B b n cap m : Nat} {t : TypeId} {k : Int} {zs : List Int} (hm : m < zs.length) (hown : w.ownsRow B t 1 (.slice (some ⟨b, 0, none⟩) n cap) n (mkL k zs m)) :
    (w.setCell ⟨b, m, none⟩ (Value.int .i64 (k + m))).ownsRow B t 1 (.slice (some ⟨b, 0, none⟩) n cap) n (mkL k zs (m + 1)) := by
  have h := (hown.stored m (Value.int .i64 (k + m))).1
  have e : (mkL k zs m).set m (Value.int .i64 (k + m)) = mkL k zs (m + 1) := by
    unfold mkL
    rw [← List.map_set]
    congr 1
    apply List.ext_getElem?
    intro i
    rw [List.getElem?_set]
    by_cases e : m = i
    · subst e
      rw [if_pos rfl, if_pos (by simp [mk_len]; omega), List.getElem?_append_left (by simp [mk_len])]
      simp [mk]
    · rw [if_neg e]
      by_cases hi : i < m
      · rw [List.getElem?_append_left (by simp [mk_len, hi]), List.getElem?_append_left (by simp [mk_len]; omega)]
        simp [mk, hi, show i < m + 1 by omega]
      · rw [List.getElem?_append_right (by simp [mk_len]; omega), List.getElem?_append_right (by simp [mk_len]; omega)]
        simp only [mk_len, List.getElem?_drop]
        congr 1; omega
  rw [e] at h
  exact h
def MarkPost (B g n cap : Nat) (k : Int) (w : World) (e : Ending) (w' : World) : Prop :=
  e = .returned (.int .i64 (k + n)) ∧ w'.ownsRow B 3 1 (.slice (some ⟨g, 0, none⟩) n cap) n ((mk k n).map (Value.int .i64)) ∧ w.grownBy w' (some g)
set_option maxHeartbeats 800000 in
theorem markI_any (w : World) (B g n cap : Nat) (k : Int) (zs : List Int) (hown : w.ownsRow B 3 1 (.slice (some ⟨g, 0, none⟩) n cap) n (zs.map (Value.int .i64))) (hn : zs.length = n) (hn7 : n ≤ 1048576) (hk0 : 0 ≤ k) (hk : k ≤ 100000000) :
    Calls Try.prog 39 #[.slice (some ⟨g, 0, none⟩) n cap, .int .i64 k] w (MarkPost B g n cap k w) := by
  have Hn := Lib.hid hn
  have Hown := Lib.hid hown
  clear hn hown
  go_enter Try.func39, Try.ntmps39
  go_wp2
  go_loopw [1, 5] (fun a i wr => ∃ m : Nat, m ≤ n ∧ i = .int .i64 m ∧ a = .int .i64 (k + m) ∧ wr.ownsRow B 3 1 (.slice (some ⟨g, 0, none⟩) n cap) n (mkL k zs m) ∧ w.grownBy wr (some g)) (fun _ i _ => n - (intOf i).toNat)
  case atStart => exact ⟨0, by omega, rfl, by simp, by simpa [mkL, mk] using Hown.out, ⟨rfl, rfl, rfl, Nat.le_refl _, fun _ _ _ => rfl⟩⟩
  case round =>
    obtain ⟨m, hm, rfl, rfl, hown, hg⟩ := hrel
    by_cases hlt : m < n
    · have hst := mkL_step (by rw [Hn.out]; exact hlt) hown
      obtain ⟨v, hv⟩ := own_cell hown (j := m) (by omega) (by unfold mkL; simp [mk_len, Hn.out]; omega)
      have hf := hown.frozenAt m
      have hgs := (hown.stored m (.int .i64 (k + m))).2
      have HST := Lib.hid hst
      have HG := Lib.hid (gb_trans hg hgs (.inl rfl))
      clear hst hgs hown hg
      go_wp2
      go_roundw
      case rel => exact ⟨m + 1, by omega, by go_num, by congr 1; omega, HST.out, HG.out⟩
      case measure => simp [intOf]; omega
    · have hmn : m = n := by omega
      subst hmn
      have HO := Lib.hid hown
      clear hown
      go_wp2
      go_ret
      refine ⟨rfl, ?_, hg⟩
      have := HO.out
      unfold mkL at this
      rw [List.drop_of_length_le (by rw [Hn.out]; omega), List.append_nil] at this
      exact this
set_option maxHeartbeats 800000 in
theorem heldI_any (w : World) (B n c : Nat) (k : Int) (A : Option Addr) (hr : RdI w B A (mk k n)) (hn7 : n ≤ 1048576) (hk0 : 0 ≤ k) (hk : k ≤ 100000000) :
    Calls Try.prog 40 #[.slice A n c, .int .i64 k] w fun e w' => e = .returned (.int .i64 (k + n)) ∧ w = w' := by
  go_enter Try.func40, Try.ntmps40
  go_wp2
  go_loop [1, 5] (fun a i => ∃ m : Nat, m ≤ n ∧ i = .int .i64 m ∧ a = .int .i64 (k + m)) (fun _ i => n - (intOf i).toNat)
  case atStart => exact ⟨0, by omega, rfl, by simp⟩
  case round =>
    obtain ⟨m, hm, rfl, rfl⟩ := hrel
    by_cases hlt : m < n
    · obtain ⟨b, off, x, rfl, -, Hx, hcx⟩ := hr.x (k := m) (by rw [mk_len]; exact hlt)
      have hx := Hx.out
      rw [mk_get hlt] at hx
      subst hx
      have hb1 : (k + (m : Int) != k + (m : Int)) = false := by simp
      go_wp2
      go_round
      case rel => exact ⟨m + 1, by omega, by go_num, by congr 1; omega⟩
      case measure => simp [intOf]; omega
    · have hmn : m = n := by omega
      subst hmn
      go_wp2
      go_ret
      exact ⟨rfl, rfl⟩
end Go.Proofs.Ytoohfipicmdohaa
