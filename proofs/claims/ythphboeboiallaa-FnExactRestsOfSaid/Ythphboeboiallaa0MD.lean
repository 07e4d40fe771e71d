/-
  restsFrom and RestsOf of the model, walked.
  Conditions: none.
-/
import Derived.Test.Ythphboeboiallaa0MC
import Derived.Test.Ythphboeboiallaa0Y
namespace Go.Proofs.Ythphboeboiallaa
open Go.ChangeShapes Go.WideShapes Go.ChangeAt Go.RowKit
set_option linter.unusedVariables false
set_option maxRecDepth 4000

/-- Two tables behind each other. -/
theorem RowsT.cat {W wr w4 w5 : World} {B' g c L gR cR N : Nat} {Ls Rs : List (List Nat)} {VR VRR : Nat → Value} {v : Value} (h : RowsT wr W.heap.size g c L Ls VR) (hB : Below W.heap.size W wr) (hb : Below wr.heap.size wr w4) (hR : RowsT w4 B' gR cR N Rs VRR) (hB' : wr.heap.size ≤ B')
    (hown5 : w5.ownsRow W.heap.size 23 1 v (L + N) ((List.range L).map VR ++ (List.range N).map VRR)) (hg : w4.grownBy w5 (Value.slice (some ⟨g, 0, none⟩) L c).ownBlock) (hv : v ≠ .slice none 0 0) :
    ∃ g5 c5, v = .slice (some ⟨g5, 0, none⟩) (L + N) c5 ∧ RowsT w5 W.heap.size g5 c5 (L + N) (Ls ++ Rs) (fun j => if j < L then VR j else VRR (j - L)) ∧ Below W.heap.size W w5 := by
  have h4 := h.below hb
  obtain ⟨⟨cs, hcs⟩, hgW, -⟩ := own_heap h4.out (g := g) rfl
  have hrow : ∀ g', (Value.slice (some ⟨g, 0, none⟩) L c).ownBlock = some g' → ∃ cs ty, w4.heap[g']? = some (.cells cs ty (0, 0)) ∧ ty ≠ 3 := fun g' e => by
    injection e with e
    subst e
    exact ⟨cs, _, hcs, by decide⟩
  have t1 := h4.tt.keptBy hg hrow
  have t2 := hR.tt.keptBy hg hrow
  have hlt : ∀ {i g'}, i < L → (VR i).ownBlock = some g' → g' < wr.heap.size := fun hi e => (own_heap (h.tt.own _ hi) e).2.2
  have hge : ∀ {i g'}, i < N → (VRR i).ownBlock = some g' → wr.heap.size ≤ g' := fun hi e => Nat.le_trans hB' (own_heap (hR.tt.own _ hi) e).2.1
  have hlen : (Ls ++ Rs).length = L + N := by rw [List.length_append, h.len, hR.len]
  have hW5 : W.heap.size ≤ B' := Nat.le_trans hB.size hB'
  obtain ⟨g5, c5, rfl⟩ : ∃ g5 c5, v = .slice (some ⟨g5, 0, none⟩) (L + N) c5 := by
    rcases hown5.2 with ⟨e, -⟩ | ⟨g5, c5, cur, e, -⟩
    · exact absurd e hv
    · exact ⟨g5, c5, e⟩
  refine ⟨g5, c5, rfl, ⟨hlen, ?_, ⟨fun j hj => ?_, fun i j g' hi hj e1 e2 => ?_⟩⟩, (hB.trans (hb.mono hB.size)).grown hg (Nat.le_trans hB.size hb.size) (fun g' e => ?_)⟩
  · unfold Outer
    rw [List.range_add, List.map_append, List.map_map]
    have e1 : (List.range L).map (fun j => if j < L then VR j else VRR (j - L)) = (List.range L).map VR := List.map_congr_left fun i hi => if_pos (List.mem_range.1 hi)
    have e2 : (List.range N).map ((fun j => if j < L then VR j else VRR (j - L)) ∘ fun x => L + x) = (List.range N).map VRR := List.map_congr_left fun i _ => by
      show (if L + i < L then VR (L + i) else VRR (L + i - L)) = VRR i
      rw [if_neg (by omega), show L + i - L = i by omega]
    rw [e1, e2]; exact hown5
  · by_cases e : j < L
    · have := t1.own j e
      show World.ownsRow _ _ _ _ (if j < L then VR j else VRR (j - L)) _ _
      rw [if_pos e]
      have e3 : (Ls ++ Rs).getD j [] = Ls.getD j [] := by simp only [List.getD]; rw [List.getElem?_append_left (by rw [h.len]; exact e)]
      rw [e3]; exact this
    · have := t2.own (j - L) (by omega)
      show World.ownsRow _ _ _ _ (if j < L then VR j else VRR (j - L)) _ _
      rw [if_neg e]
      have e3 : (Ls ++ Rs).getD j [] = Rs.getD (j - L) [] := by simp only [List.getD]; rw [List.getElem?_append_right (by rw [h.len]; omega), h.len]
      rw [e3]; exact own_lowQ this hW5
  · by_cases a1 : i < L <;> by_cases a2 : j < L
    · simp only [if_pos a1, if_pos a2] at e1 e2; exact h.tt.dis i j g' a1 a2 e1 e2
    · simp only [if_pos a1, if_neg a2] at e1 e2
      have := hlt a1 e1
      have := hge (show j - L < N by omega) e2
      omega
    · simp only [if_neg a1, if_pos a2] at e1 e2
      have := hlt a2 e2
      have := hge (show i - L < N by omega) e1
      omega
    · simp only [if_neg a1, if_neg a2] at e1 e2
      have := hR.tt.dis (i - L) (j - L) g' (by omega) (by omega) e1 e2
      omega
  · injection e with e
    rw [← e]; exact hgW

/-- The last one of some places, 0 for none. -/
def lastQ (ss : List Nat) : Nat := ss.getD (ss.length - 1) 0
theorem lastQ_snoc (ss : List Nat) (q : Nat) : lastQ (ss ++ [q]) = q := by simp [lastQ, List.getD]
structure HdQ (n : Nat) (ss : List Nat) : Prop where
  lt : ∀ s ∈ ss, s < n
  asc : ascS 0 ss = true
  top : ∀ s ∈ ss, s ≤ lastQ ss
theorem ascS_snoc {q : Nat} : ∀ {ss : List Nat} {a : Nat}, ascS a ss = true → (∀ s ∈ ss, s ≤ q) → a ≤ q → ascS a (ss ++ [q]) = true
  | [], a, _, _, h => by simp [ascS, h]
  | s :: r, a, h, hl, hq => by
    simp only [ascS, Bool.and_eq_true, decide_eq_true_eq] at h
    show (decide (a ≤ s) && ascS s (r ++ [q])) = true
    simp only [Bool.and_eq_true, decide_eq_true_eq]
    exact ⟨h.1, ascS_snoc h.2 (fun t ht => hl t (List.mem_cons_of_mem _ ht)) (hl s (by simp))⟩
theorem HdQ.nil (n : Nat) : HdQ n [] := ⟨by simp, rfl, by simp⟩
theorem HdQ.snoc {n q : Nat} {ss : List Nat} (h : HdQ n ss) (h1 : lastQ ss ≤ q) (h2 : q < n) : HdQ n (ss ++ [q]) := by
  have hall : ∀ s ∈ ss, s ≤ q := fun s hs => Nat.le_trans (h.top s hs) h1
  refine ⟨fun s hs => ?_, ascS_snoc h.asc hall (Nat.zero_le _), fun s hs => ?_⟩
  · rcases List.mem_append.1 hs with hs | hs
    · exact h.lt s hs
    · rw [List.mem_singleton.1 hs]; exact h2
  · rw [lastQ_snoc]
    rcases List.mem_append.1 hs with hs | hs
    · exact hall s hs
    · rw [List.mem_singleton.1 hs]; exact Nat.le_refl _
/-- The lists at rest that begin with some places. -/
def rfL (n j a : Nat) (ss : List Nat) : List (List Nat) := ((lstS n j a).map (ss ++ ·)).filter (rstS n)
def prR (n j : Nat) (ss : List Nat) (a p : Nat) : List (List Nat) := (List.range' a (p - a)).flatMap fun q => rfL n j q (ss ++ [q])
theorem prR_start (n j : Nat) (ss : List Nat) (a : Nat) : prR n j ss a a = [] := by simp [prR]
theorem prR_step {n j a p : Nat} {ss : List Nat} (h : a ≤ p) : prR n j ss a (p + 1) = prR n j ss a p ++ rfL n j p (ss ++ [p]) := by
  unfold prR
  rw [show p + 1 - a = p - a + 1 by omega, List.range'_concat, List.flatMap_append]
  simp [show a + (p - a) = p by omega]
theorem rfL_succ (n j a : Nat) (ss : List Nat) : rfL n (j + 1) a ss = prR n j ss a n := by
  unfold rfL prR
  rw [lstS, List.map_flatMap, List.filter_flatMap]
  congr 1
  funext q
  unfold rfL
  rw [List.map_map]
  congr 1
  refine List.map_congr_left fun l _ => ?_
  show ss ++ q :: l = ss ++ [q] ++ l
  simp
theorem rfL_le (n j a : Nat) (ss : List Nat) : (rfL n j a ss).length ≤ (lstS n j a).length := by
  unfold rfL
  have := List.length_filter_le (rstS n) ((lstS n j a).map (ss ++ ·))
  rwa [List.length_map] at this
theorem prR_le {n j a p : Nat} {ss : List Nat} (h1 : a ≤ p) (h2 : p ≤ n) : (prR n j ss a p).length ≤ (lstS n (j + 1) a).length := by
  have h := rfL_le n (j + 1) a ss
  rw [rfL_succ] at h
  have e : prR n j ss a n = prR n j ss a p ++ (List.range' p (n - p)).flatMap fun q => rfL n j q (ss ++ [q]) := by
    unfold prR
    rw [← List.flatMap_append]
    congr 1
    rw [show n - a = (p - a) + (n - p) by omega, ← List.range'_append_1, show a + (p - a) = p by omega]
  rw [e, List.length_append] at h
  omega
/-- What restsFrom must answer, with j places to come. -/
def RfAt (n k j : Nat) : Prop := ∀ (ss : List Nat) (A : Option Addr) (m c : Nat) (w : World), PIn w A c m (cI ss) → PartQ w A m c (cI ss) → HdQ n ss → m + j = k →
  Calls Try.prog 65 #[.int .i64 ((n : Nat) : Int), .slice A m c, .int .i64 ((k : Nat) : Int)] w (LsPostN (rfL n j (lastQ ss) ss) w)
theorem lsPost_none (n : Nat) (w w1 : World) (hb : Below w.heap.size w w1) : LsPostN [] w (.returned (.slice (some ⟨w1.heap.size, 0, none⟩) 0 0)) (w1.alloc (.cells #[] 23)) :=
  ⟨w1.heap.size, 0, fun _ => .slice none 0 0, rfl, ⟨rfl, World.ownsRow_lit w1 #[] 0 hb.size (by decide) rfl, ⟨fun j hj => by simp at hj, fun i j g hi _ _ _ => by simp at hi⟩⟩, hb.alloc hb.size _⟩
theorem lsPost_one {w w1 : World} {v : Value} {l : List Nat} (hb : Below w.heap.size w w1) (ho : w1.ownsRow w.heap.size 3 1 v l.length ((cI l).map (Value.int .i64))) : LsPostN [l] w (.returned (.slice (some ⟨w1.heap.size, 0, none⟩) 1 1)) (w1.alloc (.cells #[v] 23)) := by
  have h2 := World.ownsRow_lit w1 #[v] 1 (base := w.heap.size) (size := 1) (e := 23) hb.size (by decide) rfl
  refine ⟨w1.heap.size, 1, fun _ => v, rfl, ⟨rfl, h2, ⟨fun j hj => ?_, fun i j g hi hj _ _ => ?_⟩⟩, hb.alloc hb.size _⟩
  · obtain rfl : j = 0 := by simp at hj; exact hj
    show World.ownsRow _ _ _ _ _ (cI l).length _
    rw [cI_length]; exact ho.alloc _
  · simp at hi hj; omega
set_option maxHeartbeats 800000 in
theorem rf_zero (n k : Nat) (h1 : 1 ≤ n) (h9 : n ≤ 9) (h2 : 2 ≤ k) (h4 : k ≤ 4) : RfAt n k 0 := by
  intro ss A m c w hp hq hh hmk
  obtain ⟨i0, hi0, hz0, hz1, hz2⟩ := info_parts intInfo
  have hm : ss.length = m := by rw [← cI_length]; exact hp.len
  obtain rfl : m = k := by omega
  have hS : Sh n ss := ⟨h1, h9, by omega, by omega, hh.lt, hh.asc⟩
  have HR := Lib.hid (sRests_any n m c A ss w hp hS h2)
  have hE : rfL n 0 (lastQ ss) ss = if rstS n ss = true then [ss] else [] := by
    unfold rfL
    simp only [lstS, List.map_cons, List.map_nil, List.append_nil]
    by_cases h : rstS n ss = true
    · rw [if_pos h, List.filter_cons_of_pos h, List.filter_nil]
    · rw [if_neg h, List.filter_cons_of_neg h, List.filter_nil]
  rw [hE]
  have Hm := Lib.hid hm
  have HQ := Lib.hid hq
  have ht : ((m : Int) == (m : Int)) = true := by rw [beq_iff_eq]
  clear hp hq hh hmk hm hS hE
  generalize rstS n ss = r at HR ⊢
  cases r with
  | false =>
    go_enter Try.func65, Try.ntmps65
    go_wp2_with fail
    refine HR.out.mono ?_
    rintro e w1 ⟨rfl, hb1⟩
    have HE := Lib.hid (lsPost_none n w w1 hb1)
    go_wp2
    go_ret
    exact HE.out
  | true =>
    go_enter Try.func65, Try.ntmps65
    go_wp2_with fail
    refine HR.out.mono ?_
    rintro e w1 ⟨rfl, hb1⟩
    have HB1 : Hid (Below w.heap.size w (w1.alloc (.cells #[] 3))) := hb1.alloc hb1.size _
    have HO1 : Hid ((w1.alloc (.cells #[] 3)).ownsRow w.heap.size 3 1 (.slice (some ⟨w1.heap.size, 0, none⟩) 0 0) 0 (([] : List Int).map (Value.int .i64))) := World.ownsRow_lit w1 #[] 0 hb1.size (by decide) rfl
    have HP1 := Lib.hid (HQ.out.later HB1.out)
    have Hne : Hid ((Value.slice (some ⟨w1.heap.size, 0, none⟩) 0 0) ≠ .slice none 0 0) := (by intro h; cases h)
    have hs1 := HB1.out.size
    clear hb1
    go_wp2_with (at_builtin; refine wpList_append_partQ hi0 hz0 hz1 hz2 rfl _ _ rfl w.heap.size _ 0 [] rfl HO1.out Hne.out A m c (cI ss) rfl HP1.out (by omega) (by omega) hs1 ?_; intro v2 w2 hown2 hne2 hb2; obtain ⟨g2, c2, rfl, -, -⟩ := World.ownsRow.form hown2 (by omega))
    have HE := Lib.hid (lsPost_one (l := ss) (HB1.out.trans hb2) (by rw [Hm.out]; rw [Nat.zero_add, List.nil_append] at hown2; exact hown2))
    clear hown2 hne2 hb2
    go_wp2
    go_ret
    exact HE.out
def RfRel (n j a : Nat) (ss : List Nat) (W : World) (o i : Value) (wr : World) : Prop :=
  ∃ p g c L VR, a ≤ p ∧ p ≤ n ∧ o = .slice (some ⟨g, 0, none⟩) L c ∧ i = .int .i64 ((p : Nat) : Int) ∧ Hid (RowsT wr W.heap.size g c L (prR n j ss a p) VR) ∧ Hid (Below W.heap.size W wr)
set_option maxHeartbeats 3200000 in
theorem rf_loop (n k j a m c : Nat) (A : Option Addr) (ss : List Nat) (w : World) (hn9 : n ≤ 9) (hj4 : j + 1 ≤ 4) (IH : RfAt n k j) (hp : PIn w A c m (cI ss)) (hq : PartQ w A m c (cI ss)) (hh : HdQ n ss) (hmk : m + (j + 1) = k) (ha : lastQ ss = a) (han : a ≤ n) (hk4 : k ≤ 4) :
    Calls Try.prog 65 #[.int .i64 ((n : Nat) : Int), .slice A m c, .int .i64 ((k : Nat) : Int)] w (LsPostN (prR n j ss a n) w) := by
  obtain ⟨i0, hi0, hz0, hz1, hz2⟩ := info_parts intInfo
  obtain ⟨is, his, hzs0, hzs1, hzs2⟩ := info_parts slInfo2
  have hm : ss.length = m := by rw [← cI_length]; exact hp.len
  have Hm := Lib.hid hm
  have HIH := Lib.hid IH
  have HQ := Lib.hid hq
  have Hh := Lib.hid hh
  have Ha := Lib.hid ha
  have HO0 : Hid (RowsT (w.alloc (.cells #[] 23)) w.heap.size w.heap.size 0 0 (prR n j ss a a) (fun _ => .slice none 0 0)) := by
    have h := World.ownsRow_lit (base := w.heap.size) (e := 23) (size := 1) w #[] 0 (Nat.le_refl _) (by decide) rfl
    exact ⟨by rw [prR_start]; rfl, h, ⟨fun j hj => by omega, fun i j g hi _ _ _ => by omega⟩⟩
  have HB0 : Hid (Below w.heap.size w (w.alloc (.cells #[] 23))) := (Below.refl _ _).alloc (Nat.le_refl _) _
  have ht : ((m : Int) == (k : Int)) = false := by rw [beq_eq_false_iff_ne]; omega
  have Hlen : Hid (∀ p, a ≤ p → p ≤ n → (prR n j ss a p).length ≤ 1000) := fun p h1 h2 => Nat.le_trans (prR_le h1 h2) (lst_le hn9 hj4 (by omega))
  have Hmj : Hid (m + 1 + j = k) := by show _ = _; omega
  have hmk2 : m ≤ 4 := by omega
  have HFrom : Hid (0 < m → ∃ b off, A = some ⟨b, off, none⟩ ∧ w.cell? ⟨b, off + (m - 1), none⟩ = some (.int .i64 ((a : Nat) : Int))) := fun h0 => by
    obtain ⟨b, off, s, e, -, hs, hc⟩ := hp.rd.q (k := m - 1) (by omega)
    have : s = a := by rw [← hs.out, ← ha]; unfold lastQ; rw [hm]
    rw [this] at hc
    exact ⟨b, off, e, hc⟩
  have Ha0 : Hid (m = 0 → a = 0) := fun h0 => by
    rw [← ha]
    have : ss = [] := List.length_eq_zero_iff.1 (by omega)
    rw [this]; rfl
  clear IH hp hq hh ha hm hmk
  have HPs : Hid (∀ (p : Nat) (V V1 : World) (v1 : Value), a ≤ p → p < n → V1.ownsRow V.heap.size 3 1 v1 (m + 1) ((cI (ss ++ [p])).map (Value.int .i64)) →
      ∃ A1 c1, v1 = .slice A1 (m + 1 : Nat) c1 ∧ Calls Try.prog 65 #[.int .i64 ((n : Nat) : Int), .slice A1 (m + 1 : Nat) c1, .int .i64 ((k : Nat) : Int)] V1 (LsPostN (rfL n j p (ss ++ [p])) V1)) := fun p V V1 v1 h1 h2 ho => by
    have hl : (cI (ss ++ [p])).length = m + 1 := by rw [cI_length]; simp [Hm.out]
    obtain ⟨A1, c1, rfl, hpq⟩ := part_own ho hl
    obtain ⟨A2, c2, he, hc1, hc2, hr⟩ := own_slice ho hl
    injection he with e1 _ e3
    subst e1 e3
    refine ⟨A1, c1, rfl, ?_⟩
    have := HIH.out (ss ++ [p]) A1 (m + 1) c1 V1 ⟨hr, hl, ⟨hc1, hc2⟩, by omega⟩ hpq (Hh.out.snoc (by rw [Ha.out]; exact h1) h2) Hmj.out
    rw [lastQ_snoc] at this
    exact this
  have Hcat : Hid (∀ p, [] ++ cI ss ++ cI [p] = cI (ss ++ [p])) := fun p => by rw [List.nil_append, cI_append]
  have hone : ∀ V : World, PartQ (V.alloc (.cells #[.int .i64 ((0 : Nat) : Int)] 3)) (some ⟨V.heap.size, 0, none⟩) 1 1 (cI [0]) := fun V => partQ_one V 0
  clear hone
  have hcase : (0 < m ∧ m - 1 < m ∧ IntKind.i64.wrap ((m : Int) - 1) = ((m - 1 : Nat) : Int) ∧ ∃ b off, A = some ⟨b, off, none⟩ ∧ w.cell? ⟨b, off + (m - 1), none⟩ = some (.int .i64 ((a : Nat) : Int))) ∨ (¬ 0 < m ∧ Hid (a = 0)) := by
    by_cases h0 : 0 < m
    · exact .inl ⟨h0, by omega, by rw [IntKind.wrap_i64]; omega, HFrom.out h0⟩
    · exact .inr ⟨h0, (show Hid (a = 0) from Ha0.out (by omega))⟩
  clear HFrom Ha0
  rcases hcase with ⟨h0, hm1, hwm, b, off, rfl, hcl⟩ | ⟨h0, h00⟩
  all_goals
    go_enter Try.func65, Try.ntmps65
    go_wp2
    go_loopw [8, 9] (fun o i wr => RfRel n j a ss w o i wr) (fun _ i _ => n - (intOf i).toNat)
    case atStart => exact ⟨a, _, _, _, _, Nat.le_refl _, han, rfl, (by first | rfl | (rw [h00.out]; rfl)), HO0, HB0⟩
    case round =>
      clear HO0 HB0
      obtain ⟨p, g, c', L, VR, hap, hpn, rfl, rfl, HT, HB⟩ := hrel
      by_cases hlt : p < n
      · have HB1 : Hid (Below wr.heap.size wr (wr.alloc (.cells #[] 3))) := (Below.refl _ _).alloc (Nat.le_refl _) _
        have HO1 : Hid ((wr.alloc (.cells #[] 3)).ownsRow wr.heap.size 3 1 (.slice (some ⟨wr.heap.size, 0, none⟩) 0 0) 0 (([] : List Int).map (Value.int .i64))) := World.ownsRow_lit wr #[] 0 (Nat.le_refl _) (by decide) rfl
        have HP1 := Lib.hid (HQ.out.later (HB.out.trans (HB1.out.mono HB.out.size)))
        have Hne : Hid ((Value.slice (some ⟨wr.heap.size, 0, none⟩) 0 0) ≠ .slice none 0 0) := (by intro h; cases h)
        have hs0 : wr.heap.size ≤ (wr.alloc (.cells #[] 3)).heap.size := HB1.out.size
        have hl1 := Hlen.out p hap hpn
        have hl2 := Hlen.out (p + 1) (by omega) (by omega)
        rw [HT.out.len] at hl1
        go_wp2_with (first
          | (at_builtin; refine wpList_append_partQ hi0 hz0 hz1 hz2 rfl _ _ rfl wr.heap.size _ (0 + m) ([] ++ cI ss) rfl hown1 hne1 (some ⟨w1.heap.size, 0, none⟩) 1 1 (cI [p]) rfl (partQ_one w1 p) (by omega) (by omega) hs1 ?_
             intro v2 w2 hown2 hne2 hb2
             rw [Hcat.out p, show 0 + m + 1 = m + 1 by omega] at hown2
             have hb12 : Below wr.heap.size wr w2 := ((HB1.out.trans hb1).alloc (by have := hb1.size; have := HB1.out.size; omega) _).trans hb2
             clear hown1 hne1 hb1 hs1 hb2 hne2
             obtain ⟨A1, c1, rfl, hcall⟩ := HPs.out p wr w2 v2 hap hlt hown2)
          | (at_builtin; refine wpList_append_partQ hi0 hz0 hz1 hz2 rfl _ _ rfl wr.heap.size _ 0 [] rfl HO1.out Hne.out _ m c (cI ss) rfl HP1.out (by omega) (by omega) hs0 ?_
             intro v1 w1 hown1 hne1 hb1
             have hs1 : wr.heap.size ≤ (w1.alloc (.cells #[.int .i64 ((p : Nat) : Int)] 3)).heap.size := (by rw [size_alloc1]; have := hb1.size; have := HB1.out.size; omega)
             have hown1 := World.ownsRow.alloc hown1 (.cells #[.int .i64 ((p : Nat) : Int)] 3)))
        go_wp2_with fail
        refine hcall.mono ?_
        rintro e w3 ⟨gR, cR, VRR, rfl, hT3, hb3⟩
        obtain ⟨N, HN⟩ : ∃ N, Hid ((rfL n j p (ss ++ [p])).length = N) := ⟨_, rfl⟩
        rw [HN.out] at hT3 ⊢
        have HB3 : Hid (Below wr.heap.size wr w3) := hb12.trans (hb3.out.mono hb12.size)
        have hLN : L + N ≤ 1000 := by
          rw [prR_step hap, List.length_append, HT.out.len, HN.out] at hl2
          exact hl2
        have Hnews : Hid (∀ t u, ((List.range N).map VRR)[t]? = some u → w3.cell? ((⟨gR, 0, none⟩ : Addr).add t) = some u) := fun t u hu => by
          have ht : t < N := by have := (List.getElem?_eq_some_iff.1 hu).1; simpa using this
          rw [addr_add0, Outer.cell hT3.out.out ht]
          rw [← hu]; simp [ht]
        have Hone : Hid (∀ u ∈ (List.range N).map VRR, u.oneCell' = true) := fun u hu => by
          obtain ⟨t, ht, rfl⟩ := List.mem_map.1 hu
          obtain ⟨A7, c7, e7, -⟩ := own_sliceN (hT3.out.tt.own t (List.mem_range.1 ht))
          rw [e7]; rfl
        have HTo := Lib.hid (HT.out.below HB3.out).out
        have hsz1 : L + N ≤ maxLen := by unfold maxLen; omega
        have hsz2 : (L + N) * 24 ≤ 140737488355328 := by omega
        have hbase : w.heap.size ≤ w3.heap.size := Nat.le_trans HB.out.size HB3.out.size
        have HR3 := Lib.hid hT3.out
        have Hge : Hid (wr.heap.size ≤ w2.heap.size) := hb12.size
        clear hT3 hb3 hcall hown2 hb12 HB1 HO1 HP1 Hne hs0 hl1 hl2
        go_wp2_with (at_builtin; refine wpList_append_own _ rfl _ _ 36 rfl w.heap.size 23 is _ 1 24 Try.underlying36 his hzs0 hzs1 hzs2 rfl (by decide) _ L ((List.range L).map VR) rfl HTo.out ⟨gR, 0, none⟩ N cR ((List.range N).map VRR) rfl (by simp) Hnews.out Hone.out hsz1 hsz2 hbase ?_; intro v5 w5 hown5 hgrow5 hnil5; obtain ⟨g5, c5, rfl, hT5, hB5⟩ := HT.out.cat HB.out HB3.out HR3.out Hge.out hown5 hgrow5 (fun e => by cases (hnil5.1 e).1))
        have HT5 : Hid (RowsT w5 w.heap.size g5 c5 (L + N) (prR n j ss a (p + 1)) (fun t => if t < L then VR t else VRR (t - L))) := by show RowsT _ _ _ _ _ _ _; rw [prR_step hap]; exact hT5
        have HB5 := Lib.hid hB5
        clear hT5 hB5 hown5 hgrow5 hnil5 HTo HR3 Hnews Hone hsz1 hsz2 hbase HT HB HB3
        go_wp2
        go_roundw
        case rel => exact ⟨p + 1, g5, c5, L + N, _, by omega, by omega, rfl, by go_num, HT5, HB5⟩
        case measure => simp [intOf]; omega
      · obtain rfl : p = n := by omega
        have HE : Hid (LsPostN (prR p j ss a p) w (.returned (.slice (some ⟨g, 0, none⟩) L c')) wr) := by
          have hl := HT.out.len
          subst hl
          exact ⟨g, c', VR, rfl, HT, HB⟩
        go_wp2
        go_ret
        exact HE.out
theorem rf_step (n k j : Nat) (h1 : 1 ≤ n) (hn9 : n ≤ 9) (hj4 : j + 1 ≤ 4) (hk4 : k ≤ 4) (IH : RfAt n k j) : RfAt n k (j + 1) := by
  intro ss A m c w hp hq hh hmk
  rw [rfL_succ]
  refine rf_loop n k j (lastQ ss) m c A ss w hn9 hj4 IH hp hq hh hmk rfl ?_ hk4
  unfold lastQ
  by_cases h : 0 < ss.length
  · have := hh.lt _ (getDN_mem (show ss.length - 1 < ss.length by omega)); omega
  · have : ss = [] := List.length_eq_zero_iff.1 (by omega)
    subst this; simp [List.getD]
theorem rf_any (n k : Nat) (h1 : 1 ≤ n) (h9 : n ≤ 9) (h2 : 2 ≤ k) (h4 : k ≤ 4) : ∀ j, j ≤ 4 → RfAt n k j
  | 0, _ => rf_zero n k h1 h9 h2 h4
  | j + 1, hj => rf_step n k j h1 h9 hj h4 (rf_any n k h1 h9 h2 h4 j (by omega))
theorem rfL_all (n k : Nat) : rfL n k 0 [] = rsS n k := by
  unfold rfL rsS
  congr 1
  simp
set_option maxHeartbeats 800000 in
theorem sRestsOf_ok : QRows 35 := by
  intro n k w hwn hwk
  have H1 := Lib.hid (fun W => inRange_any n 1 9 W)
  have H2 := Lib.hid (fun W => inRange_any k 2 4 W)
  by_cases hn : 1 ≤ n ∧ n ≤ 9
  · have hv : (decide (1 ≤ n) && decide (n ≤ 9)) = true := by simp [hn.1, hn.2]
    rw [hv] at H1
    by_cases hk : 2 ≤ k ∧ k ≤ 4
    · have hv2 : (decide (2 ≤ k) && decide (k ≤ 4)) = true := by simp [hk.1, hk.2]
      rw [hv2] at H2
      obtain ⟨N, K, rfl, rfl, q1, q2, q3, q4⟩ := okR_get (n := n) (k := k) (by unfold okR; rw [hv, hv2]; rfl)
      rw [rsQ_yes q1 q2 q3 q4]
      have hb1 : Below w.heap.size w (w.alloc (.cells #[] 3)) := (Below.refl _ _).alloc (Nat.le_refl _) _
      have HR := Lib.hid (rf_any N K q1 q2 q3 q4 K q4 [] (some ⟨w.heap.size, 0, none⟩) 0 0 (w.alloc (.cells #[] 3)) ⟨RdI.nil _ _ _, rfl, ⟨Nat.le_refl _, by omega⟩, by omega⟩ ⟨RdI.nil _ _ _, rfl, (fun h => by cases h), fun a ha => ⟨_, _, by injection ha with ha; exact ha.symm⟩⟩ (HdQ.nil N) (by omega))
      rw [show lastQ [] = 0 from rfl, rfL_all] at HR
      have HB1 := Lib.hid hb1
      clear hn hv hk hv2 hb1
      go_enter Try.func35, Try.ntmps35
      go_wp2_with fail
      refine (H1.out _).mono ?_
      rintro e w1 ⟨rfl, rfl⟩
      go_wp2_with fail
      refine (H2.out _).mono ?_
      rintro e w1 ⟨rfl, rfl⟩
      go_wp2_with fail
      refine HR.out.mono ?_
      rintro e w2 ⟨g, c, VR, rfl, hT, hb2⟩
      have HE : Hid (TabPost (rsS N K) w (.returned (.slice (some ⟨g, 0, none⟩) (rsS N K).length c)) w2) :=
        ⟨_, _, VR, rfl, own_lowQ hT.out.out HB1.out.size, ⟨fun j hj => own_lowQ (hT.out.tt.own j hj) HB1.out.size, hT.out.tt.dis⟩, HB1.out.trans (hb2.out.mono HB1.out.size)⟩
      clear hT hb2
      go_wp2
      go_ret
      exact HE.out
    · have hv2 : (decide (2 ≤ k) && decide (k ≤ 4)) = false := by simp; omega
      rw [hv2] at H2
      rw [rsQ_no (by unfold okR; rw [hv2]; simp)]
      clear hn hv hk hv2
      go_enter Try.func35, Try.ntmps35
      go_wp2_with fail
      refine (H1.out _).mono ?_
      rintro e w1 ⟨rfl, rfl⟩
      go_wp2_with fail
      refine (H2.out _).mono ?_
      rintro e w1 ⟨rfl, rfl⟩
      go_wp2
      go_ret
      exact tabPost_nil _ _ (Below.refl _ _)
  · have hv : (decide (1 ≤ n) && decide (n ≤ 9)) = false := by simp; omega
    rw [hv] at H1
    rw [rsQ_no (by unfold okR; rw [hv]; simp)]
    clear hn hv
    go_enter Try.func35, Try.ntmps35
    go_wp2_with fail
    refine (H1.out _).mono ?_
    rintro e w1 ⟨rfl, rfl⟩
    go_wp2
    go_ret
    exact tabPost_nil _ _ (Below.refl _ _)
end Go.Proofs.Ythphboeboiallaa
