/-
  makeRoom of the program, walked, from what give answers.
  Conditions: as each theorem states.
-/
import Derived.Test.YtakljcpneghgnaaGA
namespace Go.Proofs.Ytakljcpneghgnaa
open Go.ChangeShapes Go.WideShapes Go.ChangeAt Go.RowKit Go.Maps
set_option linter.unusedVariables false
set_option maxRecDepth 4000

def ConPost (room : List Int) (wish : List (List Int)) (B H n tb mb : Nat) (L : List Nat) (M : Nat → Int) (s : Nat → Bool) (w : World) (e : Ending) (w' : World) : Prop :=
  ∃ b M' s', e = .returned (.bool b) ∧ Hid (Gv room B H n tb mb w w' M' s') ∧
    Hid ((b = true ∧ ∃ i s1, i ∈ L ∧ (∀ x, s x = true → s1 x = true) ∧ PuOk (rR room) (mayW wish) H n M M' i s1) ∨ (b = false ∧ M' = M ∧ PuNo (rR room) (mayW wish) H n M s s' ∧ ∀ i, i ∈ L → ∀ x, mayW wish i x → s' x = true))
theorem containsAsk_any (room : List Int) (wish : List (List Int)) (B H n S hb cb tb mb f sb ab g cap h m : Nat) (L : List Nat) (M : Nat → Int) (s : Nat → Bool) (w : World) (HG : GiveAt room wish B H n S hb cb tb mb f) (hS : Sh w room wish H n S hb cb tb mb) (hT : Tk w B room n tb M) (hA : Ask w room H mb m s) (hm : m + unS s H ≤ 4) (hu : unS s H ≤ f) (hg : Giv (rR room) (mayW wish) H n M)
    (hL : ∀ i, i ∈ L → i < n ∧ M i = h) (hs : s h = true) (hLl : L.length ≤ 7)
    (h1 : w.cell? ⟨sb, 0, none⟩ = some (.pointer (some ⟨S, 0, none⟩))) (h2 : w.cell? ⟨ab, 0, none⟩ = some (.map (some mb))) (n1 : sb ≠ tb ∧ sb ≠ mb ∧ ab ≠ tb ∧ ab ≠ mb ∧ g ≠ tb ∧ g ≠ mb)
    (hr : RdC w g L.length (fun k => ((L.getD k 0 : Nat) : Int)) (fun k => mS wish (L.getD k 0))) :
    Calls Try.prog 78 #[.slice (some ⟨g, 0, none⟩) L.length cap, .func (.func 79) #[] #[.pointer (some ⟨sb, 0, none⟩), .pointer (some ⟨ab, 0, none⟩)]] w (ConPost room wish B H n tb mb L M s w) := by
  have Hc := Lib.hid (indexAsk_any room wish B H n S hb cb tb mb f sb ab g cap h m L M s w HG hS hT hA hm hu hg hL hs hLl h1 h2 n1 hr)
  clear HG hS hT hA hm hu hg hL hs h1 h2 n1 hr
  go_enter Try.func78, Try.ntmps78
  go_wp2_with fail
  refine Hc.out.mono ?_
  rintro e w' ⟨r, M', s', rfl, hv, hcase⟩
  by_cases h0 : 0 ≤ r
  · have hb : Hid (decide (r ≥ 0) = true) := decide_eq_true h0
    have HC : Hid (∃ i s1, i ∈ L ∧ (∀ x, s x = true → s1 x = true) ∧ PuOk (rR room) (mayW wish) H n M M' i s1) := by
      rcases hcase.out with ⟨-, h⟩ | ⟨h, -⟩
      · exact h
      · omega
    clear hcase h0
    go_wp2
    go_ret
    exact ⟨true, M', s', ret_bool hb.out, hv, .inl ⟨rfl, HC.out⟩⟩
  · have hb : Hid (decide (r ≥ 0) = false) := decide_eq_false h0
    have HC : Hid (M' = M ∧ PuNo (rR room) (mayW wish) H n M s s' ∧ ∀ i, i ∈ L → ∀ x, mayW wish i x → s' x = true) := by
      rcases hcase.out with ⟨h, -⟩ | ⟨-, h⟩
      · exact absurd h h0
      · exact h
    clear hcase h0
    go_wp2
    go_ret
    exact ⟨false, M', s', ret_bool hb.out, hv, .inr ⟨rfl, HC.out⟩⟩
/-- What makeRoom answers. -/
def MakePost (room : List Int) (wish : List (List Int)) (B H n tb mb h : Nat) (M : Nat → Int) (s : Nat → Bool) (w : World) (e : Ending) (w' : World) : Prop :=
  ∃ b M' s', e = .returned (.bool b) ∧ Hid (Gv room B H n tb mb w w' M' s') ∧
    Hid ((b = true ∧ (((cntM M h n : Int) < rR room h ∧ M' = M) ∨ ∃ i s1, i < n ∧ M i = h ∧ (∀ x, s x = true → s1 x = true) ∧ PuOk (rR room) (mayW wish) H n M M' i s1)) ∨
      (b = false ∧ ¬ (cntM M h n : Int) < rR room h ∧ M' = M ∧ PuNo (rR room) (mayW wish) H n M s s' ∧ ∀ j, j < n → M j = h → ∀ x, mayW wish j x → s' x = true))
theorem blk_cnt (M : Nat → Int) (h : Nat) : ∀ n, blk (fun i => decide (M i = h)) n = cntM M h n
  | 0 => rfl
  | n + 1 => by
    simp only [blk, cntM]
    rw [blk_cnt M h n]
    by_cases e : M n = h
    · rw [if_pos e, if_pos (decide_eq_true e)]
    · rw [if_neg e, if_neg (by simp [e])]
set_option maxHeartbeats 3200000 in
theorem makeRoom_any (room : List Int) (wish : List (List Int)) (B H n S hb cb tb mb f h m : Nat) (M : Nat → Int) (s : Nat → Bool) (w : World) (HG : GiveAt room wish B H n S hb cb tb mb f) (hv : vroom room wish = true) (hH : room.length = H) (hn : wish.length = n) (hS : Sh w room wish H n S hb cb tb mb) (hT : Tk w B room n tb M) (hA : Ask w room H mb m s) (hm : m + unS s H ≤ 4) (hu : unS s H ≤ f) (hg : Giv (rR room) (mayW wish) H n M)
    (hh : h < H) (hs : s h = true) :
    Calls Try.prog 73 #[.pointer (some ⟨S, 0, none⟩), .agg #[.int .u64 ((2 ^ h : Nat) : Int), .int .i64 (rR room h)], .map (some mb)] w (MakePost room wish B H n tb mb h M s w) := by
  obtain ⟨h4, h7, hR, -⟩ := (vroom_iff _ _).1 hv
  rw [hH] at h4 hR
  rw [hn] at h7
  have hrb := hR h hh
  have htl := (World.ownsRow.lt hT tb rfl).2
  have hml := hA.lt
  obtain ⟨p, Hp⟩ : ∃ p : Int, Hid (((2 ^ h : Nat) : Int) = p) := ⟨_, rfl⟩
  obtain ⟨x, Hx⟩ : ∃ x, Hid (rR room h = x) := ⟨_, rfl⟩
  have hxr : 0 ≤ x ∧ x ≤ 7 := by rw [← Hx.out]; exact hrb
  have hb1 := (Below.refl w.heap.size w).alloc (Nat.le_refl _) (.cells #[.pointer (some ⟨S, 0, none⟩)] 76)
  have hb2 := hb1.alloc hb1.size (.cells #[.int .u64 p, .int .i64 x] 75)
  have hb3 := hb2.alloc hb2.size (.cells #[.map (some mb)] 57)
  have hw1 := size_alloc1 w (.cells #[.pointer (some ⟨S, 0, none⟩)] 76)
  have hw2 := size_alloc1 (w.alloc (.cells #[.pointer (some ⟨S, 0, none⟩)] 76)) (.cells #[.int .u64 p, .int .i64 x] 75)
  have hw3 := size_alloc1 ((w.alloc (.cells #[.pointer (some ⟨S, 0, none⟩)] 76)).alloc (.cells #[.int .u64 p, .int .i64 x] 75)) (.cells #[.map (some mb)] 57)
  obtain ⟨W, HW⟩ : ∃ W, Hid (((w.alloc (.cells #[.pointer (some ⟨S, 0, none⟩)] 76)).alloc (.cells #[.int .u64 p, .int .i64 x] 75)).alloc (.cells #[.map (some mb)] 57) = W) := ⟨_, rfl⟩
  have g1 : W.heap[w.heap.size]? = some (.cells #[.pointer (some ⟨S, 0, none⟩)] 76 (0, 0)) := by
    rw [← HW.out, Below.heap_alloc _ _ _ (by omega), Below.heap_alloc _ _ _ (by omega)]
    exact heap_alloc_new _ _
  have g2 : W.heap[w.heap.size + 1]? = some (.cells #[.int .u64 p, .int .i64 x] 75 (0, 0)) := by
    rw [← HW.out, Below.heap_alloc _ _ _ (by omega), ← hw1]
    exact heap_alloc_new _ _
  have g3 : W.heap[w.heap.size + 2]? = some (.cells #[.map (some mb)] 57 (0, 0)) := by
    rw [← HW.out, show w.heap.size + 2 = ((w.alloc (.cells #[.pointer (some ⟨S, 0, none⟩)] 76)).alloc (.cells #[.int .u64 p, .int .i64 x] 75)).heap.size by omega]
    exact heap_alloc_new _ _
  rw [HW.out] at hb3 hw3
  have hWs : W.heap.size = w.heap.size + 3 := by omega
  have d1 : W.cell? ⟨w.heap.size, 0, none⟩ = some (.pointer (some ⟨S, 0, none⟩)) := by rw [cell_of_row _ _ _ _ _ _ g1]; rfl
  have d2 : W.cell? ⟨w.heap.size + 1, 0, none⟩ = some (.int .u64 p) := by rw [cell_of_row _ _ _ _ _ _ g2]; rfl
  have d3 : W.cell? ⟨w.heap.size + 1, 1, none⟩ = some (.int .i64 x) := by rw [cell_of_row _ _ _ _ _ _ g2]; rfl
  have d4 : W.cell? ⟨w.heap.size + 2, 0, none⟩ = some (.map (some mb)) := by rw [cell_of_row _ _ _ _ _ _ g3]; rfl
  have hSW := hS.fr (.of_below hb3)
  have hTW := hT.below hb3
  have hAW := hA.below hb3
  have hXW : Bx W room S h w.heap.size (w.heap.size + 1) := ⟨d1, by rw [Hp.out]; exact d2, by rw [Hx.out]; exact d3⟩
  obtain ⟨e0, e1, -⟩ := hSW.cells
  have HWh := Lib.hid (whereMake_any cb n w.heap.size (w.heap.size + 1) (fun i => (i : Int)) (mS wish) (fun i => decide (M i = h)) W hSW.c h7
    (fun i hi w' hbw => makeClosure_any room wish H n S hb cb tb mb B h w.heap.size (w.heap.size + 1) i (mS wish i) M w' (hSW.fr (.of_below hbw)) (hTW.below hbw) (hXW.below hbw) hi h7 h4 hh hg.inH))
  have HG' := Lib.hid HG
  have HSW := Lib.hid hSW
  have HTW := Lib.hid hTW
  have HAW := Lib.hid hAW
  have HBW := Lib.hid hb3
  have Hg := Lib.hid hg
  have Hs := Lib.hid hs
  have D1 := Lib.hid d1
  have D3 := Lib.hid d3
  have D4 := Lib.hid d4
  have Hlen : Hid ((selL (fun i => decide (M i = h)) n).length = cntM M h n) := (selL_len _ _).trans (blk_cnt M h n)
  have Hsel : Hid (∀ i, i ∈ selL (fun i => decide (M i = h)) n → i < n ∧ M i = h) := fun i hi => by
    obtain ⟨a, b⟩ := selL_mem.1 hi
    exact ⟨a, of_decide_eq_true b⟩
  have Hsel2 : Hid (∀ i, i < n → M i = h → i ∈ selL (fun i => decide (M i = h)) n) := fun i hi hm => selL_mem.2 ⟨hi, decide_eq_true hm⟩
  rw [Hp.out, Hx.out]
  clear g1 g2 g3 hb1 hb2 hb3 hw1 hw2 hw3 hSW hTW hAW hXW HG hS hT hA hg hs d1 d2 d3 d4 hR hrb hv hH hn
  rw [← HW.out] at e1
  have d1 := D1.out
  rw [← HW.out] at d1
  go_enter Try.func73, Try.ntmps73
  go_wp2_with fail
  rw [HW.out]
  refine HWh.out.mono ?_
  rintro e w4 ⟨g, cg, rfl, hlc, hcm, hog, hbg⟩
  have HB4 := Lib.hid hbg.out
  have HS4 := Lib.hid (HSW.out.fr (.of_below hbg.out))
  have HT4 := Lib.hid (HTW.out.below hbg.out)
  have HA4 := Lib.hid (HAW.out.below hbg.out)
  have HF4 : Hid (Fr w w4 tb mb) := .of_below (HBW.out.trans (hbg.out.mono HBW.out.size))
  have HR4 := Lib.hid (rdC_own (N := fun k => (((selL (fun i => decide (M i = h)) n).getD k 0 : Nat) : Int)) (M := fun k => mS wish ((selL (fun i => decide (M i = h)) n).getD k 0)) hog.out)
  have hgW : W.heap.size ≤ g := (hog.out.lt g rfl).1
  have c1 : w4.cell? ⟨w.heap.size, 0, none⟩ = some (.pointer (some ⟨S, 0, none⟩)) := (hbg.out.cell (by show w.heap.size < _; omega)).trans D1.out
  have c3 : w4.cell? ⟨w.heap.size + 1, 1, none⟩ = some (.int .i64 x) := (hbg.out.cell (by show w.heap.size + 1 < _; omega)).trans D3.out
  have c4 : w4.cell? ⟨w.heap.size + 2, 0, none⟩ = some (.map (some mb)) := (hbg.out.cell (by show w.heap.size + 2 < _; omega)).trans D4.out
  have C1 := Lib.hid c1
  have C4 := Lib.hid c4
  obtain ⟨L, HL⟩ : ∃ L, Hid (selL (fun i => decide (M i = h)) n = L) := ⟨_, rfl⟩
  obtain ⟨C, HC⟩ : ∃ C, Hid (cntM M h n = C) := ⟨_, rfl⟩
  have hCn := cnt_bd M h n
  rw [HC.out] at hCn
  rw [HL.out] at HR4 hlc Hlen Hsel Hsel2 ⊢
  rw [HC.out] at Hlen
  have HlC : Hid (L.length = C) := Hlen.out
  clear hog hbg HWh c1 c4 d1 e0 e1
  by_cases hlt : (C : Int) < x
  · have HV : Hid (Gv room B H n tb mb w w4 M s) := ⟨HT4.out, ⟨m, hm, HA4.out⟩, HF4.out⟩
    have Hfin : Hid ((cntM M h n : Int) < rR room h) := by show _ < _; rw [HC.out, Hx.out]; exact hlt
    rw [HlC.out]
    rw [HlC.out] at hlc
    go_wp2
    go_ret
    exact ⟨true, M, s, rfl, HV, .inl ⟨rfl, .inl ⟨Hfin.out, rfl⟩⟩⟩
  · have Hfin : Hid (¬ (cntM M h n : Int) < rR room h) := by show ¬ _; rw [HC.out, Hx.out]; exact hlt
    have Hc := Lib.hid (containsAsk_any room wish B H n S hb cb tb mb f w.heap.size (w.heap.size + 2) g cg h m L M s w4 HG'.out HS4.out HT4.out HA4.out hm hu Hg.out Hsel.out Hs.out (by rw [HlC.out]; omega) C1.out C4.out ⟨by omega, by omega, by omega, by omega, by omega, by omega⟩ HR4.out)
    rw [HlC.out] at Hc
    rw [HlC.out]
    rw [HlC.out] at hlc
    clear HR4 HS4 HT4 HA4
    go_wp2_with fail
    refine Hc.out.mono ?_
    rintro e w5 ⟨b, M', s', rfl, hv, hcase⟩
    have HV := Lib.hid (hv.out.from HF4.out)
    clear hv
    go_wp2
    go_ret
    have hfin : ¬ (cntM M h n : Int) < rR room h := by have := Hfin.out; omega
    refine ⟨b, M', s', ret_bool (by rw [show decide ((C : Int) < x) = false from decide_eq_false (by omega)]; rfl), HV, ?_⟩
    rcases hcase.out with ⟨h1, i, s1, h2, h3, h4⟩ | ⟨h1, h2, h3, h4⟩
    · obtain ⟨h5, h6⟩ := Hsel.out i h2
      exact .inl ⟨h1, .inr ⟨i, s1, h5, h6, h3, h4⟩⟩
    · exact .inr ⟨h1, hfin, h2, h3, fun j hj hmj => h4 j (Hsel2.out j hj hmj)⟩
end Go.Proofs.Ytakljcpneghgnaa
