/-
  BacksOf of the program, walked: how many helpers are near each home.
  Conditions: fewer than 2^20 numbers.
-/
import Derived.Test.Ythphboeboiallab1E
import Derived.Test.YthphboeboiallabLU
import Derived.Test.Ythphboeboiallab0RW
namespace Go.Proofs.Ythphboeboiallab
open Go.ChangeShapes Go.WideShapes Go.ChangeAt Go.RowKit
set_option linter.unusedVariables false
set_option maxRecDepth 4000

/-- Near: no farther. -/
def nrF (far : Int) (x s : Int) : Bool := decide (gapI x s ≤ far)
/-- Homes, spots and how far they may be. -/
def vbB (zs ss : List Int) (far : Int) : Bool := vh zs && (vh ss && (decide (ss.length ≤ 4) && vfar far))
/-- How many helpers are near each home. -/
def bkL (far : Int) (zs ss : List Int) : List Int := zs.map fun x => ((nbB (nrF far) ss x : Nat) : Int)
def bkQ (zs ss : List Int) (far : Int) : List Int := if vbB zs ss far = true then bkL far zs ss else []
theorem bkL_length (far : Int) (zs ss : List Int) : (bkL far zs ss).length = zs.length := by simp [bkL]
theorem bkQ_yes {zs ss : List Int} {far : Int} (h : vbB zs ss far = true) : bkQ zs ss far = bkL far zs ss := if_pos h
theorem bkQ_no {zs ss : List Int} {far : Int} (h : vbB zs ss far = false) : bkQ zs ss far = [] := if_neg (by simp [h])
theorem vbB_get {zs ss : List Int} {far : Int} (h : vbB zs ss far = true) : vh zs = true ∧ vh ss = true ∧ ss.length ≤ 4 ∧ 0 ≤ far ∧ far ≤ 50 := by
  simp only [vbB, vfar, Bool.and_eq_true, decide_eq_true_eq] at h
  exact ⟨h.1, h.2.1, h.2.2.1, h.2.2.2.1, h.2.2.2.2⟩
theorem vbB_of {zs ss : List Int} {far : Int} (h1 : vh zs = true) (h2 : vh ss = true) (h3 : ss.length ≤ 4) (h4 : vfar far = true) : vbB zs ss far = true := by simp [vbB, h1, h2, h3, h4]
set_option maxHeartbeats 800000 in
theorem iBacks_any (A A' : Option Addr) (c c' n m : Nat) (zs ss : List Int) (far : Int) (w : World) (h : PIn w A c n zs) (h' : PIn w A' c' m ss) :
    Calls Try.prog 38 #[.slice A n c, .slice A' m c', .int .i64 far] w fun e w' => e = .returned (.bool (vbB zs ss far)) ∧ w = w' := by
  have H1 := Lib.hid (iValid_any A c n zs w _ h.rd h.len (by have := h.most; omega))
  have H2 := Lib.hid (iValid_any A' c' m ss w _ h'.rd h'.len (by have := h'.most; omega))
  have Hm := Lib.hid h'.len
  clear h h'
  by_cases a1 : vh zs = true
  · by_cases a2 : vh ss = true
    · by_cases a3 : m ≤ 4
      · by_cases a4 : 0 ≤ far ∧ far ≤ 50
        · have H3 := Lib.hid (validFar_yes far w a4.1 a4.2)
          have e : vbB zs ss far = true := vbB_of a1 a2 (by rw [Hm.out]; exact a3) (vfar_yes a4.1 a4.2)
          rw [a1] at H1; rw [a2] at H2; rw [e]
          clear a1 a2 a4 e
          have a5 : (m : Int) ≤ 4 := by omega
          go_enter Try.func38, Try.ntmps38
          go_wp2_with fail
          refine H1.out.mono ?_
          rintro e w' ⟨rfl, rfl⟩
          go_wp2_with fail
          refine H2.out.mono ?_
          rintro e w' ⟨rfl, rfl⟩
          go_wp2_with fail
          refine H3.out.mono ?_
          rintro e w' ⟨rfl, rfl⟩
          go_wp2
          go_ret
          exact ⟨ret_bool rfl, rfl⟩
        · have H3 := Lib.hid (validFar_no far w (by omega))
          have e : vbB zs ss far = false := by unfold vbB; rw [vfar_no (by omega)]; simp
          rw [a1] at H1; rw [a2] at H2; rw [e]
          clear a1 a2 a4 e
          have a5 : (m : Int) ≤ 4 := by omega
          go_enter Try.func38, Try.ntmps38
          go_wp2_with fail
          refine H1.out.mono ?_
          rintro e w' ⟨rfl, rfl⟩
          go_wp2_with fail
          refine H2.out.mono ?_
          rintro e w' ⟨rfl, rfl⟩
          go_wp2_with fail
          refine H3.out.mono ?_
          rintro e w' ⟨rfl, rfl⟩
          go_wp2
          go_ret
          exact ⟨ret_bool rfl, rfl⟩
      · have e : vbB zs ss far = false := by unfold vbB; rw [Hm.out]; simp [a3]
        rw [a1] at H1; rw [a2] at H2; rw [e]
        clear a1 a2 e
        have a5 : ¬ (m : Int) ≤ 4 := by omega
        go_enter Try.func38, Try.ntmps38
        go_wp2_with fail
        refine H1.out.mono ?_
        rintro e w' ⟨rfl, rfl⟩
        go_wp2_with fail
        refine H2.out.mono ?_
        rintro e w' ⟨rfl, rfl⟩
        go_wp2
        go_ret
        exact ⟨ret_bool rfl, rfl⟩
    · have a2' : vh ss = false := by simpa using a2
      have e : vbB zs ss far = false := by unfold vbB; rw [a2']; simp
      rw [a1] at H1; rw [a2'] at H2; rw [e]
      clear a1 a2 a2' e
      go_enter Try.func38, Try.ntmps38
      go_wp2_with fail
      refine H1.out.mono ?_
      rintro e w' ⟨rfl, rfl⟩
      go_wp2_with fail
      refine H2.out.mono ?_
      rintro e w' ⟨rfl, rfl⟩
      go_wp2
      go_ret
      exact ⟨ret_bool rfl, rfl⟩
  · have a1' : vh zs = false := by simpa using a1
    have e : vbB zs ss far = false := by unfold vbB; rw [a1']; rfl
    rw [a1'] at H1; rw [e]
    clear a1 a1' e H2
    go_enter Try.func38, Try.ntmps38
    go_wp2_with fail
    refine H1.out.mono ?_
    rintro e w' ⟨rfl, rfl⟩
    go_wp2
    go_ret
    exact ⟨ret_bool rfl, rfl⟩
/-- The numbers while homes and spots are gone through. -/
def bkF (far : Int) (zs ss : List Int) (i k t : Nat) : Nat := if t < i then nbB (nrF far) ss (zs.getD t 0) else if t = i then nbB (nrF far) (ss.take k) (zs.getD i 0) else 0
theorem bkF_next {far : Int} {zs ss : List Int} {i k : Nat} (hk : ss.length ≤ k) (t : Nat) : bkF far zs ss i k t = bkF far zs ss (i + 1) 0 t := by
  unfold bkF
  rw [List.take_of_length_le hk]
  by_cases h1 : t < i
  · rw [if_pos h1, if_pos (by omega)]
  · by_cases h2 : t = i
    · subst h2; rw [if_neg h1, if_pos rfl, if_pos (by omega)]
    · rw [if_neg h1, if_neg h2, if_neg (by omega)]
      split
      · simp [nbB]
      · rfl
theorem nbB_take {nr : Int → Int → Bool} {ss : List Int} {k : Nat} {x s : Int} (hk : k < ss.length) (hs : ss.getD k 0 = s) : nbB nr (ss.take (k + 1)) x = nbB nr (ss.take k) x + if nr x s = true then 1 else 0 := by
  have e : ss.take (k + 1) = ss.take k ++ [s] := by
    rw [List.take_succ_eq_append_getElem hk]
    simp [← hs, List.getD, hk]
  rw [e, nbB_append]
  congr 1
  simp [nbB, List.countP_cons]
theorem bkF_yes {far : Int} {zs ss : List Int} {i k : Nat} {x s : Int} (hk : k < ss.length) (hx : zs.getD i 0 = x) (hs : ss.getD k 0 = s) (h : gapI x s ≤ far) (t : Nat) : bkF far zs ss i (k + 1) t = if t = i then bkF far zs ss i k i + 1 else bkF far zs ss i k t := by
  unfold bkF
  by_cases h1 : t < i
  · rw [if_pos h1, if_neg (by omega), if_pos h1]
  · by_cases h2 : t = i
    · subst h2
      rw [if_neg h1, if_pos rfl, if_pos rfl, if_neg h1, if_pos rfl, hx, nbB_take hk hs, if_pos (by unfold nrF; exact decide_eq_true h)]
    · rw [if_neg h1, if_neg h2, if_neg h2, if_neg h1, if_neg h2]
theorem bkF_no {far : Int} {zs ss : List Int} {i k : Nat} {x s : Int} (hk : k < ss.length) (hx : zs.getD i 0 = x) (hs : ss.getD k 0 = s) (h : ¬ gapI x s ≤ far) (t : Nat) : bkF far zs ss i k t = bkF far zs ss i (k + 1) t := by
  unfold bkF
  by_cases h1 : t < i
  · rw [if_pos h1, if_pos h1]
  · by_cases h2 : t = i
    · subst h2
      rw [if_neg h1, if_pos rfl, if_neg h1, if_pos rfl, hx, nbB_take hk hs, if_neg (by unfold nrF; simpa using h), Nat.add_zero]
    · rw [if_neg h1, if_neg h2, if_neg h1, if_neg h2]
theorem bkF_le (far : Int) (zs ss : List Int) (i k t : Nat) : bkF far zs ss i k t ≤ ss.length := by
  unfold bkF
  split
  · exact nbB_le _ _ _
  · split
    · refine Nat.le_trans (nbB_le _ _ _) ?_
      rw [List.length_take]; exact Nat.min_le_right _ _
    · exact Nat.zero_le _
/-- The row while it is filled. -/
structure BkS (w wr : World) (g n : Nat) (f : Nat → Nat) : Prop where
  row : wr.heap[g]? = some (.cells (rwA f n) 3 (0, 0))
  bel : Below w.heap.size w wr
  lo : w.heap.size ≤ g
theorem BkS.congr {w wr : World} {g n : Nat} {f f' : Nat → Nat} (h : BkS w wr g n f) (hf : ∀ t, t < n → f t = f' t) : BkS w wr g n f' := ⟨by rw [← rwA_congr hf]; exact h.row, h.bel, h.lo⟩
theorem BkS.write {w wr : World} {g n k v : Nat} {f : Nat → Nat} (h : BkS w wr g n f) (hk : k < n) : BkS w (wr.setCell ⟨g, k, none⟩ (.int .i64 ((v : Nat) : Int))) g n (fun j => if j = k then v else f j) :=
  ⟨by rw [heap_setCell_same _ _ _ _ _ _ h.row, rwA_set hk], h.bel.setCell h.lo _, h.lo⟩
theorem BkS.cell {w wr : World} {g n k : Nat} {f : Nat → Nat} (h : BkS w wr g n f) (hk : k < n) : wr.cell? ⟨g, k, none⟩ = some (.int .i64 ((f k : Nat) : Int)) := (cell_of_row _ _ _ _ _ _ h.row).trans (rwA_get hk)
theorem BkS.done {w wr : World} {g n : Nat} {f : Nat → Nat} (h : BkS w wr g n f) {xs : List Int} (hL : xs.length = n) (hf : ∀ i, i < n → ((f i : Nat) : Int) = xs.getD i 0) (hm : n ≤ 1000) : RowQ xs w (.returned (.slice (some ⟨g, 0, none⟩) n n)) wr := by
  have e : rwA f n = (xs.map (Value.int .i64)).toArray := by
    unfold rwA
    congr 1
    apply List.ext_getElem?
    intro i
    by_cases hi : i < n
    · have h1 := hf i hi
      simp [hi, List.getD, List.getElem?_eq_getElem (show i < xs.length by omega)] at h1 ⊢
      exact h1
    · simp [hi, List.getElem?_eq_none (show xs.length ≤ i by omega)]
  refine ⟨_, _, by rw [hL], ⟨?_, .inr ⟨g, n, _, by rw [hL], h.lo, h.row, by rw [hL]; exact Nat.le_refl _, by unfold maxLen; omega, ?_, ?_⟩⟩, h.bel⟩
  · rw [List.length_map, Nat.mul_one]
  · rw [rwA_size, Nat.mul_one]
  · rw [e, hL, Nat.mul_one, List.take_of_length_le (by rw [List.length_map]; omega)]
/-- The contract. -/
def BRow (F : Nat) (ans : List Int → List Int → Int → List Int) : Prop := ∀ (A A' : Option Addr) (c c' n m : Nat) (zs ss : List Int) (far : Int) (w : World), PIn w A c n zs → PIn w A' c' m ss →
  Calls Try.prog F #[.slice A n c, .slice A' m c', .int .i64 far] w (RowQ (ans zs ss far) w)
def BkO (w : World) (g n : Nat) (far : Int) (zs ss : List Int) (i : Value) (wr : World) : Prop := ∃ j : Nat, j ≤ n ∧ i = .int .i64 (j : Int) ∧ Hid (BkS w wr g n (bkF far zs ss j 0))
def BkI (w : World) (g n m j : Nat) (far : Int) (zs ss : List Int) (i : Value) (wr : World) : Prop := ∃ k : Nat, k ≤ m ∧ i = .int .i64 (k : Int) ∧ Hid (BkS w wr g n (bkF far zs ss j k))
set_option maxHeartbeats 1600000 in
theorem iBacksOf_ok : BRow 14 bkQ := by
  intro A A' c c' n m zs ss far w h h'
  obtain ⟨i0, hi0, hz0, hz1, hz2⟩ := info_parts intInfo
  have HV := Lib.hid (iBacks_any A A' c c' n m zs ss far w h h')
  by_cases hv : vbB zs ss far = true
  · obtain ⟨v1, v2, v3, v4, v5⟩ := vbB_get hv
    rw [hv] at HV
    rw [bkQ_yes hv]
    have Hn := Lib.hid h.len
    have Hm := Lib.hid h'.len
    have Hz := Lib.hid h.rd
    have Hs := Lib.hid h'.rd
    have V1 := Lib.hid v1
    have V2 := Lib.hid v2
    have hn10 : n ≤ 10 := by rw [← Hn.out]; exact vh_len v1
    have hm4 : m ≤ 4 := by rw [← Hm.out]; exact v3
    clear hv h h' v1 v2 v3
    go_enter Try.func14, Try.ntmps14
    go_wp2_with fail
    refine HV.out.mono ?_
    rintro e w1 ⟨rfl, rfl⟩
    go_wp2_with (at_make; refine wpList_make_full _ rfl _ _ 23 rfl w.heap.size 3 i0 _ 1 Try.underlying23 hi0 hz0 hz1 _ _ _ _ n rfl rfl rfl rfl (by rw [hz2]; omega) (by unfold maxLen; omega) (Nat.le_refl _) ?_; intro w2 hown2 hg2)
    rw [made_ints] at hown2
    have hblk := own_blockN hown2
    rw [rwA_zero] at hblk
    have hb2 : Below w.heap.size w w2 := (Below.refl _ _).grown hg2 (Nat.le_refl _) (fun j hj => by cases hj)
    have HS2 : Hid (BkS w w2 w.heap.size n (bkF far zs ss 0 0)) := BkS.congr (f := fun _ => 0) ⟨hblk, hb2, Nat.le_refl _⟩ (fun t _ => by
      unfold bkF
      rw [if_neg (by omega)]
      split <;> simp [nbB])
    clear hown2 hg2 hblk hb2
    go_wp2
    go_loopw [22] (fun i wr => BkO w w.heap.size n far zs ss i wr) (fun i _ => n - (intOf i).toNat)
    case atStart => exact ⟨0, Nat.zero_le _, rfl, HS2⟩
    case round =>
      clear HS2
      obtain ⟨j, hj, rfl, HS⟩ := hrel
      by_cases hlt : j < n
      · obtain ⟨b, off, x, rfl, hbl, Hx, hc⟩ := (Hz.out.below HS.out.bel).x (k := j) (by rw [Hn.out]; exact hlt)
        obtain ⟨x0, x50⟩ := vh_get V1.out (by rw [Hn.out]; exact hlt) Hx.out
        go_wp2
        clear hc hbl
        go_loopw [29] (fun i wr => BkI w w.heap.size n m j far zs ss i wr) (fun i _ => m - (intOf i).toNat)
        case atStart => exact ⟨0, Nat.zero_le _, rfl, HS⟩
        case round =>
          clear HS
          obtain ⟨k, hk, rfl, HS⟩ := hrel
          by_cases hlk : k < m
          · obtain ⟨b', off', s, rfl, hbl', Hs', hc'⟩ := (Hs.out.below HS.out.bel).x (k := k) (by rw [Hm.out]; exact hlk)
            obtain ⟨s0, s50⟩ := vh_get V2.out (by rw [Hm.out]; exact hlk) Hs'.out
            have HD := Lib.hid (fun W => distance_any x s W (by omega) (by omega) (by omega) (by omega))
            by_cases hg : gapI x s ≤ far
            · have cs := HS.out.cell hlt
              have fs := frozen_of_row _ w.heap.size j _ _ HS.out.row
              obtain ⟨u, Hu⟩ : ∃ u, Hid (bkF far zs ss j k j = u) := ⟨_, rfl⟩
              have hu : u ≤ m := by rw [← Hu.out, ← Hm.out]; exact bkF_le _ _ _ _ _ _
              rw [Hu.out] at cs
              have HS3 : Hid (BkS w (wr.setCell ⟨w.heap.size, j, none⟩ (.int .i64 ((u : Int) + 1))) w.heap.size n (bkF far zs ss j (k + 1))) := by
                have h1 := HS.out.write (k := j) (v := u + 1) hlt
                rw [Int.natCast_add] at h1
                exact h1.congr fun t _ => by rw [bkF_yes (by rw [Hm.out]; exact hlk) Hx.out Hs'.out hg, Hu.out]
              clear HS
              go_wp2_with fail
              refine (HD.out _).mono ?_
              rintro e w4 ⟨rfl, rfl⟩
              generalize gapI x s = d at hg ⊢
              go_wp2
              go_roundw
              case rel => exact ⟨k + 1, by omega, by go_num, HS3⟩
              case measure => simp [intOf]; omega
            · have HS3 : Hid (BkS w wr w.heap.size n (bkF far zs ss j (k + 1))) := HS.out.congr fun t _ => bkF_no (by rw [Hm.out]; exact hlk) Hx.out Hs'.out hg t
              clear HS
              go_wp2_with fail
              refine (HD.out _).mono ?_
              rintro e w4 ⟨rfl, rfl⟩
              generalize gapI x s = d at hg ⊢
              go_wp2
              go_roundw
              case rel => exact ⟨k + 1, by omega, by go_num, HS3⟩
              case measure => simp [intOf]; omega
          · have HS3 : Hid (BkS w wr w.heap.size n (bkF far zs ss (j + 1) 0)) := HS.out.congr fun t _ => bkF_next (by rw [Hm.out]; omega) t
            clear HS
            go_wp2
            go_roundw
            case rel => exact ⟨j + 1, by omega, by go_num, HS3⟩
            case measure => simp [intOf]; omega
      · obtain rfl : j = n := by omega
        have HE := Lib.hid (HS.out.done (xs := bkL far zs ss) (by rw [bkL_length, Hn.out]) (fun i hi => by
          unfold bkF bkL
          rw [if_pos hi]
          simp [List.getD, List.getElem?_eq_getElem (show i < zs.length by rw [Hn.out]; exact hi)]) (by omega))
        clear HS
        go_wp2
        go_ret
        exact HE.out
  · have hv' : vbB zs ss far = false := by simpa using hv
    rw [hv'] at HV
    rw [bkQ_no hv']
    clear hv hv' h h'
    go_enter Try.func14, Try.ntmps14
    go_wp2_with fail
    refine HV.out.mono ?_
    rintro e w1 ⟨rfl, rfl⟩
    go_wp2
    go_ret
    exact rowQ_nil _ _ (Below.refl _ _)
end Go.Proofs.Ythphboeboiallab
