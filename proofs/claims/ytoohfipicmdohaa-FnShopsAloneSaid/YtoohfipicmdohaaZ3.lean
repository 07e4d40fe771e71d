/-
  SharesOf of the program, walked: from near to far, house by house.
  Conditions: fewer than 2^20 numbers.
  ValidShops, nearest and the shares of the model, walked.
  Conditions: as each theorem states.
  slices.BinarySearch at a list of places in order: where one more goes in.
  Conditions: at most a hundred places, each at most a hundred.
  slices.Insert and slices.Clone at a list of places: one more shop put in.
  Conditions: at most a hundred places.
-/
import Derived.Test.YtoohfipicmdohaaZ1
import Derived.Test.YtoohfipicmdohaaZ0
import Derived.Laws.CopyOwn
import Derived.WalkSpells
import Derived.Shelf.Spec.SlicesInsertGrow
namespace Go.Proofs.Ytoohfipicmdohaa
open Go.ChangeShapes Go.WideShapes Go.ChangeAt Go.RowKit Go.Maps
set_option linter.unusedVariables false
set_option maxRecDepth 4000

/-- Numbers as a row's cells. -/
def rwA (f : Nat → Nat) (m : Nat) : Array Value := ((List.range m).map fun i => Value.int .i64 ((f i : Nat) : Int)).toArray
theorem rwA_size (f : Nat → Nat) (m : Nat) : (rwA f m).size = m := by simp [rwA]
theorem rwA_get {f : Nat → Nat} {i m : Nat} (h : i < m) : (rwA f m)[i]? = some (.int .i64 ((f i : Nat) : Int)) := by simp [rwA, h]
theorem rwA_congr {f g : Nat → Nat} {m : Nat} (h : ∀ i, i < m → f i = g i) : rwA f m = rwA g m := by
  unfold rwA
  congr 1
  refine List.map_congr_left fun i hi => ?_
  rw [h i (List.mem_range.1 hi)]
theorem rwA_set {f : Nat → Nat} {i v m : Nat} (h : i < m) : (rwA f m).setIfInBounds i (.int .i64 ((v : Nat) : Int)) = rwA (fun j => if j = i then v else f j) m := by
  unfold rwA
  apply Array.ext_getElem?
  intro j
  rw [Array.getElem?_setIfInBounds]
  by_cases hj : j < m
  · by_cases e : i = j
    · subst e; simp [h]
    · simp [hj, e, show ¬ j = i from fun h => e h.symm]
  · simp [hj]; omega
theorem rwA_zero (m : Nat) : (List.replicate m (Value.int .i64 0)).toArray = rwA (fun _ => 0) m := by
  unfold rwA
  congr 1
  apply List.ext_getElem?
  intro i
  by_cases hi : i < m <;> simp [hi]
/-- The row, the set, and what stays. -/
structure StQ (w wr : World) (sb lb m n : Nat) (f : Nat → Nat) (s : Nat → Bool) : Prop where
  row : wr.heap[sb]? = some (.cells (rwA f m) 3 (0, 0))
  set : ∃ cnt, SetQ wr lb cnt n s
  bel : Below w.heap.size w wr
  lo : w.heap.size ≤ sb ∧ w.heap.size ≤ lb ∧ sb ≠ lb
theorem StQ.sb_lt {w wr : World} {sb lb m n : Nat} {f : Nat → Nat} {s : Nat → Bool} (h : StQ w wr sb lb m n f s) : sb < wr.heap.size := by
  have := h.row
  rcases Nat.lt_or_ge sb wr.heap.size with hl | hl
  · exact hl
  · rw [Array.getElem?_eq_none hl] at this; cases this
theorem StQ.later {w wr w2 : World} {sb lb m n : Nat} {f : Nat → Nat} {s : Nat → Bool} (h : StQ w wr sb lb m n f s) (hb : Below wr.heap.size wr w2) : StQ w w2 sb lb m n f s :=
  ⟨(hb.block _ h.sb_lt).trans h.row, by obtain ⟨c, hc⟩ := h.set; exact ⟨c, hc.below hb⟩, h.bel.trans (hb.mono h.bel.size), h.lo⟩
theorem StQ.congr {w wr : World} {sb lb m n : Nat} {f f' : Nat → Nat} {s s' : Nat → Bool} (h : StQ w wr sb lb m n f s) (hf : ∀ i, i < m → f i = f' i) (hs : ∀ x, x < n → s x = s' x) : StQ w wr sb lb m n f' s' :=
  ⟨by rw [← rwA_congr hf]; exact h.row, by obtain ⟨c, hc⟩ := h.set; exact ⟨c, hc.congr hs⟩, h.bel, h.lo⟩
theorem StQ.write {w wr : World} {sb lb m n k v : Nat} {f : Nat → Nat} {s : Nat → Bool} (h : StQ w wr sb lb m n f s) (hk : k < m) : StQ w (wr.setCell ⟨sb, k, none⟩ (.int .i64 ((v : Nat) : Int))) sb lb m n (fun j => if j = k then v else f j) s := by
  refine ⟨?_, ?_, h.bel.setCell h.lo.1 _, h.lo⟩
  · rw [heap_setCell_same _ _ _ _ _ _ h.row, rwA_set hk]
  · obtain ⟨c, hc⟩ := h.set
    exact ⟨c, hc.setCell (fun e => h.lo.2.2 e.symm) _⟩
theorem StQ.drew {w wr : World} {sb lb m n : Nat} {f : Nat → Nat} {s : Nat → Bool} (h : StQ w wr sb lb m n f s) : StQ w wr.drew sb lb m n f s := ⟨h.row, by obtain ⟨c, hc⟩ := h.set; exact ⟨c, hc⟩, h.bel.drew, h.lo⟩
theorem StQ.cell {w wr : World} {sb lb m n k : Nat} {f : Nat → Nat} {s : Nat → Bool} (h : StQ w wr sb lb m n f s) (hk : k < m) : wr.cell? ⟨sb, k, none⟩ = some (.int .i64 ((f k : Nat) : Int)) := (cell_of_row _ _ _ _ _ _ h.row).trans (rwA_get hk)
theorem StQ.taken {w wr w2 : World} {sb lb m n : Nat} {f : Nat → Nat} {s s' : Nat → Bool} {c : Nat} (h : StQ w wr sb lb m n f s) (hs : SetQ w2 lb c n s') (hg : wr.grownBy w2 (some lb)) : StQ w w2 sb lb m n f s' :=
  ⟨(hg.block _ h.sb_lt (by intro e; injection e with e; exact h.lo.2.2 e)).trans h.row, ⟨c, hs⟩, h.bel.grown hg h.bel.size (fun k hk => by injection hk with hk; rw [← hk]; exact h.lo.2.1), h.lo⟩
theorem StQ.done {w wr : World} {sb lb m n : Nat} {f : Nat → Nat} {s : Nat → Bool} (h : StQ w wr sb lb m n f s) {L : List Nat} (hL : L.length = m) (hf : ∀ i, i < m → f i = L.getD i 0) (hm : m ≤ 1000) : RowQ (cI L) w (.returned (.slice (some ⟨sb, 0, none⟩) m m)) wr := by
  have e : rwA f m = ((cI L).map (Value.int .i64)).toArray := by
    rw [rwA_congr hf]
    unfold rwA cI
    congr 1
    apply List.ext_getElem?
    intro i
    by_cases hi : i < m
    · simp [hi, List.getD, List.getElem?_eq_getElem (show i < L.length by omega)]
    · simp [hi, List.getElem?_eq_none (show L.length ≤ i by omega)]
  have hl : (cI L).length = m := by rw [cI_length]; exact hL
  refine ⟨_, _, by rw [hl], ⟨?_, .inr ⟨sb, m, _, by rw [hl], h.lo.1, h.row, by rw [hl]; exact Nat.le_refl _, by unfold maxLen; omega, ?_, ?_⟩⟩, h.bel⟩
  · rw [List.length_map, Nat.mul_one]
  · rw [rwA_size, Nat.mul_one]
  · rw [e, hl, Nat.mul_one, List.take_of_length_le (by rw [List.length_map]; omega)]
/-- Nearest shops as they are gone through. -/
def NrQ (wr : World) (sb lb nb : Nat) (L : List Nat) : Prop := nb ≠ sb ∧ nb ≠ lb ∧ nb < wr.heap.size ∧ ∀ j, j < L.length → wr.cell? ⟨nb, j, none⟩ = some (.int .i64 ((L.getD j 0 : Nat) : Int))
theorem NrQ.write {wr : World} {sb lb nb k : Nat} {u : Value} {L : List Nat} (h : NrQ wr sb lb nb L) : NrQ (wr.setCell ⟨sb, k, none⟩ u) sb lb nb L :=
  ⟨h.1, h.2.1, by show nb < (wr.setCell ⟨sb, k, none⟩ u).heap.size; rw [World.size_setCell]; exact h.2.2.1, fun j hj => by rw [World.cell?_of_block (Below.heap_setCell wr ⟨sb, k, none⟩ u nb h.1)]; exact h.2.2.2 j hj⟩
theorem NrQ.taken {wr w2 : World} {sb lb nb : Nat} {L : List Nat} (h : NrQ wr sb lb nb L) (hg : wr.grownBy w2 (some lb)) : NrQ w2 sb lb nb L :=
  ⟨h.1, h.2.1, Nat.lt_of_lt_of_le h.2.2.1 hg.size, fun j hj => by rw [World.cell?_of_block (hg.block nb h.2.2.1 (by intro e; injection e with e; exact h.2.1 e))]; exact h.2.2.2 j hj⟩
theorem NrQ.drew {wr : World} {sb lb nb : Nat} {L : List Nat} (h : NrQ wr sb lb nb L) : NrQ wr.drew sb lb nb L := h
/-- The shares while the nearest shops are gone through. -/
def inF (ss : List Nat) (far h n : Nat) (L : List Nat) (j i : Nat) : Nat := prK ss far h (ss.getD i 0) n + (if i ∈ L.take j then 12 / L.length else 0)
theorem inF_zero (ss : List Nat) (far h n : Nat) (L : List Nat) (i : Nat) : inF ss far h n L 0 i = prK ss far h (ss.getD i 0) n := by simp [inF]
theorem inF_step {ss : List Nat} {far h n : Nat} {L : List Nat} {j i a : Nat} (hL : L.Nodup) (hj : j < L.length) (ha : L.getD j 0 = a) : inF ss far h n L (j + 1) i = if i = a then inF ss far h n L j a + 12 / L.length else inF ss far h n L j i := by
  have e1 : L.getD j 0 = L[j] := by simp [List.getD, List.getElem?_eq_getElem hj]
  rw [e1] at ha
  subst ha
  have ht : L.take (j + 1) = L.take j ++ [L[j]] := List.take_succ_eq_append_getElem hj
  have hno : L[j] ∉ L.take j := by
    intro hm
    obtain ⟨k, hk, e⟩ := List.getElem_of_mem hm
    rw [List.getElem_take] at e
    have hk2 : k < j := by rw [List.length_take] at hk; omega
    have := (List.getElem_inj (h₀ := by omega) (h₁ := hj) hL).1 e
    omega
  have hin : ∀ i, i ∈ L.take (j + 1) ↔ i ∈ L.take j ∨ i = L[j] := fun i => by rw [ht, List.mem_append, List.mem_singleton]
  unfold inF
  by_cases e : i = L[j]
  · subst e
    rw [if_pos ((hin _).2 (.inr rfl)), if_pos rfl, if_neg hno]; omega
  · rw [if_neg e]
    congr 1
    have : (i ∈ L.take (j + 1)) ↔ i ∈ L.take j := by rw [hin]; simp [e]
    simp only [this]
theorem inF_end {ss : List Nat} {far h n i : Nat} (e : nrS ss h = far) (hh : h < n) (hi : i < ss.length) : inF ss far h n (awS ss h far) (awS ss h far).length i = prK ss far (h + 1) (ss.getD i 0) n := by
  unfold inF
  rw [List.take_length, pr_same e hh, ptS_at e hi]
theorem inF_le (ss : List Nat) (far h n : Nat) (L : List Nat) (j i : Nat) : inF ss far h n L j i ≤ 12 * n + 12 := by
  have := prK_le ss far h (ss.getD i 0) n
  have h2 := Nat.div_le_self 12 L.length
  unfold inF
  split <;> omega
def FarRel (w : World) (n m sb lb : Nat) (ss : List Nat) (i : Value) (wr : World) : Prop :=
  ∃ far : Nat, far ≤ n ∧ i = .int .i64 far ∧ Hid (StQ w wr sb lb m n (fun i => prK ss far 0 (ss.getD i 0) n) (fun x => !dnS ss far 0 x))
def HouseRel (w : World) (n m sb lb far : Nat) (ss : List Nat) (i : Value) (wr : World) : Prop :=
  ∃ h : Nat, h ≤ n ∧ i = .int .i64 h ∧ Hid (StQ w wr sb lb m n (fun i => prK ss far h (ss.getD i 0) n) (fun x => !dnS ss far h x))
def NearRel (w : World) (n m sb lb nb far h g : Nat) (ss : List Nat) (i : Value) (wr : World) : Prop :=
  ∃ j : Nat, j ≤ g ∧ i = .int .i64 j ∧ Hid (StQ w wr sb lb m n (inF ss far h n (awS ss h far) j) (fun x => !dnS ss far (h + 1) x)) ∧ Hid (NrQ wr sb lb nb (awS ss h far))

set_option maxHeartbeats 3200000 in
theorem iSharesOf_ok : QRow 20 shQ := by
  intro n A c m zs w hp
  obtain ⟨i0, hi0, hz0, hz1, hz2⟩ := info_parts intInfo
  have HV := Lib.hid (iValidShops_any n A c m zs w hp)
  by_cases hv : vsh n zs = true
  · obtain ⟨n, ss, rfl, rfl, hS⟩ := vsh_get hv
    rw [hv] at HV
    rw [shQ_yes hS]
    have Hm : Hid (ss.length = m) := by show _ = _; rw [← cI_length]; exact hp.len
    have hm4 : m ≤ 4 := by rw [← Hm.out]; exact hS.l4
    have hn9 := hS.n9
    have Hrd := Lib.hid hp.rd
    have HS := Lib.hid hS
    have HH := Lib.hid (fun W => housesOf_any n W hn9)
    have HAw : Hid (∀ (h far : Nat) (W : World), Below w.heap.size w W → h < n → far ≤ n → Calls Try.prog 51 #[.slice A m c, .int .i64 (h : Int), .int .i64 (far : Int)] W (RowQ (cI (awS ss h far)) W)) :=
      fun h far W hW hh hf => shopsAway_any A c m ss h far W _ hW.size (Hrd.out.below hW) Hm.out (by omega) (fun s hs => by have := hS.lt s hs; omega) (by omega) (by omega)
    clear hv hS hp
    go_enter Try.func20, Try.ntmps20
    go_wp2_with fail
    refine HV.out.mono ?_
    rintro e w1 ⟨rfl, rfl⟩
    go_wp2_with (at_make; refine wpList_make_full _ rfl _ _ 23 rfl w.heap.size 3 i0 _ 1 Try.underlying23 hi0 hz0 hz1 _ _ _ _ m rfl rfl rfl rfl (by rw [hz2]; omega) (by unfold maxLen; omega) (Nat.le_refl _) ?_; intro w2 hown2 hg2)
    rw [made_ints] at hown2
    have hblk := own_blockN hown2
    rw [rwA_zero] at hblk
    have hb2 : Below w.heap.size w w2 := (Below.refl _ _).grown hg2 (Nat.le_refl _) (fun j hj => by cases hj)
    have hlt2 : w.heap.size < w2.heap.size := (hown2.lt _ rfl).2
    have HBk := Lib.hid hblk
    have HB2 := Lib.hid hb2
    have HL2 := Lib.hid hlt2
    clear hown2 hg2 hblk hb2 hlt2
    go_wp2_with fail
    refine (HH.out w2).mono ?_
    rintro e w3 ⟨lb, rfl, hlb, hset, hb3⟩
    have HS3 : Hid (StQ w w3 w.heap.size lb m n (fun i => prK ss 0 0 (ss.getD i 0) n) (fun x => !dnS ss 0 0 x)) := by
      refine StQ.congr (f := fun _ => 0) (s := fun _ => true) ⟨(hb3.out.block _ HL2.out).trans HBk.out, ⟨n, hset.out⟩, HB2.out.trans (hb3.out.mono HB2.out.size), Nat.le_refl _, Nat.le_trans HB2.out.size hlb.out, by have := hlb.out; have := HL2.out; omega⟩ (fun i _ => (pr_start _ _ _).symm) (fun x _ => by rw [dnQ_start]; rfl)
    clear hlb hset hb3 HBk HB2 HL2
    go_wp2
    go_loopw [7] (fun i wr => FarRel w n m w.heap.size lb ss i wr) (fun i _ => n - (intOf i).toNat)
    case atStart => exact ⟨0, Nat.zero_le _, rfl, HS3⟩
    case round =>
      clear HS3
      obtain ⟨far, hfar, rfl, HT⟩ := hrel
      obtain ⟨cnt, D, hown, hat, hz⟩ := HT.out.set
      have HO := Lib.hid hown
      have Hz := Lib.hid hz
      obtain ⟨q, Hq⟩ : ∃ q, Hid (cntQ (fun x => !dnS ss far 0 x) n = q) := ⟨_, rfl⟩
      clear hown hat hz
      by_cases hq : q = 0
      · have hall : ∀ x, x < n → dnS ss far 0 x = true := fun x hx => by
          have := cntQ_none (Hq.out.trans hq) x hx
          simpa using this
        have HX := Lib.hid (HT.out.done (L := shL n ss) (by rw [← Hm.out]; simp [shL]) (fun i hi => by
          rw [pr_done hall]
          simp [shL, List.getD, List.getElem?_eq_getElem (show i < ss.length by rw [Hm.out]; exact hi)]) (by omega))
        have hq0 : ¬ ((q : Nat) : Int) > 0 := by omega
        have hq1 : decide (((q : Nat) : Int) > 0) = false := by simp; omega
        clear hall HT
        go_wp2_with (at_len; refine wpList_len_own _ rfl _ 49 rfl 3 4 Try.underlying49 _ lb cnt D rfl HO.out ?_; rw [Hz.out, Hq.out])
        go_ret
        exact HX.out
      · have hfn : far < n := by
          rcases Nat.lt_or_ge far n with h | h
          · exact h
          · exact absurd (Hq.out.symm.trans (cntQ_all_no fun x hx => by
              have e : far = n := by omega
              rw [e, dnQ_far HS.out hx]; rfl)) hq
        have HT0 : Hid (StQ w wr w.heap.size lb m n (fun i => prK ss far 0 (ss.getD i 0) n) (fun x => !dnS ss far 0 x)) := HT
        have hq1 : decide (((q : Nat) : Int) > 0) = true := by simp; omega
        have hq2 : decide (0 < q) = true := by simp; omega
        have hq3 : ((q : Nat) : Int) > 0 := by omega
        clear HT hq
        go_wp2_with (at_len; refine wpList_len_own _ rfl _ 49 rfl 3 4 Try.underlying49 _ lb cnt D rfl HO.out ?_; rw [Hz.out, Hq.out])
        clear HO Hz Hq hq1 hq2 hq3
        go_loopw [27] (fun i wr => HouseRel w n m w.heap.size lb far ss i wr) (fun i _ => n - (intOf i).toNat)
        case atStart => exact ⟨0, Nat.zero_le _, rfl, HT0⟩
        case round =>
          clear HT0
          obtain ⟨h, hh, rfl, HT⟩ := hrel
          by_cases hlt : h < n
          · go_wp2_with fail
            refine (HAw.out h far wr HT.out.bel hlt hfar).mono ?_
            rintro e w4 ⟨A4, c4, rfl, ho4, hb4⟩
            obtain ⟨A5, c5, he, -, -, hrd⟩ := own_slice ho4.out rfl
            injection he with he1 he2 he3
            subst he1 he3
            have HT4 := Lib.hid (HT.out.later hb4.out)
            have Hlen : Hid ((cI (awS ss h far)).length = (awS ss h far).length) := cI_length _
            rw [Hlen.out]
            obtain ⟨g, Hg⟩ : ∃ g, Hid ((awS ss h far).length = g) := ⟨_, rfl⟩
            have hg4 : g ≤ 4 := by
              have h1 := awK_length_le ss h far ss.length
              have h2 : (awS ss h far).length = (awK ss h far ss.length).length := rfl
              rw [← h2, Hg.out, Hm.out] at h1
              omega
            rw [Hg.out]
            by_cases hnr : nrS ss h = far
            · have hg1 : 0 < g := by have := awS_some HS.out hlt; rw [hnr, Hg.out] at this; exact this
              obtain ⟨nb, rfl⟩ : ∃ nb, A4 = some ⟨nb, 0, none⟩ := by
                obtain ⟨A6, c6, e6, -, -, h6⟩ := own_sliceN ho4.out
                injection e6 with e6 _ _
                subst e6
                obtain ⟨nb, e7, -⟩ := h6 (by rw [Hlen.out, Hg.out]; exact hg1)
                exact ⟨nb, e7⟩
              have hnb : wr.heap.size ≤ nb ∧ nb < w4.heap.size := ho4.out.lt nb rfl
              have HN : Hid (NrQ w4 w.heap.size lb nb (awS ss h far)) := by
                obtain ⟨cn, hcn⟩ := HT.out.set
                have h1 := HT.out.sb_lt
                have h2 := hcn.lt
                refine ⟨by omega, by omega, hnb.2, fun j hj => ?_⟩
                obtain ⟨b', o', s', e', -, es, hc⟩ := RdI.q hrd hj
                injection e' with e'
                injection e' with e1 e2
                subst e1 e2
                rw [Nat.zero_add] at hc
                rw [hc, es.out]
              obtain ⟨cn, hset⟩ := HT4.out.set
              have Hhas := Lib.hid (has_any w4 hset hlt hn9)
              have Hrem := Lib.hid (remove_any w4 hset hlt hn9 (by rw [(dnQ_same hnr).1]; rfl))
              rw [(dnQ_same hnr).1] at Hhas
              have hgz : ((g : Int) == 0) = false := by rw [beq_eq_false_iff_ne]; omega
              have Hnr := Lib.hid hnr
              clear ho4 hb4 hrd hnb hset HT hnr he2
              go_wp2_with fail
              refine Hhas.out.mono ?_
              rintro e w5 ⟨rfl, rfl⟩
              go_wp2_with fail
              refine Hrem.out.mono ?_
              rintro e w6 ⟨rfl, hs6, hg6⟩
              have HT6 : Hid (StQ w w6 w.heap.size lb m n (inF ss far h n (awS ss h far) 0) (fun x => !dnS ss far (h + 1) x)) := (HT4.out.taken hs6 hg6).congr (fun i _ => (inF_zero _ _ _ _ _ _).symm) (fun x hx => by
                show setQ _ _ _ _ = _
                unfold setQ
                by_cases e : x = h
                · subst e; rw [if_pos rfl, (dnQ_same Hnr.out).2]; rfl
                · rw [if_neg e, dnQ_else e])
              have HN6 := Lib.hid (HN.out.taken hg6)
              obtain ⟨v, Hv⟩ : ∃ v, Hid (12 / g = v) := ⟨_, rfl⟩
              have hdiv : Int.tdiv (12 : Int) (g : Int) = ((v : Nat) : Int) := by rw [← Hv.out]; rfl
              have hv12 : v ≤ 12 := by rw [← Hv.out]; exact Nat.div_le_self _ _
              have hgne : ¬ (g : Int) = 0 := by omega
              clear HT4 HN hs6 hg6 Hhas Hrem hgz
              go_wp2
              go_loopw [48] (fun i wr => NearRel w n m w.heap.size lb nb far h g ss i wr) (fun i _ => g - (intOf i).toNat)
              case atStart => exact ⟨0, Nat.zero_le _, rfl, HT6, HN6⟩
              case round =>
                clear HT6 HN6
                obtain ⟨j, hj, rfl, HT7, HN7⟩ := hrel
                by_cases hlj : j < g
                · obtain ⟨a, Ha⟩ : ∃ a, Hid ((awS ss h far).getD j 0 = a) := ⟨_, rfl⟩
                  have ham : a < m := by rw [← Hm.out, ← Ha.out]; exact (awS_mem.1 (getDN_mem (by rw [Hg.out]; exact hlj))).1
                  have cj := HN7.out.2.2.2 j (by rw [Hg.out]; exact hlj)
                  rw [Ha.out] at cj
                  have cs := HT7.out.cell (k := a) ham
                  have fs := frozen_of_row _ w.heap.size a _ _ HT7.out.row
                  obtain ⟨u, Hu⟩ : ∃ u, Hid (inF ss far h n (awS ss h far) j a = u) := ⟨_, rfl⟩
                  have hub := inF_le ss far h n (awS ss h far) j a
                  rw [Hu.out] at cs hub
                  have HT8 : Hid (StQ w (wr.setCell ⟨w.heap.size, a, none⟩ (.int .i64 ((u : Int) + (v : Int)))) w.heap.size lb m n (inF ss far h n (awS ss h far) (j + 1)) (fun x => !dnS ss far (h + 1) x)) := by
                    have h1 := HT7.out.write (k := a) (v := u + v) ham
                    rw [Int.natCast_add] at h1
                    refine h1.congr (fun i _ => ?_) (fun x _ => rfl)
                    rw [inF_step (awS_nodup _ _ _) (by rw [Hg.out]; exact hlj) Ha.out, Hu.out, Hg.out, Hv.out]
                  have hwu : IntKind.i64.wrap ((u : Int) + (v : Int)) = (u : Int) + (v : Int) := IntWalk.i64_in _ (by omega)
                  have hwv : IntKind.i64.wrap (v : Int) = (v : Int) := IntWalk.i64_in _ (by omega)
                  have hdiv2 : (12 : Int) / (g : Int) = ((v : Nat) : Int) := by rw [← Hv.out]; rfl
                  have HN8 := Lib.hid (HN7.out.write (k := a) (u := .int .i64 ((u : Int) + (v : Int))))
                  clear HT7 HN7
                  go_wp2
                  go_region
                  go_wp2
                  go_roundw
                  case rel => exact ⟨j + 1, by omega, by go_num, HT8.out.drew, HN8.out.drew⟩
                  case measure => simp [intOf]; omega
                · obtain rfl : j = g := by omega
                  have HT8 : Hid (StQ w wr w.heap.size lb m n (fun i => prK ss far (h + 1) (ss.getD i 0) n) (fun x => !dnS ss far (h + 1) x)) := HT7.out.congr (fun i hi => by
                    rw [← Hg.out]; exact inF_end Hnr.out hlt (by rw [Hm.out]; exact hi)) (fun x _ => rfl)
                  clear HT7 HN7
                  go_wp2
                  go_roundw
                  case rel => exact ⟨h + 1, by omega, by go_num, HT8⟩
                  case measure => simp [intOf]; omega
            · have HT5 : Hid (StQ w w4 w.heap.size lb m n (fun i => prK ss far (h + 1) (ss.getD i 0) n) (fun x => !dnS ss far (h + 1) x)) := HT4.out.congr (fun i _ => (pr_other hnr).symm) (fun x _ => by rw [dnQ_other hnr])
              by_cases hg0 : g = 0
              · have hgz : ((g : Int) == 0) = true := by rw [beq_iff_eq]; omega
                clear ho4 hb4 hrd HT HT4 hnr he2
                go_wp2
                go_roundw
                case rel => exact ⟨h + 1, by omega, by go_num, HT5⟩
                case measure => simp [intOf]; omega
              · have hgz : ((g : Int) == 0) = false := by rw [beq_eq_false_iff_ne]; omega
                obtain ⟨cn, hset⟩ := HT4.out.set
                have hdn : dnS ss far h h = true := by
                  rcases Nat.lt_or_ge far (nrS ss h) with h1 | h1
                  · have := awS_none HS.out h1
                    rw [this] at Hg
                    exact absurd Hg.out.symm hg0
                  · simp only [dnS, Bool.or_eq_true, decide_eq_true_eq]
                    left; omega
                have Hhas := Lib.hid (has_any w4 hset hlt hn9)
                rw [hdn] at Hhas
                clear ho4 hb4 hrd HT HT4 hnr he2 hset hdn
                go_wp2_with fail
                refine Hhas.out.mono ?_
                rintro e w5 ⟨rfl, rfl⟩
                go_wp2
                go_roundw
                case rel => exact ⟨h + 1, by omega, by go_num, HT5⟩
                case measure => simp [intOf]; omega
          · obtain rfl : h = n := by omega
            have HT5 : Hid (StQ w wr w.heap.size lb m h (fun i => prK ss (far + 1) 0 (ss.getD i 0) h) (fun x => !dnS ss (far + 1) 0 x)) := HT.out.congr (fun i _ => pr_next _ _ _ _) (fun x hx => by rw [dnQ_next hx])
            clear HT
            go_wp2
            go_roundw
            case rel => exact ⟨far + 1, by omega, by go_num, HT5⟩
            case measure => simp [intOf]; omega
  · have hv' : vsh n zs = false := by simpa using hv
    rw [hv'] at HV
    rw [shQ_no hv']
    clear hv hv' hp
    go_enter Try.func20, Try.ntmps20
    go_wp2_with fail
    refine HV.out.mono ?_
    rintro e w1 ⟨rfl, rfl⟩
    go_wp2
    go_ret
    exact rowQ_nil _ _ (Below.refl _ _)
end Go.Proofs.Ytoohfipicmdohaa
namespace Go.Proofs.Ytoohfipicmdohaa
open Go.ChangeShapes Go.WideShapes Go.ChangeAt Go.RowKit
set_option linter.unusedVariables false
set_option maxRecDepth 4000

/-- The number ahead of place k, 0 for none. -/
def ahQ (zs : List Int) (k : Nat) : Int := if k = 0 then 0 else zs.getD (k - 1) 0
theorem ahQ_zero (zs : List Int) : ahQ zs 0 = 0 := rfl
theorem ahQ_succ (zs : List Int) (j : Nat) : ahQ zs (j + 1) = zs.getD j 0 := by simp [ahQ]
def ValQ (b : Bool) (w : World) (e : Ending) (w' : World) : Prop := e = .returned (.bool b) ∧ Below w.heap.size w w'
set_option maxHeartbeats 1600000 in
theorem sValidShops_in : QBool 49 vsh := by
  intro n A c m zs w hp
  have Hn := Lib.hid hp.len
  have hmost := hp.most
  have hr := hp.rd
  obtain ⟨u, Hu⟩ : ∃ u, Hid (IntKind.i64.wrap (n - 1) = u) := ⟨_, rfl⟩
  have hwu := Hu.out
  have HV : Hid (vsh n zs = (okUp u 0 zs && ((decide (1 ≤ n) && decide (n ≤ 9)) && (decide (1 ≤ m) && decide (m ≤ 4))))) := by
    show _ = _
    unfold vsh
    rw [Hn.out]
    by_cases h1 : 1 ≤ n ∧ n ≤ 9
    · have e : u = n - 1 := by rw [← Hu.out]; exact IntWalk.i64_in _ (by omega)
      rw [e]
      cases okUp (n - 1) 0 zs <;> simp
    · have e : (decide (1 ≤ n) && decide (n ≤ 9)) = false := by simp; omega
      rw [e]; simp
  clear hp
  show Calls _ _ _ _ (ValQ (vsh n zs) w)
  rw [HV.out]
  go_enter Try.func49, Try.ntmps49
  go_wp2
  go_loopw [5] (fun i wr => ∃ k : Nat, ∃ q, k ≤ m ∧ Hid (okUp u 0 zs = okUp u (ahQ zs k) (zs.drop k)) ∧ Hid (0 ≤ ahQ zs k) ∧ i = .int .i64 k ∧ wr = w.drewN q) (fun i _ => m - (intOf i).toNat)
  case atStart => exact ⟨0, 0, Nat.zero_le _, rfl, (by show (0 : Int) ≤ ahQ zs 0; rw [ahQ_zero]; omega), rfl, rfl⟩
  case round =>
    obtain ⟨k, q, hk, Ho, Hp, rfl, rfl⟩ := hrel
    by_cases hlt : k < m
    · obtain ⟨b, off, x, rfl, hbw, Hx, hc⟩ := hr.x (k := k) (by rw [Hn.out]; exact hlt)
      by_cases h1 : x < 0 ∨ u < x
      · have Hs := Lib.hid (okUp_no (u := u) (a := ahQ zs k) (by rw [Hn.out]; exact hlt) Hx.out Ho.out (by have := Hp.out; omega))
        rw [Hs.out]
        go_wp2
        go_quiet ((go_at_call 63; exact quiet_gen (inRange_no _ _ _ _ h1) ⟨_, rfl⟩))
        go_wp2
        go_ret
        exact ⟨rfl, below_drew0 (below_drew0 (Below.refl _ _) _) _⟩
      · have h2 : 0 ≤ x := by omega
        have h3 : x ≤ u := by omega
        clear h1
        rcases Nat.eq_zero_or_pos k with hk0 | hk0
        · subst hk0
          rw [Nat.add_zero] at hc
          have Hs := Lib.hid (okUp_step (by rw [Hn.out]; exact hlt) Hx.out Ho.out (by rw [ahQ_zero]; exact h2) h3)
          go_wp2
          go_quiet ((go_at_call 63; exact quiet_gen (inRange_yes _ _ _ _ h2 h3) ⟨_, rfl⟩))
          go_wp2
          go_roundw
          case rel => exact ⟨1, _, by omega, (by show okUp u 0 zs = okUp u (ahQ zs (0 + 1)) (zs.drop 1); rw [ahQ_succ, Hx.out]; exact Hs.out), (by show 0 ≤ ahQ zs (0 + 1); rw [ahQ_succ, Hx.out]; exact h2), rfl, rfl⟩
          case measure => simp [intOf]; omega
        · obtain ⟨j, rfl⟩ : ∃ j, k = j + 1 := ⟨k - 1, by omega⟩
          obtain ⟨b', off', y, he, _, Hy, hcy⟩ := hr.x (k := j) (by rw [Hn.out]; omega)
          injection he with he
          injection he with he1 he2
          subst he1 he2
          have Ha := ahQ_succ zs j
          rw [Hy.out] at Ha
          by_cases hxy : x < y
          · have Hs := Lib.hid (okUp_no (u := u) (a := ahQ zs (j + 1)) (by rw [Hn.out]; exact hlt) Hx.out Ho.out (by rw [Ha]; exact .inl hxy))
            clear Ha
            rw [Hs.out]
            go_wp2
            go_quiet ((go_at_call 63; exact quiet_gen (inRange_yes _ _ _ _ h2 h3) ⟨_, rfl⟩))
            go_wp2
            go_ret
            exact ⟨rfl, below_drew0 (below_drew0 (Below.refl _ _) _) _⟩
          · have Hs := Lib.hid (okUp_step (by rw [Hn.out]; exact hlt) Hx.out Ho.out (by rw [Ha]; omega) h3)
            clear Ha
            go_wp2
            go_quiet ((go_at_call 63; exact quiet_gen (inRange_yes _ _ _ _ h2 h3) ⟨_, rfl⟩))
            go_wp2
            go_roundw
            case rel => exact ⟨j + 2, _, by omega, (by show okUp u 0 zs = okUp u (ahQ zs (j + 1 + 1)) (zs.drop (j + 1 + 1)); rw [ahQ_succ, Hx.out]; exact Hs.out), (by show 0 ≤ ahQ zs (j + 1 + 1); rw [ahQ_succ, Hx.out]; exact h2), by go_num, rfl⟩
            case measure => simp [intOf]; omega
    · obtain rfl : k = m := by omega
      have Ho' := okUp_end (by rw [Hn.out]; omega) Ho.out
      have HB : Hid (Below w.heap.size w (w.drewN q)) := below_drew0 (Below.refl _ _) _
      have H1 := Lib.hid (fun W => inRange_any n 1 9 W)
      have H2 := Lib.hid (fun W => inRange_any (k : Int) 1 4 W)
      by_cases h1 : 1 ≤ n ∧ n ≤ 9
      · have hv : (decide (1 ≤ n) && decide (n ≤ 9)) = true := by simp [h1.1, h1.2]
        have hE : (decide (1 ≤ (k : Int)) && decide ((k : Int) ≤ 4)) = (decide (1 ≤ k) && decide (k ≤ 4)) := by
          by_cases a1 : 1 ≤ k <;> by_cases a2 : k ≤ 4
          all_goals simp [a1, a2]
          all_goals omega
        obtain ⟨r, Hr⟩ : ∃ r, Hid ((decide (1 ≤ k) && decide (k ≤ 4)) = r) := ⟨_, rfl⟩
        have HE : Hid ((okUp u 0 zs && ((decide (1 ≤ n) && decide (n ≤ 9)) && (decide (1 ≤ k) && decide (k ≤ 4)))) = r) := by show _ = _; rw [Ho', hv, Hr.out]; simp
        rw [hv] at H1
        rw [hE, Hr.out] at H2
        clear hv h1 hE Ho' hwu
        cases r
        all_goals
          go_wp2_with fail
          refine (H1.out _).mono ?_
          rintro e w1 ⟨rfl, rfl⟩
          go_wp2_with fail
          refine (H2.out _).mono ?_
          rintro e w1 ⟨rfl, rfl⟩
          go_wp2
          go_ret
          exact ⟨ret_bool HE.out.symm, HB.out⟩
      · have hv : (decide (1 ≤ n) && decide (n ≤ 9)) = false := by simp; omega
        have HE : Hid ((okUp u 0 zs && ((decide (1 ≤ n) && decide (n ≤ 9)) && (decide (1 ≤ k) && decide (k ≤ 4)))) = false) := by show _ = _; rw [hv]; simp
        rw [hv] at H1
        clear hv h1 Ho' hwu
        go_wp2_with fail
        refine (H1.out _).mono ?_
        rintro e w1 ⟨rfl, rfl⟩
        go_wp2
        go_ret
        exact ⟨ret_bool HE.out.symm, HB.out⟩
theorem sValidShops_ok : QBool 17 vsh := by
  intro n A c m zs w hp
  have H := Lib.hid (sValidShops_in n A c m zs w hp)
  clear hp
  go_enter Try.func17, Try.ntmps17
  go_wp2_with fail
  refine H.out.mono ?_
  rintro e w' ⟨rfl, hb⟩
  go_wp2
  go_ret
  exact ⟨rfl, hb⟩

theorem nrS_snoc (a : List Nat) (s h : Nat) : nrS (a ++ [s]) h = min (gpS s h) (nrS a h) := by
  rw [nrS_perm (tt := s :: a) (by simp), nrS_cons]
theorem take_snocN {ss : List Nat} {k s : Nat} (hk : k < ss.length) (hs : ss.getD k 0 = s) : ss.take (k + 1) = ss.take k ++ [s] := by
  rw [List.take_succ_eq_append_getElem hk]
  congr 2
  rw [← hs]; simp [List.getD, hk]
theorem gpS_le100 {a b : Nat} (ha : a ≤ 100) (hb : b ≤ 100) : gpS a b ≤ 100 := by unfold gpS; omega
set_option maxHeartbeats 800000 in
theorem nearestQ_any (A : Option Addr) (c m h : Nat) (ss : List Nat) (w : World) (B : Nat) (hr : RdI w B A (cI ss)) (hm : ss.length = m) (h1 : 1 ≤ m) (hm4 : m ≤ 100) (hss : ∀ s ∈ ss, s ≤ 100) (hh : h ≤ 100) :
    Calls Try.prog 67 #[.slice A m c, .int .i64 (h : Int)] w fun e w' => e = .returned (.int .i64 ((nrS ss h : Nat) : Int)) ∧ w = w' := by
  have Hm := Lib.hid hm
  have Hr := Lib.hid hr
  have HG := Lib.hid (fun (k : Nat) (W : World) (hk : k < ss.length) => gapQ (ss.getD k 0) h W (hss _ (getDN_mem hk)) hh)
  have HL := Lib.hid (fun (k : Nat) (hk : k < ss.length) => gpS_le100 (hss _ (getDN_mem hk)) hh)
  obtain ⟨b0, off0, y, rfl, _, Hy, hc⟩ := Hr.out.q (k := 0) (by omega)
  have HG0 := Lib.hid (HG.out 0 w (by omega))
  have hl0 := HL.out 0 (by omega)
  rw [Hy.out] at HG0 hl0
  obtain ⟨d0, Hd0⟩ : ∃ d, Hid (gpS y h = d) := ⟨_, rfl⟩
  rw [Hd0.out] at HG0 hl0
  have H0 : Hid (nrS (ss.take 1) h = d0) := by
    show _ = _
    rw [take_snocN (k := 0) (by omega) Hy.out, nrS_snoc, Hd0.out]
    show min d0 100 = d0
    omega
  rw [Nat.add_zero] at hc
  clear hm hr hss
  go_enter Try.func67, Try.ntmps67
  go_wp2_with fail
  refine HG0.out.mono ?_
  rintro e w1 ⟨rfl, rfl⟩
  go_wp2
  go_loop [5, 6] (fun s i => ∃ k t : Nat, k < m ∧ Hid (nrS (ss.take (k + 1)) h = t) ∧ i = .int .i64 ((k + 1 : Nat) : Int) ∧ s = .int .i64 ((t : Nat) : Int)) (fun _ i => m - (intOf i).toNat)
  case atStart => exact ⟨0, d0, by omega, H0, rfl, rfl⟩
  case round =>
    obtain ⟨k, t, hk, Ht, rfl, rfl⟩ := hrel
    clear hc HG0 H0
    by_cases hlt : k + 1 < m
    · obtain ⟨b, off, z, he, _, Hz, hc⟩ := Hr.out.q (k := k + 1) (by rw [Hm.out]; exact hlt)
      injection he with he
      injection he with he1 he2
      subst he1 he2
      have HGk := Lib.hid (HG.out (k + 1) w (by rw [Hm.out]; exact hlt))
      rw [Hz.out] at HGk
      obtain ⟨d, Hd⟩ : ∃ d, Hid (gpS z h = d) := ⟨_, rfl⟩
      rw [Hd.out] at HGk
      have Hs : Hid (nrS (ss.take (k + 1 + 1)) h = min t d) := by show _ = _; rw [take_snocN (by rw [Hm.out]; exact hlt) Hz.out, nrS_snoc, Hd.out, Ht.out, Nat.min_comm]
      generalize hi : k + 1 = i at *
      go_wp2_with fail
      refine HGk.out.mono ?_
      rintro e w1 ⟨rfl, rfl⟩
      by_cases htd : d < t
      · have e1 : min t d = d := by omega
        rw [e1] at Hs
        clear e1
        go_wp2
        go_round
        case rel => exact ⟨i, d, hlt, Hs, by go_num, by first | (simp; done) | (simp; omega)⟩
        case measure => simp [intOf]; omega
      · have e1 : min t d = t := by omega
        rw [e1] at Hs
        clear e1
        go_wp2
        go_round
        case rel => exact ⟨i, t, hlt, Hs, by go_num, by first | (simp; done) | (simp; omega)⟩
        case measure => simp [intOf]; omega
    · have Hs : Hid (nrS ss h = t) := by
        have := Ht.out
        rw [List.take_of_length_le (by rw [Hm.out]; omega)] at this
        exact this
      generalize hi : k + 1 = i at *
      have hin : i = m := by omega
      subst hin
      go_wp2
      go_ret
      exact ⟨ret_int (by rw [Hs.out]), rfl⟩
/-- The row of shares. -/
structure RwQ (w wr : World) (sb m : Nat) (f : Nat → Nat) : Prop where
  row : wr.heap[sb]? = some (.cells (rwA f m) 3 (0, 0))
  bel : Below w.heap.size w wr
  lo : w.heap.size ≤ sb
theorem RwQ.congr {w wr : World} {sb m : Nat} {f f' : Nat → Nat} (h : RwQ w wr sb m f) (hf : ∀ i, i < m → f i = f' i) : RwQ w wr sb m f' := ⟨by rw [← rwA_congr hf]; exact h.row, h.bel, h.lo⟩
theorem RwQ.write {w wr : World} {sb m k v : Nat} {f : Nat → Nat} (h : RwQ w wr sb m f) (hk : k < m) : RwQ w (wr.setCell ⟨sb, k, none⟩ (.int .i64 ((v : Nat) : Int))) sb m (fun j => if j = k then v else f j) :=
  ⟨by rw [heap_setCell_same _ _ _ _ _ _ h.row, rwA_set hk], h.bel.setCell h.lo _, h.lo⟩
theorem RwQ.drew {w wr : World} {sb m : Nat} {f : Nat → Nat} (h : RwQ w wr sb m f) : RwQ w wr.drew sb m f := ⟨h.row, h.bel.drew, h.lo⟩
theorem RwQ.cell {w wr : World} {sb m k : Nat} {f : Nat → Nat} (h : RwQ w wr sb m f) (hk : k < m) : wr.cell? ⟨sb, k, none⟩ = some (.int .i64 ((f k : Nat) : Int)) := (cell_of_row _ _ _ _ _ _ h.row).trans (rwA_get hk)
theorem RwQ.done {w wr : World} {sb m : Nat} {f : Nat → Nat} (h : RwQ w wr sb m f) {L : List Nat} (hL : L.length = m) (hf : ∀ i, i < m → f i = L.getD i 0) (hm : m ≤ 1000) : RowQ (cI L) w (.returned (.slice (some ⟨sb, 0, none⟩) m m)) wr := by
  have e : rwA f m = ((cI L).map (Value.int .i64)).toArray := by
    rw [rwA_congr hf]
    unfold rwA cI
    congr 1
    apply List.ext_getElem?
    intro i
    by_cases hi : i < m
    · simp [hi, List.getD, List.getElem?_eq_getElem (show i < L.length by omega)]
    · simp [hi, List.getElem?_eq_none (show L.length ≤ i by omega)]
  have hl : (cI L).length = m := by rw [cI_length]; exact hL
  refine ⟨_, _, by rw [hl], ⟨?_, .inr ⟨sb, m, _, by rw [hl], h.lo, h.row, by rw [hl]; exact Nat.le_refl _, by unfold maxLen; omega, ?_, ?_⟩⟩, h.bel⟩
  · rw [List.length_map, Nat.mul_one]
  · rw [rwA_size, Nat.mul_one]
  · rw [e, hl, Nat.mul_one, List.take_of_length_le (by rw [List.length_map]; omega)]
theorem ctS_snoc (a : List Nat) (s h d : Nat) : ctS (a ++ [s]) h d = ctS a h d + if gpS s h = d then 1 else 0 := by
  unfold ctS
  rw [List.countP_append]
  by_cases e : gpS s h = d <;> simp [e]
theorem ctS_pos {ss : List Nat} {j h d : Nat} (hj : j < ss.length) (e : gpS (ss.getD j 0) h = d) : 0 < ctS ss h d := List.countP_pos_iff.2 ⟨_, getDN_mem hj, by simp only [e, beq_self_eq_true]⟩
theorem ctS_le (ss : List Nat) (h d : Nat) : ctS ss h d ≤ ss.length := List.countP_le_length
def HoRel (w : World) (ss : List Nat) (n m sb : Nat) (i : Value) (wr : World) : Prop :=
  ∃ h : Nat, h ≤ n ∧ i = .int .i64 ((h : Nat) : Int) ∧ Hid (RwQ w wr sb m (fun i => shK ss (ss.getD i 0) h))
def KoRel (ss : List Nat) (h d m : Nat) (a b : Value) : Prop :=
  ∃ i k : Nat, i ≤ m ∧ k ≤ i ∧ a = .int .i64 ((k : Nat) : Int) ∧ b = .int .i64 ((i : Nat) : Int) ∧ Hid (ctS (ss.take i) h d = k)
def AoRel (w : World) (ss : List Nat) (h m sb : Nat) (b : Value) (wr : World) : Prop :=
  ∃ j : Nat, j ≤ m ∧ b = .int .i64 ((j : Nat) : Int) ∧ Hid (RwQ w wr sb m (fun i => shK ss (ss.getD i 0) h + if i < j then ptS ss h (ss.getD i 0) else 0))
set_option maxHeartbeats 3200000 in
theorem sShares_any (n m c : Nat) (A : Option Addr) (ss : List Nat) (w : World) (hr : RdI w w.heap.size A (cI ss)) (hm : ss.length = m) (h1 : 1 ≤ m) (hm4 : m ≤ 10) (hn9 : n ≤ 9) (hss : ∀ s ∈ ss, s < n) :
    Calls Try.prog 54 #[.int .i64 (n : Int), .slice A m c] w (RowQ (cI (shL n ss)) w) := by
  obtain ⟨i0, hi0, hz0, hz1, hz2⟩ := info_parts intInfo
  have Hm := Lib.hid hm
  have Hr := Lib.hid hr
  have HG : Hid (∀ (k h : Nat) (W : World), k < m → h < n → Calls Try.prog 68 #[.int .i64 ((ss.getD k 0 : Nat) : Int), .int .i64 (h : Int)] W fun e w' => e = .returned (.int .i64 ((gpS (ss.getD k 0) h : Nat) : Int)) ∧ W = w') :=
    fun k h W hk hh => gapQ (ss.getD k 0) h W (by have := hss _ (getDN_mem (show k < ss.length by omega)); omega) (by omega)
  have HN : Hid (∀ (h : Nat) (W : World), Below w.heap.size w W → h < n → Calls Try.prog 67 #[.slice A m c, .int .i64 (h : Int)] W fun e w' => e = .returned (.int .i64 ((nrS ss h : Nat) : Int)) ∧ W = w') :=
    fun h W hW hh => nearestQ_any A c m h ss W _ (Hr.out.below hW) hm h1 (by omega) (fun s hs => by have := hss s hs; omega) (by omega)
  have hmn : ¬ (m : Int) < 0 := by omega
  clear hm hr hss
  go_enter Try.func54, Try.ntmps54
  go_wp2_with (at_make; refine wpList_make_full _ rfl _ _ 23 rfl w.heap.size 3 i0 _ 1 Try.underlying23 hi0 hz0 hz1 _ _ _ _ m rfl rfl rfl rfl (by rw [hz2]; omega) (by unfold maxLen; omega) (Nat.le_refl _) ?_; intro w2 hown2 hg2)
  rw [made_ints] at hown2
  have hblk := own_blockN hown2
  rw [rwA_zero] at hblk
  have HR0 : Hid (RwQ w w2 w.heap.size m (fun i => shK ss (ss.getD i 0) 0)) := ⟨hblk, (Below.refl _ _).grown hg2 (Nat.le_refl _) (fun j hj => by cases hj), Nat.le_refl _⟩
  clear hown2 hg2 hblk
  go_wp2
  go_loopw [6] (fun i wr => HoRel w ss n m w.heap.size i wr) (fun i _ => n - (intOf i).toNat)
  case atStart => exact ⟨0, Nat.zero_le _, rfl, HR0⟩
  case round =>
    clear HR0
    obtain ⟨h, hh, rfl, HR⟩ := hrel
    by_cases hlt : h < n
    · obtain ⟨d, Hd⟩ : ∃ d, Hid (nrS ss h = d) := ⟨_, rfl⟩
      have HNh := Lib.hid (HN.out h wr HR.out.bel hlt)
      rw [Hd.out] at HNh
      go_wp2_with fail
      refine HNh.out.mono ?_
      rintro e w1 ⟨rfl, rfl⟩
      go_wp2
      go_loop [8, 9] (fun a b => KoRel ss h d m a b) (fun _ b => m - (intOf b).toNat)
      case atStart => exact ⟨0, 0, Nat.zero_le _, Nat.le_refl _, rfl, rfl, rfl⟩
      case round =>
        obtain ⟨i, k, hi, hki, rfl, rfl, HK⟩ := hrel
        by_cases hli : i < m
        · obtain ⟨b, off, s, rfl, _, Hs, hc⟩ := (Hr.out.below HR.out.bel).q (k := i) (by rw [Hm.out]; exact hli)
          have HGi := Lib.hid (HG.out i h wr hli hlt)
          rw [Hs.out] at HGi
          obtain ⟨p, Hp⟩ : ∃ p, Hid (gpS s h = p) := ⟨_, rfl⟩
          rw [Hp.out] at HGi
          have HK2 : Hid (ctS (ss.take (i + 1)) h d = k + if p = d then 1 else 0) := by show _ = _; rw [take_snocN (by rw [Hm.out]; exact hli) Hs.out, ctS_snoc, HK.out, Hp.out]
          go_wp2_with fail
          refine HGi.out.mono ?_
          rintro e w1 ⟨rfl, rfl⟩
          by_cases hpd : p = d
          · have ht : ((p : Int) == (d : Int)) = true := by rw [beq_iff_eq]; omega
            rw [if_pos hpd] at HK2
            clear hpd
            go_wp2
            go_round
            case rel => exact ⟨i + 1, k + 1, by omega, by omega, by go_num, by go_num, HK2⟩
            case measure => simp [intOf]; omega
          · have ht : ((p : Int) == (d : Int)) = false := by rw [beq_eq_false_iff_ne]; omega
            rw [if_neg hpd, Nat.add_zero] at HK2
            clear hpd
            go_wp2
            go_round
            case rel => exact ⟨i + 1, k, by omega, by omega, rfl, by go_num, HK2⟩
            case measure => simp [intOf]; omega
        · obtain rfl : i = m := by omega
          have HK2 : Hid (ctS ss h d = k) := by have := HK.out; rw [List.take_of_length_le (by rw [Hm.out]; exact Nat.le_refl _)] at this; exact this
          have HR1 : Hid (RwQ w wr w.heap.size i (fun t => shK ss (ss.getD t 0) h + if t < 0 then ptS ss h (ss.getD t 0) else 0)) := HR.out.congr fun t _ => by rw [if_neg (by omega), Nat.add_zero]
          clear HK HR
          go_wp2
          go_loopw [10] (fun b wr => AoRel w ss h i w.heap.size b wr) (fun b _ => i - (intOf b).toNat)
          case atStart => exact ⟨0, Nat.zero_le _, rfl, HR1⟩
          case round =>
            clear HR1
            obtain ⟨j, hj, rfl, HR⟩ := hrel
            by_cases hlj : j < i
            · obtain ⟨b, off, s, rfl, _, Hs, hc⟩ := (Hr.out.below HR.out.bel).q (k := j) (by rw [Hm.out]; exact hlj)
              have HGi := Lib.hid (HG.out j h wr hlj hlt)
              rw [Hs.out] at HGi
              obtain ⟨p, Hp⟩ : ∃ p, Hid (gpS s h = p) := ⟨_, rfl⟩
              rw [Hp.out] at HGi
              go_wp2_with fail
              refine HGi.out.mono ?_
              rintro e w1 ⟨rfl, rfl⟩
              by_cases hpd : p = d
              · have ht : ((p : Int) == (d : Int)) = true := by rw [beq_iff_eq]; omega
                have hk1 : 0 < k := by rw [← HK2.out]; exact ctS_pos (j := j) (by rw [Hm.out]; exact hlj) (by rw [Hs.out, Hp.out]; exact hpd)
                have hpt : ptS ss h s = 12 / k := by unfold ptS; rw [Hp.out, Hd.out, if_pos hpd, HK2.out]
                have cs := HR.out.cell (k := j) hlj
                rw [if_neg (Nat.lt_irrefl j), Nat.add_zero] at cs
                have fs := frozen_of_row _ w.heap.size j _ _ HR.out.row
                obtain ⟨u, Hu⟩ : ∃ u, Hid (shK ss (ss.getD j 0) h = u) := ⟨_, rfl⟩
                have hub := shK_le ss (ss.getD j 0) h
                rw [Hu.out] at cs hub
                obtain ⟨v, Hv⟩ : ∃ v, Hid (12 / k = v) := ⟨_, rfl⟩
                have hdiv : Int.tdiv (12 : Int) (k : Int) = ((v : Nat) : Int) := by rw [← Hv.out]; rfl
                have hdiv2 : (12 : Int) / (k : Int) = ((v : Nat) : Int) := by rw [← Hv.out]; rfl
                have hv12 : v ≤ 12 := by rw [← Hv.out]; exact Nat.div_le_self _ _
                have hkne : ¬ (k : Int) = 0 := by omega
                have HR2 : Hid (RwQ w (wr.setCell ⟨w.heap.size, j, none⟩ (.int .i64 ((u : Int) + (v : Int)))) w.heap.size i (fun t => shK ss (ss.getD t 0) h + if t < j + 1 then ptS ss h (ss.getD t 0) else 0)) := by
                  have h1 := HR.out.write (k := j) (v := u + v) hlj
                  rw [Int.natCast_add] at h1
                  refine h1.congr fun t _ => ?_
                  by_cases e : t = j
                  · subst e; rw [if_pos rfl, if_pos (by omega), Hu.out, Hs.out, hpt, Hv.out]
                  · rw [if_neg e]
                    congr 1
                    by_cases e2 : t < j
                    · rw [if_pos e2, if_pos (by omega)]
                    · rw [if_neg e2, if_neg (by omega)]
                have hwu : IntKind.i64.wrap ((u : Int) + (v : Int)) = (u : Int) + (v : Int) := IntWalk.i64_in _ (by omega)
                have hwv : IntKind.i64.wrap (v : Int) = (v : Int) := IntWalk.i64_in _ (by omega)
                clear HR hpd hpt
                go_wp2
                go_region
                go_wp2
                go_roundw
                case rel => exact ⟨j + 1, by omega, by go_num, HR2.out.drew⟩
                case measure => simp [intOf]; omega
              · have ht : ((p : Int) == (d : Int)) = false := by rw [beq_eq_false_iff_ne]; omega
                have hpt : ptS ss h s = 0 := by unfold ptS; rw [Hp.out, Hd.out, if_neg hpd]
                have HR2 : Hid (RwQ w wr w.heap.size i (fun t => shK ss (ss.getD t 0) h + if t < j + 1 then ptS ss h (ss.getD t 0) else 0)) := HR.out.congr fun t _ => by
                  congr 1
                  by_cases e : t = j
                  · subst e; rw [if_neg (by omega), if_pos (by omega), Hs.out, hpt]
                  · by_cases e2 : t < j
                    · rw [if_pos e2, if_pos (by omega)]
                    · rw [if_neg e2, if_neg (by omega)]
                clear HR hpd hpt
                go_wp2
                go_roundw
                case rel => exact ⟨j + 1, by omega, by go_num, HR2⟩
                case measure => simp [intOf]; omega
            · obtain rfl : j = i := by omega
              have HR2 : Hid (RwQ w wr w.heap.size j (fun t => shK ss (ss.getD t 0) (h + 1))) := HR.out.congr fun t ht => by rw [if_pos ht]; rfl
              clear HR
              go_wp2
              go_roundw
              case rel => exact ⟨h + 1, by omega, by go_num, HR2⟩
              case measure => simp [intOf]; omega
    · obtain rfl : h = n := by omega
      have HX := Lib.hid (HR.out.done (L := shL h ss) (by rw [← Hm.out]; simp [shL]) (fun i hi => by
        simp [shL, List.getD, List.getElem?_eq_getElem (show i < ss.length by rw [Hm.out]; exact hi)]) (by omega))
      go_wp2
      go_ret
      exact HX.out
theorem sSharesOf_ok : QRow 22 shQ := by
  intro n A c m zs w hp
  have HV := Lib.hid (sValidShops_in n A c m zs w hp)
  by_cases hv : vsh n zs = true
  · obtain ⟨n, ss, rfl, rfl, hS⟩ := vsh_get hv
    rw [hv] at HV
    rw [shQ_yes hS]
    have hm : ss.length = m := by rw [← cI_length]; exact hp.len
    have hl1 := hS.l1
    have hl4 := hS.l4
    have HS := Lib.hid (fun (W : World) (hW : Below w.heap.size w W) => sShares_any n m c A ss W ((hp.later hW).rd) hm (by omega) (by omega) hS.n9 hS.lt)
    clear hv hS hp hm
    go_enter Try.func22, Try.ntmps22
    go_wp2_with fail
    refine HV.out.mono ?_
    rintro e w1 ⟨rfl, hb1⟩
    have HB1 := Lib.hid hb1
    clear hb1
    go_wp2_with fail
    refine (HS.out w1 HB1.out).mono ?_
    intro e w2 hq
    have HQ := Lib.hid (hq.from HB1.out)
    obtain ⟨A2, c2, rfl, -, -⟩ := hq
    go_wp2
    go_ret
    exact HQ.out
  · have hv' : vsh n zs = false := by simpa using hv
    rw [hv'] at HV
    rw [shQ_no hv']
    clear hv hv' hp
    go_enter Try.func22, Try.ntmps22
    go_wp2_with fail
    refine HV.out.mono ?_
    rintro e w1 ⟨rfl, hb1⟩
    go_wp2
    go_ret
    exact rowQ_nil _ _ hb1
end Go.Proofs.Ytoohfipicmdohaa
namespace Go.Proofs.Ytoohfipicmdohaa
open Go.ChangeShapes Go.WideShapes Go.ChangeAt Go.RowKit
set_option linter.unusedVariables false
set_option maxRecDepth 4000

theorem ascS_mem {p : Nat} : ∀ {ss : List Nat} {a : Nat}, ascS a ss = true → p ≤ a → ∀ s ∈ ss, p ≤ s
  | [], _, _, _, s, hs => by cases hs
  | t :: r, a, h, hp, s, hs => by
    simp only [ascS, Bool.and_eq_true, decide_eq_true_eq] at h
    rcases List.mem_cons.1 hs with rfl | hs
    · omega
    · exact ascS_mem (a := t) h.2 (by omega) s hs
theorem kS_below : ∀ {ss : List Nat} {p t : Nat}, t < kS ss p → ss.getD t 0 < p
  | [], _, _, h => by simp [kS] at h
  | s :: r, p, t, h => by
    simp only [kS] at h
    by_cases hs : s < p
    · rw [if_pos hs] at h
      cases t with
      | zero => simpa [List.getD] using hs
      | succ t =>
        have := kS_below (ss := r) (p := p) (t := t) (by omega)
        simpa [List.getD] using this
    · rw [if_neg hs] at h; omega
theorem kS_from : ∀ {ss : List Nat} {a p t : Nat}, ascS a ss = true → kS ss p ≤ t → t < ss.length → p ≤ ss.getD t 0
  | [], _, _, _, _, _, h => by simp at h
  | s :: r, a, p, t, ha, h, hl => by
    simp only [kS] at h
    by_cases hs : s < p
    · rw [if_pos hs] at h
      simp only [ascS, Bool.and_eq_true, decide_eq_true_eq] at ha
      cases t with
      | zero => omega
      | succ t =>
        have := kS_from (ss := r) (a := s) (p := p) (t := t) ha.2 (by omega) (by simpa using hl)
        simpa [List.getD] using this
    · have hall := ascS_mem (p := p) (ss := s :: r) (a := p) (by
        simp only [ascS, Bool.and_eq_true, decide_eq_true_eq] at ha ⊢
        exact ⟨by omega, ha.2⟩) (Nat.le_refl _)
      exact hall _ (getDN_mem hl)
def BsPost (k : Nat) (w : World) (e : Ending) (w' : World) : Prop := ∃ b, e = .returned (.tuple #[.int .i64 ((k : Nat) : Int), .bool b]) ∧ w = w'
def BsRel (ss : List Nat) (p m : Nat) (a b : Value) : Prop := ∃ i j : Nat, a = .int .i64 i ∧ b = .int .i64 j ∧ i ≤ j ∧ j ≤ m ∧ Hid (i ≤ kS ss p ∧ kS ss p ≤ j)
set_option maxHeartbeats 800000 in
theorem bsearch_any (A : Option Addr) (c m p : Nat) (ss : List Nat) (w : World) (B : Nat) (hr : RdI w B A (cI ss)) (hm : ss.length = m) (hm4 : m ≤ 100) (ha : ascS 0 ss = true) (hp : p ≤ 100) :
    Calls Try.prog 69 #[.slice A m c, .int .i64 (p : Int)] w (BsPost (kS ss p) w) := by
  have Hm := Lib.hid hm
  have Hr := Lib.hid hr
  have Hlo := Lib.hid (fun t (h : t < kS ss p) => kS_below h)
  have Hhi := Lib.hid (fun t (h : kS ss p ≤ t) (hl : t < ss.length) => kS_from ha h hl)
  have hk := kS_le ss p
  rw [hm] at hk
  have Hk := Lib.hid hk
  obtain ⟨K, HK⟩ : ∃ K, Hid (kS ss p = K) := ⟨_, rfl⟩
  clear hm hr ha hk
  rw [HK.out]
  go_enter Try.func69, Try.ntmps69
  go_wp2
  go_loop [7, 8] (fun a b => BsRel ss p m a b) (fun a b => (intOf b).toNat - (intOf a).toNat)
  case atStart => exact ⟨0, m, rfl, rfl, Nat.zero_le _, Nat.le_refl _, Nat.zero_le _, Hk.out⟩
  case round =>
    obtain ⟨i, j, rfl, rfl, hij, hjm, HI⟩ := hrel
    by_cases hlt : i < j
    · obtain ⟨h, Hh⟩ : ∃ h, Hid ((i + j) / 2 = h) := ⟨_, rfl⟩
      have hh1 : i ≤ h := by have := Hh.out; omega
      have hh2 : h < j := by have := Hh.out; omega
      have e1 : IntKind.u64.wrap ((i : Int) + (j : Int)) = (i : Int) + (j : Int) := by rw [IntKind.wrap_u64]; omega
      have e2 : ((i : Int) + (j : Int)) / 2 = (h : Int) := by have := Hh.out; omega
      have e3 : IntKind.u64.wrap (h : Int) = (h : Int) := by rw [IntKind.wrap_u64]; omega
      have e4 : IntKind.i64.wrap (h : Int) = (h : Int) := IntWalk.i64_in _ (by omega)
      have e5 : IntKind.i64.wrap ((i : Int) + (j : Int)) = (i : Int) + (j : Int) := IntWalk.i64_in _ (by omega)
      obtain ⟨b, off, s, rfl, hbw, Hs, hc⟩ := Hr.out.q (k := h) (by rw [Hm.out]; omega)
      have hne : ∀ x : Int, (x != x) = false := fun x => by simp
      by_cases hsp : s < p
      · have HI2 : Hid (h + 1 ≤ kS ss p ∧ kS ss p ≤ j) := by
          refine ⟨?_, HI.out.2⟩
          rcases Nat.lt_or_ge h (kS ss p) with h1 | h1
          · exact h1
          · have := Hhi.out h h1 (by rw [Hm.out]; omega)
            rw [Hs.out] at this; omega
        go_wp2
        go_round
        case rel => exact ⟨h + 1, j, by go_num, rfl, by omega, hjm, HI2⟩
        case measure => simp [intOf]; omega
      · have HI2 : Hid (i ≤ kS ss p ∧ kS ss p ≤ h) := by
          refine ⟨HI.out.1, ?_⟩
          rcases Nat.lt_or_ge h (kS ss p) with h1 | h1
          · have := Hlo.out h h1
            rw [Hs.out] at this; omega
          · exact h1
        go_wp2
        go_round
        case rel => exact ⟨i, h, rfl, rfl, hh1, by omega, HI2⟩
        case measure => simp [intOf]; omega
    · obtain rfl : i = j := by omega
      have hiK : i = K := by have := HI.out; have := HK.out; omega
      by_cases him : i < m
      · obtain ⟨b, off, s, rfl, hbw, Hs, hc⟩ := Hr.out.q (k := i) (by rw [Hm.out]; exact him)
        have hne : ∀ x : Int, (x != x) = false := fun x => by simp
        by_cases hsp : s = p
        · have ht : ((s : Int) == (p : Int)) = true := by rw [beq_iff_eq]; omega
          subst hiK
          clear hsp
          go_wp2
          go_ret2
          exact ⟨_, rfl, rfl⟩
        · have ht : ((s : Int) == (p : Int)) = false := by rw [beq_eq_false_iff_ne]; omega
          subst hiK
          clear hsp
          go_wp2
          go_ret2
          exact ⟨_, rfl, rfl⟩
      · subst hiK
        go_wp2
        go_ret2
        exact ⟨_, rfl, rfl⟩
end Go.Proofs.Ytoohfipicmdohaa
namespace Go.Proofs.Ytoohfipicmdohaa
open Go.ChangeShapes Go.WideShapes Go.ChangeAt Go.RowKit
set_option linter.unusedVariables false
set_option maxRecDepth 4000

def renQ : Go.Shelf.Ren := ⟨fun | 21 => 70 | 27 => 76 | 28 => 77 | 35 => 79 | 39 => 80 | n => n, fun | 0 => 0 | 3 => 3 | 4 => 4 | 22 => 23 | n => n, fun n => n⟩
theorem laysQ : Lays2.n21 Try.prog renQ := {
  mixed := by kernel_rfl
  f21 := by kernel_rfl
  f27 := by kernel_rfl
  f28 := by kernel_rfl
  f35 := by kernel_rfl
  f39 := by kernel_rfl
  t0 := Try.underlying0
  a0 := Try.isAgg0
  z0 := Try.sizeOf0
  v0 := Try.zeroValue0
  t3 := Try.underlying3
  a3 := Try.isAgg3
  z3 := Try.sizeOf3
  v3 := Try.zeroValue3
  t4 := Try.underlying4
  a4 := Try.isAgg4
  z4 := Try.sizeOf4
  v4 := Try.zeroValue4
  t22 := Try.underlying23
  a22 := Try.isAgg23
  z22 := Try.sizeOf23
  v22 := Try.zeroValue23
  i3 := by kernel_rfl }
set_option maxHeartbeats 400000 in
theorem cloneQ_any (b off c n : Nat) (zs : List Int) (w : World) (hn : zs.length = n) (hb : n ≤ 1000) (hbl : b < w.heap.size) (hc : ∀ i, i < n → w.cell? ⟨b, off + i, none⟩ = some (.int .i64 (zs.getD i 0))) :
    Calls Try.prog 71 #[.slice (some ⟨b, off, none⟩) n c] w (RowQ zs w) := by
  obtain ⟨i0, hi0, hz0, hz1, hz2⟩ := info_parts intInfo
  have Hn := Lib.hid hn
  have Hc := Lib.hid hc
  clear hn hc
  have hnil := fun W : World => Lib.run_eql_slice_nil (P := Try.prog) W 23 3 (some ⟨b, off, none⟩) n c 0 0 Try.underlying23
  go_enter Try.func71, Try.ntmps71
  have hown0 : (w.alloc (.cells #[] 3)).ownsRow w.heap.size 3 1 (.slice (some ⟨w.heap.size, 0, none⟩) 0 0) 0 [] := World.ownsRow_lit w #[] 0 (Nat.le_refl _) (by decide) rfl
  have hsrc : ∀ j u, (zs.map (Value.int .i64))[j]? = some u → (w.alloc (.cells #[] 3)).cell? ((⟨b, off, none⟩ : Addr).add j) = some u := by
    intro j u hu
    rw [List.getElem?_map] at hu
    obtain ⟨x, hx, rfl⟩ := Option.map_eq_some_iff.1 hu
    have hj : j < zs.length := (List.getElem?_eq_some_iff.1 hx).1
    have he : (⟨b, off, none⟩ : Addr).add j = ⟨b, off + j, none⟩ := by unfold Addr.add; split <;> simp_all
    rw [he, World.cell?_alloc_lt w _ _ hbl, Hc.out j (by rw [← Hn.out]; exact hj)]
    simp [List.getD, hx]
  have h1 : ∀ u ∈ zs.map (Value.int .i64), u.oneCell' = true := by
    intro u hu
    obtain ⟨x, _, rfl⟩ := List.mem_map.1 hu
    rfl
  have hl : (zs.map (Value.int .i64)).length = n * 1 := by rw [List.length_map, Hn.out, Nat.mul_one]
  have Hsrc := Lib.hid hsrc
  have H1 := Lib.hid h1
  have Hl := Lib.hid hl
  have Hown0 := Lib.hid hown0
  clear hsrc h1 hl hown0
  go_wp2_with (at_builtin; refine wpList_append_own _ rfl _ _ 23 rfl w.heap.size 3 i0 (.int .i64 0) 1 8 Try.underlying23 hi0 hz0 hz1 hz2 rfl (by decide) _ _ _ rfl Hown0.out ⟨b, off, none⟩ n c (zs.map (Value.int .i64)) rfl Hl.out Hsrc.out H1.out (by unfold maxLen; omega) (by omega) (by simp) ?_; intro v' w1 hown' hgrow _)
  have hnx : Below w.heap.size w w1 := ((Below.refl _ _).alloc (Nat.le_refl _) _).grown hgrow (by simp) (fun g h => by cases h; exact Nat.le_refl _)
  have Hown' := Lib.hid hown'
  clear hown' hgrow
  go_wp2
  go_ret
  have h := Hown'.out
  rw [Nat.zero_add, List.nil_append] at h
  obtain ⟨A2, c2, rfl, -, -, -⟩ := own_slice h Hn.out
  exact ⟨A2, c2, by rw [Hn.out]; rfl, by rw [Hn.out]; exact h, hnx⟩
end Go.Proofs.Ytoohfipicmdohaa
