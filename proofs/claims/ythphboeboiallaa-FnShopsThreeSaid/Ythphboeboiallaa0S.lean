/-
  SharesOf of the program, walked: from near to far, house by house.
  Conditions: fewer than 2^20 numbers.
-/
import Derived.Test.Ythphboeboiallaa0J
import Derived.Test.Ythphboeboiallaa0RW
namespace Go.Proofs.Ythphboeboiallaa
open Go.ChangeShapes Go.WideShapes Go.ChangeAt Go.RowKit Go.Maps
set_option linter.unusedVariables false
set_option maxRecDepth 4000

/-- The row, the set, and what stays. -/
structure StQ (w wr : World) (sb lb m n : Nat) (f : Nat → Nat) (s : Nat → Bool) : Prop where
  row : wr.heap[sb]? = some (.cells (rwA f m) 3 (0, 0))
  set : ∃ cnt, SetQ wr lb cnt n s
  bel : Below w.heap.size w wr
  lo : w.heap.size ≤ sb ∧ w.heap.size ≤ lb ∧ sb ≠ lb
theorem StQ.sb_lt {w wr : World} {sb lb m n : Nat} {f : Nat → Nat} {s : Nat → Bool} (h : StQ w wr sb lb m n f s) : sb < wr.heap.size := by
  have := h.row
  rcases Nat.lt_or_ge sb wr.heap.size with hl | hl
  · exact hl
  · rw [Array.getElem?_eq_none hl] at this; cases this
theorem StQ.later {w wr w2 : World} {sb lb m n : Nat} {f : Nat → Nat} {s : Nat → Bool} (h : StQ w wr sb lb m n f s) (hb : Below wr.heap.size wr w2) : StQ w w2 sb lb m n f s :=
  ⟨(hb.block _ h.sb_lt).trans h.row, by obtain ⟨c, hc⟩ := h.set; exact ⟨c, hc.below hb⟩, h.bel.trans (hb.mono h.bel.size), h.lo⟩
theorem StQ.congr {w wr : World} {sb lb m n : Nat} {f f' : Nat → Nat} {s s' : Nat → Bool} (h : StQ w wr sb lb m n f s) (hf : ∀ i, i < m → f i = f' i) (hs : ∀ x, x < n → s x = s' x) : StQ w wr sb lb m n f' s' :=
  ⟨by rw [← rwA_congr hf]; exact h.row, by obtain ⟨c, hc⟩ := h.set; exact ⟨c, hc.congr hs⟩, h.bel, h.lo⟩
theorem StQ.write {w wr : World} {sb lb m n k v : Nat} {f : Nat → Nat} {s : Nat → Bool} (h : StQ w wr sb lb m n f s) (hk : k < m) : StQ w (wr.setCell ⟨sb, k, none⟩ (.int .i64 ((v : Nat) : Int))) sb lb m n (fun j => if j = k then v else f j) s := by
  refine ⟨?_, ?_, h.bel.setCell h.lo.1 _, h.lo⟩
  · rw [heap_setCell_same _ _ _ _ _ _ h.row, rwA_set hk]
  · obtain ⟨c, hc⟩ := h.set
    exact ⟨c, hc.setCell (fun e => h.lo.2.2 e.symm) _⟩
theorem StQ.drew {w wr : World} {sb lb m n : Nat} {f : Nat → Nat} {s : Nat → Bool} (h : StQ w wr sb lb m n f s) : StQ w wr.drew sb lb m n f s := ⟨h.row, by obtain ⟨c, hc⟩ := h.set; exact ⟨c, hc⟩, h.bel.drew, h.lo⟩
theorem StQ.cell {w wr : World} {sb lb m n k : Nat} {f : Nat → Nat} {s : Nat → Bool} (h : StQ w wr sb lb m n f s) (hk : k < m) : wr.cell? ⟨sb, k, none⟩ = some (.int .i64 ((f k : Nat) : Int)) := (cell_of_row _ _ _ _ _ _ h.row).trans (rwA_get hk)
theorem StQ.taken {w wr w2 : World} {sb lb m n : Nat} {f : Nat → Nat} {s s' : Nat → Bool} {c : Nat} (h : StQ w wr sb lb m n f s) (hs : SetQ w2 lb c n s') (hg : wr.grownBy w2 (some lb)) : StQ w w2 sb lb m n f s' :=
  ⟨(hg.block _ h.sb_lt (by intro e; injection e with e; exact h.lo.2.2 e)).trans h.row, ⟨c, hs⟩, h.bel.grown hg h.bel.size (fun k hk => by injection hk with hk; rw [← hk]; exact h.lo.2.1), h.lo⟩
theorem StQ.done {w wr : World} {sb lb m n : Nat} {f : Nat → Nat} {s : Nat → Bool} (h : StQ w wr sb lb m n f s) {L : List Nat} (hL : L.length = m) (hf : ∀ i, i < m → f i = L.getD i 0) (hm : m ≤ 1000) : RowQ (cI L) w (.returned (.slice (some ⟨sb, 0, none⟩) m m)) wr := by
  have e : rwA f m = ((cI L).map (Value.int .i64)).toArray := by
    rw [rwA_congr hf]
    unfold rwA cI
    congr 1
    apply List.ext_getElem?
    intro i
    by_cases hi : i < m
    · simp [hi, List.getD, List.getElem?_eq_getElem (show i < L.length by omega)]
    · simp [hi, List.getElem?_eq_none (show L.length ≤ i by omega)]
  have hl : (cI L).length = m := by rw [cI_length]; exact hL
  refine ⟨_, _, by rw [hl], ⟨?_, .inr ⟨sb, m, _, by rw [hl], h.lo.1, h.row, by rw [hl]; exact Nat.le_refl _, by unfold maxLen; omega, ?_, ?_⟩⟩, h.bel⟩
  · rw [List.length_map, Nat.mul_one]
  · rw [rwA_size, Nat.mul_one]
  · rw [e, hl, Nat.mul_one, List.take_of_length_le (by rw [List.length_map]; omega)]
/-- Nearest shops as they are gone through. -/
def NrQ (wr : World) (sb lb nb : Nat) (L : List Nat) : Prop := nb ≠ sb ∧ nb ≠ lb ∧ nb < wr.heap.size ∧ ∀ j, j < L.length → wr.cell? ⟨nb, j, none⟩ = some (.int .i64 ((L.getD j 0 : Nat) : Int))
theorem NrQ.write {wr : World} {sb lb nb k : Nat} {u : Value} {L : List Nat} (h : NrQ wr sb lb nb L) : NrQ (wr.setCell ⟨sb, k, none⟩ u) sb lb nb L :=
  ⟨h.1, h.2.1, by show nb < (wr.setCell ⟨sb, k, none⟩ u).heap.size; rw [World.size_setCell]; exact h.2.2.1, fun j hj => by rw [World.cell?_of_block (Below.heap_setCell wr ⟨sb, k, none⟩ u nb h.1)]; exact h.2.2.2 j hj⟩
theorem NrQ.taken {wr w2 : World} {sb lb nb : Nat} {L : List Nat} (h : NrQ wr sb lb nb L) (hg : wr.grownBy w2 (some lb)) : NrQ w2 sb lb nb L :=
  ⟨h.1, h.2.1, Nat.lt_of_lt_of_le h.2.2.1 hg.size, fun j hj => by rw [World.cell?_of_block (hg.block nb h.2.2.1 (by intro e; injection e with e; exact h.2.1 e))]; exact h.2.2.2 j hj⟩
theorem NrQ.drew {wr : World} {sb lb nb : Nat} {L : List Nat} (h : NrQ wr sb lb nb L) : NrQ wr.drew sb lb nb L := h
/-- The shares while the nearest shops are gone through. -/
def inF (ss : List Nat) (far h n : Nat) (L : List Nat) (j i : Nat) : Nat := prK ss far h (ss.getD i 0) n + (if i ∈ L.take j then 12 / L.length else 0)
theorem inF_zero (ss : List Nat) (far h n : Nat) (L : List Nat) (i : Nat) : inF ss far h n L 0 i = prK ss far h (ss.getD i 0) n := by simp [inF]
theorem inF_step {ss : List Nat} {far h n : Nat} {L : List Nat} {j i a : Nat} (hL : L.Nodup) (hj : j < L.length) (ha : L.getD j 0 = a) : inF ss far h n L (j + 1) i = if i = a then inF ss far h n L j a + 12 / L.length else inF ss far h n L j i := by
  have e1 : L.getD j 0 = L[j] := by simp [List.getD, List.getElem?_eq_getElem hj]
  rw [e1] at ha
  subst ha
  have ht : L.take (j + 1) = L.take j ++ [L[j]] := List.take_succ_eq_append_getElem hj
  have hno : L[j] ∉ L.take j := by
    intro hm
    obtain ⟨k, hk, e⟩ := List.getElem_of_mem hm
    rw [List.getElem_take] at e
    have hk2 : k < j := by rw [List.length_take] at hk; omega
    have := (List.getElem_inj (h₀ := by omega) (h₁ := hj) hL).1 e
    omega
  have hin : ∀ i, i ∈ L.take (j + 1) ↔ i ∈ L.take j ∨ i = L[j] := fun i => by rw [ht, List.mem_append, List.mem_singleton]
  unfold inF
  by_cases e : i = L[j]
  · subst e
    rw [if_pos ((hin _).2 (.inr rfl)), if_pos rfl, if_neg hno]; omega
  · rw [if_neg e]
    congr 1
    have : (i ∈ L.take (j + 1)) ↔ i ∈ L.take j := by rw [hin]; simp [e]
    simp only [this]
theorem inF_end {ss : List Nat} {far h n i : Nat} (e : nrS ss h = far) (hh : h < n) (hi : i < ss.length) : inF ss far h n (awS ss h far) (awS ss h far).length i = prK ss far (h + 1) (ss.getD i 0) n := by
  unfold inF
  rw [List.take_length, pr_same e hh, ptS_at e hi]
theorem inF_le (ss : List Nat) (far h n : Nat) (L : List Nat) (j i : Nat) : inF ss far h n L j i ≤ 12 * n + 12 := by
  have := prK_le ss far h (ss.getD i 0) n
  have h2 := Nat.div_le_self 12 L.length
  unfold inF
  split <;> omega
def FarRel (w : World) (n m sb lb : Nat) (ss : List Nat) (i : Value) (wr : World) : Prop :=
  ∃ far : Nat, far ≤ n ∧ i = .int .i64 far ∧ Hid (StQ w wr sb lb m n (fun i => prK ss far 0 (ss.getD i 0) n) (fun x => !dnS ss far 0 x))
def HouseRel (w : World) (n m sb lb far : Nat) (ss : List Nat) (i : Value) (wr : World) : Prop :=
  ∃ h : Nat, h ≤ n ∧ i = .int .i64 h ∧ Hid (StQ w wr sb lb m n (fun i => prK ss far h (ss.getD i 0) n) (fun x => !dnS ss far h x))
def NearRel (w : World) (n m sb lb nb far h g : Nat) (ss : List Nat) (i : Value) (wr : World) : Prop :=
  ∃ j : Nat, j ≤ g ∧ i = .int .i64 j ∧ Hid (StQ w wr sb lb m n (inF ss far h n (awS ss h far) j) (fun x => !dnS ss far (h + 1) x)) ∧ Hid (NrQ wr sb lb nb (awS ss h far))

set_option maxHeartbeats 3200000 in
theorem iSharesOf_ok : QRow 20 shQ := by
  intro n A c m zs w hp
  obtain ⟨i0, hi0, hz0, hz1, hz2⟩ := info_parts intInfo
  have HV := Lib.hid (iValidShops_any n A c m zs w hp)
  by_cases hv : vsh n zs = true
  · obtain ⟨n, ss, rfl, rfl, hS⟩ := vsh_get hv
    rw [hv] at HV
    rw [shQ_yes hS]
    have Hm : Hid (ss.length = m) := by show _ = _; rw [← cI_length]; exact hp.len
    have hm4 : m ≤ 4 := by rw [← Hm.out]; exact hS.l4
    have hn9 := hS.n9
    have Hrd := Lib.hid hp.rd
    have HS := Lib.hid hS
    have HH := Lib.hid (fun W => housesOf_any n W hn9)
    have HAw : Hid (∀ (h far : Nat) (W : World), Below w.heap.size w W → h < n → far ≤ n → Calls Try.prog 51 #[.slice A m c, .int .i64 (h : Int), .int .i64 (far : Int)] W (RowQ (cI (awS ss h far)) W)) :=
      fun h far W hW hh hf => shopsAway_any A c m ss h far W _ hW.size (Hrd.out.below hW) Hm.out (by omega) (fun s hs => by have := hS.lt s hs; omega) (by omega) (by omega)
    clear hv hS hp
    go_enter Try.func20, Try.ntmps20
    go_wp2_with fail
    refine HV.out.mono ?_
    rintro e w1 ⟨rfl, rfl⟩
    go_wp2_with (at_make; refine wpList_make_full _ rfl _ _ 23 rfl w.heap.size 3 i0 _ 1 Try.underlying23 hi0 hz0 hz1 _ _ _ _ m rfl rfl rfl rfl (by rw [hz2]; omega) (by unfold maxLen; omega) (Nat.le_refl _) ?_; intro w2 hown2 hg2)
    rw [made_ints] at hown2
    have hblk := own_blockN hown2
    rw [rwA_zero] at hblk
    have hb2 : Below w.heap.size w w2 := (Below.refl _ _).grown hg2 (Nat.le_refl _) (fun j hj => by cases hj)
    have hlt2 : w.heap.size < w2.heap.size := (hown2.lt _ rfl).2
    have HBk := Lib.hid hblk
    have HB2 := Lib.hid hb2
    have HL2 := Lib.hid hlt2
    clear hown2 hg2 hblk hb2 hlt2
    go_wp2_with fail
    refine (HH.out w2).mono ?_
    rintro e w3 ⟨lb, rfl, hlb, hset, hb3⟩
    have HS3 : Hid (StQ w w3 w.heap.size lb m n (fun i => prK ss 0 0 (ss.getD i 0) n) (fun x => !dnS ss 0 0 x)) := by
      refine StQ.congr (f := fun _ => 0) (s := fun _ => true) ⟨(hb3.out.block _ HL2.out).trans HBk.out, ⟨n, hset.out⟩, HB2.out.trans (hb3.out.mono HB2.out.size), Nat.le_refl _, Nat.le_trans HB2.out.size hlb.out, by have := hlb.out; have := HL2.out; omega⟩ (fun i _ => (pr_start _ _ _).symm) (fun x _ => by rw [dnQ_start]; rfl)
    clear hlb hset hb3 HBk HB2 HL2
    go_wp2
    go_loopw [7] (fun i wr => FarRel w n m w.heap.size lb ss i wr) (fun i _ => n - (intOf i).toNat)
    case atStart => exact ⟨0, Nat.zero_le _, rfl, HS3⟩
    case round =>
      clear HS3
      obtain ⟨far, hfar, rfl, HT⟩ := hrel
      obtain ⟨cnt, D, hown, hat, hz⟩ := HT.out.set
      have HO := Lib.hid hown
      have Hz := Lib.hid hz
      obtain ⟨q, Hq⟩ : ∃ q, Hid (cntQ (fun x => !dnS ss far 0 x) n = q) := ⟨_, rfl⟩
      clear hown hat hz
      by_cases hq : q = 0
      · have hall : ∀ x, x < n → dnS ss far 0 x = true := fun x hx => by
          have := cntQ_none (Hq.out.trans hq) x hx
          simpa using this
        have HX := Lib.hid (HT.out.done (L := shL n ss) (by rw [← Hm.out]; simp [shL]) (fun i hi => by
          rw [pr_done hall]
          simp [shL, List.getD, List.getElem?_eq_getElem (show i < ss.length by rw [Hm.out]; exact hi)]) (by omega))
        have hq0 : ¬ ((q : Nat) : Int) > 0 := by omega
        have hq1 : decide (((q : Nat) : Int) > 0) = false := by simp; omega
        clear hall HT
        go_wp2_with (at_len; refine wpList_len_own _ rfl _ 49 rfl 3 4 Try.underlying49 _ lb cnt D rfl HO.out ?_; rw [Hz.out, Hq.out])
        go_ret
        exact HX.out
      · have hfn : far < n := by
          rcases Nat.lt_or_ge far n with h | h
          · exact h
          · exact absurd (Hq.out.symm.trans (cntQ_all_no fun x hx => by
              have e : far = n := by omega
              rw [e, dnQ_far HS.out hx]; rfl)) hq
        have HT0 : Hid (StQ w wr w.heap.size lb m n (fun i => prK ss far 0 (ss.getD i 0) n) (fun x => !dnS ss far 0 x)) := HT
        have hq1 : decide (((q : Nat) : Int) > 0) = true := by simp; omega
        have hq2 : decide (0 < q) = true := by simp; omega
        have hq3 : ((q : Nat) : Int) > 0 := by omega
        clear HT hq
        go_wp2_with (at_len; refine wpList_len_own _ rfl _ 49 rfl 3 4 Try.underlying49 _ lb cnt D rfl HO.out ?_; rw [Hz.out, Hq.out])
        clear HO Hz Hq hq1 hq2 hq3
        go_loopw [27] (fun i wr => HouseRel w n m w.heap.size lb far ss i wr) (fun i _ => n - (intOf i).toNat)
        case atStart => exact ⟨0, Nat.zero_le _, rfl, HT0⟩
        case round =>
          clear HT0
          obtain ⟨h, hh, rfl, HT⟩ := hrel
          by_cases hlt : h < n
          · go_wp2_with fail
            refine (HAw.out h far wr HT.out.bel hlt hfar).mono ?_
            rintro e w4 ⟨A4, c4, rfl, ho4, hb4⟩
            obtain ⟨A5, c5, he, -, -, hrd⟩ := own_slice ho4.out rfl
            injection he with he1 he2 he3
            subst he1 he3
            have HT4 := Lib.hid (HT.out.later hb4.out)
            have Hlen : Hid ((cI (awS ss h far)).length = (awS ss h far).length) := cI_length _
            rw [Hlen.out]
            obtain ⟨g, Hg⟩ : ∃ g, Hid ((awS ss h far).length = g) := ⟨_, rfl⟩
            have hg4 : g ≤ 4 := by
              have h1 := awK_length_le ss h far ss.length
              have h2 : (awS ss h far).length = (awK ss h far ss.length).length := rfl
              rw [← h2, Hg.out, Hm.out] at h1
              omega
            rw [Hg.out]
            by_cases hnr : nrS ss h = far
            · have hg1 : 0 < g := by have := awS_some HS.out hlt; rw [hnr, Hg.out] at this; exact this
              obtain ⟨nb, rfl⟩ : ∃ nb, A4 = some ⟨nb, 0, none⟩ := by
                obtain ⟨A6, c6, e6, -, -, h6⟩ := own_sliceN ho4.out
                injection e6 with e6 _ _
                subst e6
                obtain ⟨nb, e7, -⟩ := h6 (by rw [Hlen.out, Hg.out]; exact hg1)
                exact ⟨nb, e7⟩
              have hnb : wr.heap.size ≤ nb ∧ nb < w4.heap.size := ho4.out.lt nb rfl
              have HN : Hid (NrQ w4 w.heap.size lb nb (awS ss h far)) := by
                obtain ⟨cn, hcn⟩ := HT.out.set
                have h1 := HT.out.sb_lt
                have h2 := hcn.lt
                refine ⟨by omega, by omega, hnb.2, fun j hj => ?_⟩
                obtain ⟨b', o', s', e', -, es, hc⟩ := RdI.q hrd hj
                injection e' with e'
                injection e' with e1 e2
                subst e1 e2
                rw [Nat.zero_add] at hc
                rw [hc, es.out]
              obtain ⟨cn, hset⟩ := HT4.out.set
              have Hhas := Lib.hid (has_any w4 hset hlt hn9)
              have Hrem := Lib.hid (remove_any w4 hset hlt hn9 (by rw [(dnQ_same hnr).1]; rfl))
              rw [(dnQ_same hnr).1] at Hhas
              have hgz : ((g : Int) == 0) = false := by rw [beq_eq_false_iff_ne]; omega
              have Hnr := Lib.hid hnr
              clear ho4 hb4 hrd hnb hset HT hnr he2
              go_wp2_with fail
              refine Hhas.out.mono ?_
              rintro e w5 ⟨rfl, rfl⟩
              go_wp2_with fail
              refine Hrem.out.mono ?_
              rintro e w6 ⟨rfl, hs6, hg6⟩
              have HT6 : Hid (StQ w w6 w.heap.size lb m n (inF ss far h n (awS ss h far) 0) (fun x => !dnS ss far (h + 1) x)) := (HT4.out.taken hs6 hg6).congr (fun i _ => (inF_zero _ _ _ _ _ _).symm) (fun x hx => by
                show setQ _ _ _ _ = _
                unfold setQ
                by_cases e : x = h
                · subst e; rw [if_pos rfl, (dnQ_same Hnr.out).2]; rfl
                · rw [if_neg e, dnQ_else e])
              have HN6 := Lib.hid (HN.out.taken hg6)
              obtain ⟨v, Hv⟩ : ∃ v, Hid (12 / g = v) := ⟨_, rfl⟩
              have hdiv : Int.tdiv (12 : Int) (g : Int) = ((v : Nat) : Int) := by rw [← Hv.out]; rfl
              have hv12 : v ≤ 12 := by rw [← Hv.out]; exact Nat.div_le_self _ _
              have hgne : ¬ (g : Int) = 0 := by omega
              clear HT4 HN hs6 hg6 Hhas Hrem hgz
              go_wp2
              go_loopw [48] (fun i wr => NearRel w n m w.heap.size lb nb far h g ss i wr) (fun i _ => g - (intOf i).toNat)
              case atStart => exact ⟨0, Nat.zero_le _, rfl, HT6, HN6⟩
              case round =>
                clear HT6 HN6
                obtain ⟨j, hj, rfl, HT7, HN7⟩ := hrel
                by_cases hlj : j < g
                · obtain ⟨a, Ha⟩ : ∃ a, Hid ((awS ss h far).getD j 0 = a) := ⟨_, rfl⟩
                  have ham : a < m := by rw [← Hm.out, ← Ha.out]; exact (awS_mem.1 (getDN_mem (by rw [Hg.out]; exact hlj))).1
                  have cj := HN7.out.2.2.2 j (by rw [Hg.out]; exact hlj)
                  rw [Ha.out] at cj
                  have cs := HT7.out.cell (k := a) ham
                  have fs := frozen_of_row _ w.heap.size a _ _ HT7.out.row
                  obtain ⟨u, Hu⟩ : ∃ u, Hid (inF ss far h n (awS ss h far) j a = u) := ⟨_, rfl⟩
                  have hub := inF_le ss far h n (awS ss h far) j a
                  rw [Hu.out] at cs hub
                  have HT8 : Hid (StQ w (wr.setCell ⟨w.heap.size, a, none⟩ (.int .i64 ((u : Int) + (v : Int)))) w.heap.size lb m n (inF ss far h n (awS ss h far) (j + 1)) (fun x => !dnS ss far (h + 1) x)) := by
                    have h1 := HT7.out.write (k := a) (v := u + v) ham
                    rw [Int.natCast_add] at h1
                    refine h1.congr (fun i _ => ?_) (fun x _ => rfl)
                    rw [inF_step (awS_nodup _ _ _) (by rw [Hg.out]; exact hlj) Ha.out, Hu.out, Hg.out, Hv.out]
                  have hwu : IntKind.i64.wrap ((u : Int) + (v : Int)) = (u : Int) + (v : Int) := IntWalk.i64_in _ (by omega)
                  have hwv : IntKind.i64.wrap (v : Int) = (v : Int) := IntWalk.i64_in _ (by omega)
                  have hdiv2 : (12 : Int) / (g : Int) = ((v : Nat) : Int) := by rw [← Hv.out]; rfl
                  have HN8 := Lib.hid (HN7.out.write (k := a) (u := .int .i64 ((u : Int) + (v : Int))))
                  clear HT7 HN7
                  go_wp2
                  go_region
                  go_wp2
                  go_roundw
                  case rel => exact ⟨j + 1, by omega, by go_num, HT8.out.drew, HN8.out.drew⟩
                  case measure => simp [intOf]; omega
                · obtain rfl : j = g := by omega
                  have HT8 : Hid (StQ w wr w.heap.size lb m n (fun i => prK ss far (h + 1) (ss.getD i 0) n) (fun x => !dnS ss far (h + 1) x)) := HT7.out.congr (fun i hi => by
                    rw [← Hg.out]; exact inF_end Hnr.out hlt (by rw [Hm.out]; exact hi)) (fun x _ => rfl)
                  clear HT7 HN7
                  go_wp2
                  go_roundw
                  case rel => exact ⟨h + 1, by omega, by go_num, HT8⟩
                  case measure => simp [intOf]; omega
            · have HT5 : Hid (StQ w w4 w.heap.size lb m n (fun i => prK ss far (h + 1) (ss.getD i 0) n) (fun x => !dnS ss far (h + 1) x)) := HT4.out.congr (fun i _ => (pr_other hnr).symm) (fun x _ => by rw [dnQ_other hnr])
              by_cases hg0 : g = 0
              · have hgz : ((g : Int) == 0) = true := by rw [beq_iff_eq]; omega
                clear ho4 hb4 hrd HT HT4 hnr he2
                go_wp2
                go_roundw
                case rel => exact ⟨h + 1, by omega, by go_num, HT5⟩
                case measure => simp [intOf]; omega
              · have hgz : ((g : Int) == 0) = false := by rw [beq_eq_false_iff_ne]; omega
                obtain ⟨cn, hset⟩ := HT4.out.set
                have hdn : dnS ss far h h = true := by
                  rcases Nat.lt_or_ge far (nrS ss h) with h1 | h1
                  · have := awS_none HS.out h1
                    rw [this] at Hg
                    exact absurd Hg.out.symm hg0
                  · simp only [dnS, Bool.or_eq_true, decide_eq_true_eq]
                    left; omega
                have Hhas := Lib.hid (has_any w4 hset hlt hn9)
                rw [hdn] at Hhas
                clear ho4 hb4 hrd HT HT4 hnr he2 hset hdn
                go_wp2_with fail
                refine Hhas.out.mono ?_
                rintro e w5 ⟨rfl, rfl⟩
                go_wp2
                go_roundw
                case rel => exact ⟨h + 1, by omega, by go_num, HT5⟩
                case measure => simp [intOf]; omega
          · obtain rfl : h = n := by omega
            have HT5 : Hid (StQ w wr w.heap.size lb m h (fun i => prK ss (far + 1) 0 (ss.getD i 0) h) (fun x => !dnS ss (far + 1) 0 x)) := HT.out.congr (fun i _ => pr_next _ _ _ _) (fun x hx => by rw [dnQ_next hx])
            clear HT
            go_wp2
            go_roundw
            case rel => exact ⟨far + 1, by omega, by go_num, HT5⟩
            case measure => simp [intOf]; omega
  · have hv' : vsh n zs = false := by simpa using hv
    rw [hv'] at HV
    rw [shQ_no hv']
    clear hv hv' hp
    go_enter Try.func20, Try.ntmps20
    go_wp2_with fail
    refine HV.out.mono ?_
    rintro e w1 ⟨rfl, rfl⟩
    go_wp2
    go_ret
    exact rowQ_nil _ _ (Below.refl _ _)
end Go.Proofs.Ythphboeboiallaa
