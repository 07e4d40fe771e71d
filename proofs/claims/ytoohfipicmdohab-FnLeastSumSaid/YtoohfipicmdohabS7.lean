/-
  SumTried of the model, walked.
  Conditions: as each theorem states.
-/
import Derived.Test.YtoohfipicmdohabS6
namespace Go.Proofs.Ytoohfipicmdohab
open Go.ChangeShapes Go.WideShapes Go.ChangeAt Go.RowKit
set_option linter.unusedVariables false

/-- The places that the first j numbers of a choice name. -/
def pick (zs l : List Int) (j : Nat) : List Int := (l.take j).map (fun a => zs.getD a.toNat 0)
def sumL (zs ps : List Int) (m : Nat) : Nat → Int
  | 0 => 0
  | h + 1 => sumL zs ps m h + nearL ps (zs.getD h 0) m
def updS (b s : Int) : Int := if b < 0 ∨ s < b then s else b
def bst (zs : List Int) (L : List (List Int)) (c : Nat) : Nat → Int
  | 0 => -1
  | i + 1 => updS (bst zs L c i) (sumL zs (pick zs (L.getD i []) c) (c - 1) zs.length)
def allc (zs : List Int) (k : Int) : List (List Int) := chd zs.length (min k.toNat zs.length) zs.length
def sstri (zs : List Int) (k : Int) : Int := if vt zs k = true then (if zs.length = 0 then 0 else max (bst zs (allc zs k) (min k.toNat zs.length) (allc zs k).length) 0) else -1
theorem sstri_no {zs : List Int} {k : Int} (h : vt zs k = false) : sstri zs k = -1 := by simp [sstri, h]
theorem sstri_zero {zs : List Int} {k : Int} (h : vt zs k = true) (h0 : zs.length = 0) : sstri zs k = 0 := by simp [sstri, h, h0]
theorem sstri_yes {zs : List Int} {k : Int} (h : vt zs k = true) (h0 : ¬ zs.length = 0) : sstri zs k = max (bst zs (allc zs k) (min k.toNat zs.length) (allc zs k).length) 0 := by simp [sstri, h, h0]

theorem chd_range_all : ∀ u : Fin 8, ∀ k : Fin 5, ∀ l ∈ chd u.val k.val u.val, ∀ a ∈ l, 0 ≤ a ∧ a < (u.val : Int) := by decide +kernel
theorem chd_range {u k : Nat} (h1 : u ≤ 7) (h2 : k ≤ 4) : ∀ l ∈ chd u k u, ∀ a ∈ l, 0 ≤ a ∧ a < (u : Int) := chd_range_all ⟨u, by omega⟩ ⟨k, by omega⟩
theorem pick_next {zs l : List Int} {j q : Nat} {x : Int} (hj : j < l.length) (hq : l.getD j 0 = (q : Int)) (hx : zs.getD q 0 = x) : (pick zs l (j + 1)).map (Value.int .i64) = (pick zs l j).map (Value.int .i64) ++ [.int .i64 x] := by
  unfold pick
  have e : l.getD j 0 = l[j] := by simp [List.getD, List.getElem?_eq_getElem hj]
  rw [List.take_succ_eq_append_getElem hj, ← e, hq, List.map_append, List.map_append, List.map_singleton, List.map_singleton, Int.toNat_natCast, hx]
theorem pick_length {zs l : List Int} {j : Nat} (hj : j ≤ l.length) : (pick zs l j).length = j := by simp [pick]; omega
theorem pick_bd {zs l : List Int} {j : Nat} (hz : InBd zs) : InBd (pick zs l j) := by
  intro x hx
  obtain ⟨a, _, rfl⟩ := List.mem_map.1 hx
  rcases Nat.lt_or_ge a.toNat zs.length with h | h
  · exact hz.get h rfl
  · simp [List.getD, List.getElem?_eq_none h]
theorem sumL_bd {zs ps : List Int} {m : Nat} (hz : InBd zs) (hp : InBd ps) (hm : m < ps.length) : ∀ h, h ≤ zs.length → 0 ≤ sumL zs ps m h ∧ sumL zs ps m h ≤ 2000 * h
  | 0, _ => by simp [sumL]
  | h + 1, hh => by
    have ih := sumL_bd hz hp hm h (by omega)
    obtain ⟨a, b⟩ := hz.get (k := h) (by omega) rfl
    have := nearL_bd hp a b m hm
    simp only [sumL]
    omega
theorem updS_bd {b s M : Int} (h1 : -1 ≤ b) (h2 : b ≤ M) (h3 : 0 ≤ s) (h4 : s ≤ M) : -1 ≤ updS b s ∧ updS b s ≤ M := by unfold updS; split <;> omega
theorem bst_bd {zs : List Int} {L : List (List Int)} {c : Nat} (hz : InBd zs) (hn : zs.length ≤ 7) (hc : 1 ≤ c) (hL : ∀ l ∈ L, l.length = c) : ∀ i, i ≤ L.length → -1 ≤ bst zs L c i ∧ bst zs L c i ≤ 14000
  | 0, _ => by simp [bst]
  | i + 1, hi => by
    have ih := bst_bd hz hn hc hL i (by omega)
    have hl : (L.getD i []).length = c := hL _ (by simp [List.getD, List.getElem?_eq_getElem (show i < L.length by omega)])
    have h2 := sumL_bd hz (pick_bd (l := L.getD i []) (j := c) hz) (m := c - 1) (by rw [pick_length (by omega)]; omega) zs.length (Nat.le_refl _)
    exact updS_bd ih.1 ih.2 h2.1 (by omega)

theorem bst_next {zs l : List Int} {L : List (List Int)} {c t n : Nat} {b s : Int} (hl : L[t]? = some l) (hb : bst zs L c t = b) (hn : zs.length = n) (hs : sumL zs (pick zs l c) (c - 1) n = s) : bst zs L c (t + 1) = updS b s := by
  have e : L.getD t [] = l := by simp [List.getD, hl]
  simp only [bst, e, hb, hn, hs]
theorem updS_neg {b s : Int} (h : b < 0) : updS b s = s := by simp [updS, h]
theorem updS_less {b s : Int} (h : s < b) : updS b s = s := by simp [updS, h]
theorem updS_not {b s : Int} (h1 : ¬ b < 0) (h2 : ¬ s < b) : updS b s = b := by simp [updS, h1, h2]
def OutRel (W : World) (zs : List Int) (L : List (List Int)) (c R : Nat) (rv : Value) (rvs : List Value) (best i : Value) (wr : World) : Prop :=
  ∃ t : Nat, t ≤ R ∧ i = .int .i64 t ∧ best = .int .i64 (bst zs L c t) ∧ Below W.heap.size W wr ∧ (∃ B, wr.ownsRow B 23 1 rv L.length rvs) ∧ RdLL wr rvs L

theorem outRel_next {W wo wr : World} {zs : List Int} {L : List (List Int)} {c R t : Nat} {rv : Value} {rvs : List Value} {i : Int} {b : Int} (hb : Below W.heap.size W wo) (hbr : ∃ B, wo.ownsRow B 23 1 rv L.length rvs) (hrd : RdLL wo rvs L) (hnx : Below wo.heap.size wo wr)
    (ht : t < R) (hi : i = ((t + 1 : Nat) : Int)) (hs : bst zs L c (t + 1) = b) : OutRel W zs L c R rv rvs (.int .i64 b) (.int .i64 i) wr := by
  obtain ⟨B, hbr⟩ := hbr
  exact ⟨t + 1, ht, by rw [hi], by rw [hs], hb.trans (hnx.mono hb.size), ⟨B, own_below hbr hnx⟩, hrd.map fun A l h => h.below hnx⟩

set_option maxHeartbeats 1600000 in
theorem sSumTried_any (A : Option Addr) (c n : Nat) (zs : List Int) (k : Int) (w : World) (B : Nat) (hr : RdI w B A zs) (hB : B ≤ w.heap.size) (hn : zs.length = n) (hb : n ≤ 1048576) :
    Calls Try.prog 21 #[.slice A n c, .int .i64 k] w fun e w' => e = .returned (.int .i64 (sstri zs k)) ∧ Below w.heap.size w w' := by
  obtain ⟨i0, hi0, hz0, hz1, hz2⟩ := info_parts intInfo
  have Hn := Lib.hid hn
  clear hn
  by_cases hv : vh zs = true
  · have Hl := vh_len hv
    rw [Hn.out] at Hl
    have Hbd := Lib.hid (vh_inbd hv)
    by_cases h7 : 7 < n
    · have Hs : Hid (sstri zs k = -1) := sstri_no (by unfold vt; rw [hv, decide_eq_false (by rw [Hn.out]; omega)]; rfl)
      go_enter Try.func21, Try.ntmps21
      go_wp2_with fail
      refine (sValid_any A c n zs w B hr Hn.out (by omega)).mono ?_
      rintro e w' ⟨rfl, q, rfl⟩
      go_wp2
      go_ret
      exact ⟨ret_int Hs.out.symm, below_drewN (Below.refl _ _) _⟩
    · have h7' : n ≤ 7 := by omega
      by_cases hf : k < 1 ∨ 4 < k
      · have Hs : Hid (sstri zs k = -1) := sstri_no (by unfold vt; rw [vk_no hf]; simp)
        clear h7
        go_enter Try.func21, Try.ntmps21
        go_wp2_with fail
        refine (sValid_any A c n zs w B hr Hn.out (by omega)).mono ?_
        rintro e w' ⟨rfl, q, rfl⟩
        go_wp2_with (go_at_call 43; refine (inRange_no _ _ _ _ hf).mono ?_; rintro e w' ⟨rfl, rfl⟩)
        go_ret
        exact ⟨ret_int Hs.out.symm, below_drewN (Below.refl _ _) _⟩
      · have h1 : 1 ≤ k := by omega
        have h2 : k ≤ 4 := by omega
        clear hf h7
        have Hvt : Hid (vt zs k = true) := by show vt zs k = true; unfold vt; rw [hv, vk_yes h1 h2, decide_eq_true (by rw [Hn.out]; exact h7')]; rfl
        obtain ⟨m, Hm⟩ : ∃ m, Hid (min k.toNat n = m) := ⟨_, rfl⟩
        have hmn : m ≤ n := by rw [← Hm.out]; omega
        have hm4 : m ≤ 4 := by rw [← Hm.out]; omega
        go_enter Try.func21, Try.ntmps21
        go_wp2_with fail
        refine (sValid_any A c n zs w B hr Hn.out (by omega)).mono ?_
        rintro e w' ⟨rfl, q, rfl⟩
        have Hv := Lib.hid hv
        clear hv
        go_wp2_with (go_at_call 43; refine (inRange_yes _ _ _ _ h1 h2).mono ?_; rintro e w' ⟨rfl, rfl⟩)
        all_goals
          refine (choices_any m _ _ _ n n _ h7' (Nat.le_refl _) hm4 (by omega) rfl (by have := Hm.out; omega)).mono ?_
          rintro e w1 ⟨rv, rvs, rfl, rown, rrd, rbel⟩
          obtain ⟨A0, c0, rfl⟩ := own_slice1 rown
          obtain ⟨L, HL⟩ : ∃ L, Hid (chd n m n = L) := ⟨_, rfl⟩
          obtain ⟨R, HR⟩ : ∃ R, Hid (L.length = R) := ⟨_, rfl⟩
          have hR : R ≤ 128 := by rw [← HR.out, ← HL.out]; exact chd_len h7' hm4 h7'
          rw [HL.out] at rown rrd
          rw [HL.out, HR.out]
          have hbel : Below w.heap.size w w1 := (below_drewN (Below.refl _ _) q).trans rbel
          by_cases h0 : n = 0
          · subst h0
            have Hs : Hid (sstri zs k = 0) := sstri_zero Hvt.out Hn.out
            have hm0 : m = 0 := by omega
            subst hm0
            have hRL : R = 1 := by rw [← HR.out, ← HL.out]; rfl
            subst hRL
            go_wp2_with fail
            go_loopw [6, 7] (fun b i wr => b = .int .i64 (-1) ∧ i = .int .i64 0 ∧ Below w.heap.size w wr) (fun _ i _ => 1)
            case atStart => exact ⟨rfl, rfl, hbel⟩
            case round =>
              obtain ⟨rfl, rfl, hbel⟩ := hrel
              go_wp2
              go_ret
              exact ⟨ret_int Hs.out.symm, hbel⟩
          · have Hs : Hid (sstri zs k = max (bst zs L m R) 0) := by
              have h := sstri_yes Hvt.out (by rw [Hn.out]; exact h0)
              unfold allc at h
              rw [Hn.out, Hm.out, HL.out, HR.out] at h
              exact h
            have hm1 : 1 ≤ m := by have := Hm.out; omega
            have Heach : Hid (∀ l ∈ L, l.length = m) := fun l hl => chd_each m n n l (by rw [HL.out]; exact hl)
            have Hrng : Hid (∀ l ∈ L, ∀ a ∈ l, 0 ≤ a ∧ a < (n : Int)) := fun l hl => chd_range h7' hm4 l (by rw [HL.out]; exact hl)
            have Rel0 : OutRel w zs L m R (.slice A0 R c0) rvs (.int .i64 (-1)) (.int .i64 0) w1 := ⟨0, Nat.zero_le _, rfl, rfl, hbel, by rw [← HR.out]; exact ⟨_, rown⟩, rrd⟩
            clear hbel rbel rown rrd
            go_wp2_with fail
            go_loopw [6, 7] (fun b i wr => OutRel w zs L m R (.slice A0 R c0) rvs b i wr) (fun _ i _ => R - (intOf i).toNat)
            case atStart => exact Rel0
            case round =>
              clear Rel0
              obtain ⟨t, ht, rfl, rfl, hbel, ⟨Br, hbr⟩, hrd⟩ := hrel
              by_cases hlt : t < R
              · obtain ⟨wo, rfl⟩ : ∃ wo : World, wo = wr := ⟨_, rfl⟩
                obtain ⟨l, hl⟩ : ∃ l, L[t]? = some l := ⟨_, List.getElem?_eq_getElem (by rw [HR.out]; exact hlt)⟩
                have Hll := Lib.hid (Heach.out l (List.mem_of_getElem? hl))
                have Hlr := Lib.hid (Hrng.out l (List.mem_of_getElem? hl))
                obtain ⟨A1, c1, hvn, hlc, hA⟩ := hrd.2 t l hl
                rw [Hll.out] at hvn hlc
                obtain ⟨b, rfl, hA⟩ := hA.addr
                have hbr' := hbr
                rw [HR.out] at hbr'
                obtain ⟨g, cap, he, hg1, hg2⟩ := hbr'.form (by omega)
                injection he with he1 he2 he3
                subst he1 he3
                have hcn := hbr'.cellAt t (by omega)
                rw [hvn] at hcn
                have hown0 : (wo.alloc (.cells #[] 3)).ownsRow wo.heap.size 3 1 (.slice (some ⟨wo.heap.size, 0, none⟩) 0 0) 0 ((pick zs l 0).map (Value.int .i64)) := World.ownsRow_lit wo #[] 0 (Nat.le_refl _) (by decide) rfl
                have Hown0 := Lib.hid hown0
                have hnx0 : Below wo.heap.size wo (wo.alloc (.cells #[] 3)) := (Below.refl _ _).alloc (Nat.le_refl _) _
                clear hown0 hbr' hvn
                go_wp2_with fail
                go_loopw [8, 9] (fun sp i wr => ∃ j : Nat, j ≤ m ∧ i = .int .i64 j ∧ wr.ownsRow wo.heap.size 3 1 sp j ((pick zs l j).map (Value.int .i64)) ∧ Below wo.heap.size wo wr) (fun _ i _ => m - (intOf i).toNat)
                case atStart => exact ⟨0, Nat.zero_le _, rfl, Hown0.out, hnx0⟩
                case round =>
                  clear Hown0 hnx0
                  obtain ⟨j, hj, rfl, hown, hnx⟩ := hrel
                  have hcn2 : wr.cell? ⟨g, t, none⟩ = some (.slice (some ⟨b, 0, none⟩) m c1) := (hnx.cell (p := ⟨g, t, none⟩) hg2).trans hcn
                  by_cases hjm : j < m
                  · obtain ⟨b', off', a, he, _, Ha, hca⟩ := (hA.below hnx).rd.x (k := j) (by rw [Hll.out]; exact hjm)
                    injection he with he
                    injection he with he1 he2
                    subst he1 he2
                    rw [Nat.zero_add] at hca
                    obtain ⟨ha1, ha2⟩ := Hlr.out a (by rw [← Ha.out]; simp [List.getD, List.getElem?_eq_getElem (show j < l.length by rw [Hll.out]; exact hjm)])
                    obtain ⟨qa, hqa⟩ := Int.eq_ofNat_of_zero_le ha1
                    subst hqa
                    have hqn : qa < n := by omega
                    obtain ⟨bz, oz, x, rfl, hbw, Hx, hcx⟩ := (hr.below ((hbel.mono hB).trans (hnx.mono (Nat.le_trans hB hbel.size)))).x (k := qa) (by rw [Hn.out]; exact hqn)
                    have Hpn := Lib.hid (pick_next (zs := zs) (by rw [Hll.out]; exact hjm) Ha.out Hx.out)
                    have Hown := Lib.hid hown
                    have hsz : wo.heap.size ≤ wr.heap.size := hnx.size
                    clear hown Ha Hx
                    go_wp2_with (at_builtin; refine wpList_append_own _ rfl _ _ 23 rfl wo.heap.size 3 i0 (.int .i64 0) 1 8 Try.underlying23 hi0 hz0 hz1 hz2 rfl (by decide) _ _ _ rfl (Hown.out.alloc _) ⟨wr.heap.size, 0, none⟩ 1 1 [.int .i64 x] rfl rfl (cell_one_new _ _ _) (ints_one [x]) (by unfold maxLen; omega) (by omega) (by simp; exact Nat.le_succ_of_le hsz) ?_; intro v' w3 hown' hgrow _)
                    go_wp2
                    go_roundw
                    case rel => exact ⟨j + 1, by omega, by go_num, by rw [Hpn.out]; exact hown', (hnx.alloc hnx.size _).grown hgrow (by have := hnx.size; simp; omega) (fun g hg => (Hown.out.lt g hg).1)⟩
                    case measure => simp [intOf]; omega
                  · have hjm' : j = m := by omega
                    subst hjm'
                    obtain ⟨A2, c2, rfl, _, hsp⟩ := RdL.own hown (pick_length (by rw [Hll.out]; exact Nat.le_refl _)) hm1
                    have HspB := Lib.hid (pick_bd (l := l) (j := j) Hbd.out)
                    have HspL : Hid ((pick zs l j).length = j) := pick_length (by rw [Hll.out]; exact Nat.le_refl _)
                    have Hnext := Lib.hid (@bst_next zs l L j t n _ _ hl rfl Hn.out rfl)
                    have hbb := bst_bd Hbd.out (by rw [Hn.out]; exact h7') hm1 Heach.out t (by rw [HR.out]; exact ht)
                    have hss := sumL_bd Hbd.out HspB.out (m := j - 1) (by rw [HspL.out]; omega) n (by rw [Hn.out]; exact Nat.le_refl _)
                    have Hsum := Lib.hid (fun h => sumL_bd Hbd.out HspB.out (m := j - 1) (by rw [HspL.out]; omega) h)
                    obtain ⟨ps, Hps⟩ : ∃ ps, Hid (pick zs l j = ps) := ⟨_, rfl⟩
                    obtain ⟨bv, Hbv⟩ : ∃ bv, Hid (bst zs L j t = bv) := ⟨_, rfl⟩
                    obtain ⟨S, HS⟩ : ∃ S, Hid (sumL zs ps (j - 1) n = S) := ⟨_, rfl⟩
                    rw [Hps.out] at hsp HspB HspL hss Hnext Hsum
                    rw [Hbv.out] at hbb Hnext ⊢
                    rw [HS.out] at hss Hnext
                    have hzr := hr.below ((hbel.mono hB).trans (hnx.mono (Nat.le_trans hB hbel.size)))
                    have HspR := Lib.hid hsp.rd
                    clear hown hsp hcn
                    go_wp2_with fail
                    clear hcn2
                    go_loop [10, 11] (fun s h => ∃ i : Nat, i ≤ n ∧ h = .int .i64 i ∧ s = .int .i64 (sumL zs ps (j - 1) i)) (fun _ h => n - (intOf h).toNat)
                    case atStart => exact ⟨0, Nat.zero_le _, rfl, rfl⟩
                    case round =>
                      obtain ⟨i, hi, rfl, rfl⟩ := hrel
                      by_cases hin : i < n
                      · obtain ⟨bz, oz, x, rfl, hbw, Hx, hcx⟩ := hzr.x (k := i) (by rw [Hn.out]; exact hin)
                        obtain ⟨hx1, hx2⟩ := Hbd.out.get (by rw [Hn.out]; exact hin) Hx.out
                        have hsi := Hsum.out i (by rw [Hn.out]; exact hi)
                        have hnb := nearL_bd HspB.out hx1 hx2 (j - 1) (by rw [HspL.out]; omega)
                        have Hnx : Hid (sumL zs ps (j - 1) (i + 1) = sumL zs ps (j - 1) i + nearL ps x (j - 1)) := by show sumL zs ps (j - 1) (i + 1) = _; rw [← Hx.out]; rfl
                        go_wp2_with fail
                        refine (nearest_any A2 c2 j ps x _ _ HspR.out HspL.out (by omega) hm1 HspB.out hx1 hx2).mono ?_
                        rintro e w' ⟨rfl, rfl⟩
                        go_wp2
                        go_round
                        case rel => exact ⟨i + 1, by omega, by go_num, by rw [Hnx.out]⟩
                        case measure => simp [intOf]; omega
                      · have hin' : i = n := by omega
                        subst hin'
                        rw [HS.out]
                        by_cases hb0 : bv < 0
                        · rw [updS_neg hb0] at Hnext
                          go_wp2
                          go_roundw
                          case rel => exact outRel_next hbel ⟨_, hbr⟩ hrd hnx hlt (by go_num) Hnext.out
                          case measure => simp [intOf]; omega
                        · by_cases hsb : S < bv
                          · rw [updS_less hsb] at Hnext
                            go_wp2
                            go_roundw
                            case rel => exact outRel_next hbel ⟨_, hbr⟩ hrd hnx hlt (by go_num) Hnext.out
                            case measure => simp [intOf]; omega
                          · rw [updS_not hb0 hsb] at Hnext
                            go_wp2
                            go_roundw
                            case rel => exact outRel_next hbel ⟨_, hbr⟩ hrd hnx hlt (by go_num) Hnext.out
                            case measure => simp [intOf]; omega
              · have htR : t = R := by omega
                subst htR
                have Hbd2 := Lib.hid (bst_bd Hbd.out (by rw [Hn.out]; exact h7') hm1 Heach.out t (by rw [HR.out]; exact Nat.le_refl _))
                obtain ⟨bv, Hbv⟩ : ∃ bv, Hid (bst zs L m t = bv) := ⟨_, rfl⟩
                rw [Hbv.out] at Hs ⊢
                go_wp2
                all_goals (go_ret; exact ⟨ret_int (by rw [Hs.out]; omega), hbel⟩)
  · have hv' : vh zs = false := by simpa using hv
    have Hs : Hid (sstri zs k = -1) := sstri_no (by unfold vt; rw [hv']; rfl)
    clear hv
    go_enter Try.func21, Try.ntmps21
    go_wp2_with fail
    refine (sValid_any A c n zs w B hr Hn.out (by omega)).mono ?_
    rintro e w' ⟨rfl, q, rfl⟩
    go_wp2
    go_ret
    exact ⟨ret_int Hs.out.symm, below_drewN (Below.refl _ _) _⟩
end Go.Proofs.Ytoohfipicmdohab
