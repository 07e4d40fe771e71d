/-
  The model's search for the fewest cells near all, walked, and GridCover of the model.
  Conditions: small grids.
  GridCover, IsPerfect and SlantCells of the model, walked.
  Conditions: at most 2^20 numbers.
  IsPerfect of the model, walked.
  Conditions: at most 2^20 numbers.
  SlantCells of the model, walked.
  Conditions: none.
  The copy of a slice of ints in the exact laws.
  Conditions: the slice is shorter than 2^20 elements.
  Rows of ints marked, and the marks read again.
  Conditions: none beyond what each theorem states.
  A row of the call's own, nil or not, marked.
  Conditions: none beyond what each theorem states.
-/
import Derived.Test.YtkgomgfhhhdnjaaZ7
import Derived.Test.YtkgomgfhhhdnjaaZ6
import Derived.Test.YtkgomgfhhhdnjaaZ2
import Derived.Test.YtkgomgfhhhdnjaaZ3
import Derived.Deep.Quiet
namespace Go.Proofs.Ytkgomgfhhhdnjaa
open Go.ChangeShapes Go.WideShapes Go.ChangeAt Go.RowKit
set_option linter.unusedVariables false
set_option maxRecDepth 4000

theorem boolInfo9 : (Try.prog.info? 4).map (fun i => (i.zero, i.size, i.bytes)) = some (some (.bool false), 1, 1) := by kernel_rfl
def hR (H : Nat → Bool) (n : Nat) : List Value := (List.range n).map fun i => .bool (H i)
theorem hR_len (H : Nat → Bool) (n : Nat) : (hR H n).length = n := by simp [hR]
theorem hR_get {H : Nat → Bool} {n i : Nat} (hi : i < n) : (hR H n)[i]? = some (.bool (H i)) := by simp [hR, hi]
theorem hR_set {H K : Nat → Bool} {n i : Nat} {b : Bool} (hi : i < n) (hb : K i = b) (ho : ∀ j, j ≠ i → K j = H j) : (hR H n).set i (.bool b) = hR K n := by
  unfold hR
  apply List.ext_getElem?
  intro j
  rw [List.getElem?_set]
  by_cases hj : j < n
  · by_cases e : i = j
    · subst e; simp [hi, hb]
    · simp [hj, e, ho j (fun h => e h.symm)]
  · simp [hj]; omega
theorem hR_congr {H K : Nat → Bool} {n : Nat} (h : ∀ i, i < n → H i = K i) : hR H n = hR K n := by
  unfold hR
  refine List.map_congr_left fun i hi => ?_
  rw [h i (List.mem_range.1 hi)]
/-- While those near cell c are marked. -/
def mixH (X : Nat → Nat → Int) (far : Int) (H : Nat → Bool) (c j : Nat) : Nat → Bool := fun i => if i < j then orN X far H c i else H i
def CovOk (X : Nat → Nat → Int) (far : Int) (n g0 c best : Nat) : Prop := ∀ (w : World) (B : Nat) (VR : Nat → Value) (H : Nat → Bool) (b off ch : Nat),
  Outer w B n (.slice (some ⟨g0, 0, none⟩) n c) VR → TT w B n VR (rowX X n) → (∀ i, i < n → w.cell? ⟨b, off + i, none⟩ = some (.bool (H i))) → n ≤ ch ∧ ch ≤ 9223372036854775807 →
  Calls Try.prog 54 #[.slice (some ⟨g0, 0, none⟩) n c, .int .i64 far, .slice (some ⟨b, off, none⟩) n ch, .int .i64 best] w fun e w' => ∃ r : Nat, e = .returned (.int .i64 r) ∧ IsCF X far n H best r ∧ Below w.heap.size w w'
set_option maxHeartbeats 3200000 in
theorem cov_step (X : Nat → Nat → Int) (far : Int) (n g0 c best : Nat) (hn1 : 1 ≤ n) (hn10 : n ≤ 10) (hb10 : best ≤ 10) (hsym : ∀ a b, X a b = X b a) (IH : ∀ b', b' < best → CovOk X far n g0 c b') : CovOk X far n g0 c best := by
  intro w B VR H b off ch hO hT hH hch
  obtain ⟨i0, hi0, hz0, hz1, hz2⟩ := info_parts boolInfo9
  have HO := Lib.hid hO
  have HT := Lib.hid hT
  have HH := Lib.hid hH
  have HIH := Lib.hid IH
  have Hsym := Lib.hid hsym
  clear hO hT hH IH hsym
  go_enter Try.func54, Try.ntmps54
  go_wp2
  go_loop [9] (fun a => ∃ k : Nat, k ≤ n ∧ a = .int .i64 k ∧ Hid (∀ v, v < k → H v = true)) (fun a => n - (intOf a).toNat)
  case atStart => exact ⟨0, by omega, rfl, fun v hv => by omega⟩
  case round =>
    obtain ⟨k, hk, rfl, Hall⟩ := hrel
    by_cases hkn : k < n
    · have hck := HH.out k hkn
      cases hHk : H k with
      | true =>
        rw [hHk] at hck
        have Hal2 : Hid (∀ v, v < k + 1 → H v = true) := fun v hv => by
          by_cases e : v = k
          · subst e; exact hHk
          · exact Hall.out v (by omega)
        clear hHk
        go_wp2
        go_round
        case rel => exact ⟨k + 1, by omega, by go_num, Hal2⟩
        case measure => simp [intOf]; omega
      | false =>
        rw [hHk] at hck
        have HHk := Lib.hid hHk
        have hne : ((k : Int) == (n : Int)) = false := by rw [beq_eq_false_iff_ne]; omega
        clear hHk
        by_cases hb0 : best = 0
        · subst hb0
          go_wp2
          go_ret
          exact ⟨1, rfl, cf_zero hkn HHk.out, Below.refl _ _⟩
        · have hb1 : 1 ≤ best := by omega
          have hb2 : ¬ (best : Int) ≤ 0 := by omega
          obtain ⟨Ak, ck, ek, hrk⟩ := HT.out.row hkn
          have HRK := Lib.hid hrk
          have cc0 := Outer.cell HO.out hkn
          rw [ek, rowX_len] at cc0
          have HCC : Hid (∀ wr, Below w.heap.size w wr → wr.cell? ⟨g0, k, none⟩ = some (.slice Ak n ck)) := fun wr hb => (hb.cell (p := ⟨g0, k, none⟩) (own_heap HO.out (g := g0) rfl).2.2).trans cc0
          have HCs : Hid (CFs X far n H best k 0 (best + 1)) := CFs.start best k
          have HBl : Hid (Below w.heap.size w w) := Below.refl _ _
          clear ek hrk cc0 hb0
          go_wp2
          go_loopw [10, 11] (fun o i wr => ∃ ci r : Nat, ci ≤ n ∧ i = .int .i64 ci ∧ o = .int .i64 r ∧ Hid (CFs X far n H best k ci r) ∧ Hid (Below w.heap.size w wr)) (fun _ i _ => n - (intOf i).toNat)
          case atStart => exact ⟨0, best + 1, by omega, rfl, by go_num, HCs, HBl⟩
          case round =>
            clear HCs HBl
            obtain ⟨ci, r, hci, rfl, rfl, HC, HB⟩ := hrel
            have hr1 := HC.out.pos
            have hr2 := HC.out.le
            by_cases hcn : ci < n
            · obtain ⟨bk, ok, x, rfl, -, Hx, hcx⟩ := (HRK.out.below HB.out).x (k := ci) (by rw [rowX_len]; exact hcn)
              have hx := Hx.out
              rw [rowX_get X hcn] at hx
              have cc := HCC.out wr HB.out
              by_cases hfx : far < x
              · have HC2 : Hid (CFs X far n H best k (ci + 1) r) := HC.out.skip (by rw [hx]; exact hfx)
                clear hx
                go_wp2
                go_roundw
                case rel => exact ⟨ci + 1, r, by omega, by go_num, rfl, HC2, HB⟩
                case measure => simp [intOf]; omega
              · have HHw : Hid (∀ i, i < n → wr.cell? ⟨b, off + i, none⟩ = some (.bool (H i))) := fun i hi => (HB.out.cell (p := ⟨b, off + i, none⟩) (World.block_lt_of_cell? w _ (HH.out i hi))).trans (HH.out i hi)
                have Hnews : Hid (∀ j u, (hR H n)[j]? = some u → (wr.alloc (.cells #[] 4)).cell? ((⟨b, off, none⟩ : Addr).add j) = some u) := fun j u hu => by
                  have hj : j < n := by
                    rcases Nat.lt_or_ge j n with h | h
                    · exact h
                    · rw [List.getElem?_eq_none (by rw [hR_len]; exact h)] at hu; cases hu
                  rw [hR_get hj] at hu
                  injection hu with hu
                  rw [Addr.add_mid, ← hu]
                  exact (((Below.refl wr.heap.size wr).alloc (Nat.le_refl _) (.cells #[] 4)).cell (World.block_lt_of_cell? wr _ (HHw.out j hj))).trans (HHw.out j hj)
                have Hone : Hid (∀ u ∈ hR H n, u.oneCell' = true) := fun u hu => by
                  obtain ⟨z, -, rfl⟩ := List.mem_map.1 hu
                  rfl
                have HOe : Hid ((wr.alloc (.cells #[] 4)).ownsRow wr.heap.size 4 1 (.slice (some ⟨wr.heap.size, 0, none⟩) 0 0) 0 []) := World.ownsRow_lit wr #[] 0 (Nat.le_refl _) (by decide) rfl
                have HBe : Hid (Below wr.heap.size wr (wr.alloc (.cells #[] 4))) := (Below.refl _ wr).alloc (Nat.le_refl _) _
                have Hlen : Hid ((hR H n).length = n * 1) := by show _ = _; rw [hR_len]; omega
                have hs0 : wr.heap.size ≤ (wr.alloc (.cells #[] 4)).heap.size := by rw [size_alloc1]; omega
                have hm0 : 0 + n ≤ maxLen := by unfold maxLen; omega
                have hm1 : (0 + n) * 1 ≤ 140737488355328 := by omega
                have Hs1 : Hid (∀ W : World, (wr.alloc (.cells #[] 4)).grownBy W (Value.slice (some ⟨wr.heap.size, 0, none⟩) 0 0).ownBlock → Below wr.heap.size wr W) := fun W h => HBe.out.grown h hs0 (fun g e => by simp [Value.ownBlock] at e; omega)
                have Hxk : Hid (X k ci = x) := hx
                clear hx
                go_wp2_with (at_builtin; refine wpList_append_own _ rfl _ _ 66 rfl wr.heap.size 4 i0 (.bool false) 1 1 Try.underlying66 hi0 hz0 hz1 hz2 rfl (by decide) _ _ _ rfl HOe.out ⟨b, off, none⟩ n ch (hR H n) rfl Hlen.out Hnews.out Hone.out hm0 hm1 hs0 ?_; intro v5 w5 hown5 hgrow5 _)
                have HB5 := Lib.hid (Hs1.out w5 hgrow5)
                rw [Nat.zero_add, List.nil_append] at hown5
                obtain ⟨A5, c5, rfl, hc5, hc5b, hA5⟩ := own_sliceN hown5
                obtain ⟨g5, rfl, hg5, hg5b⟩ := hA5 (by omega)
                have HO5 : Hid (w5.ownsRow wr.heap.size 4 1 (.slice (some ⟨g5, 0, none⟩) n c5) n (hR (mixH X far H ci 0) n)) := by
                  show w5.ownsRow _ _ _ _ _ _
                  rw [hR_congr (K := H) (fun i _ => by unfold mixH; rw [if_neg (by omega)])]; exact hown5
                obtain ⟨Z, HZ⟩ : ∃ Z, Hid (wr = Z) := ⟨_, rfl⟩
                have HBz := Lib.hid HB.out
                rw [HZ.out] at HB5 HO5 HBz hg5
                obtain ⟨Ac, cc2, ec, hrc⟩ := HT.out.row hcn
                have HRC := Lib.hid hrc
                have cd0 := Outer.cell HO.out hcn
                rw [ec, rowX_len] at cd0
                have HCD : Hid (∀ wr, Below w.heap.size w wr → wr.cell? ⟨g0, ci, none⟩ = some (.slice Ac n cc2)) := fun wr hb => (hb.cell (p := ⟨g0, ci, none⟩) (own_heap HO.out (g := g0) rfl).2.2).trans cd0
                clear hown5 hgrow5 hA5 ec hrc cd0 HOe HBe Hlen Hnews Hone Hs1 HHw hcx cc hs0 hm0 hm1 HB
                go_wp2
                go_loopw [13] (fun i wi => ∃ j : Nat, j ≤ n ∧ i = .int .i64 j ∧ Hid (wi.ownsRow Z.heap.size 4 1 (.slice (some ⟨g5, 0, none⟩) n c5) n (hR (mixH X far H ci j) n)) ∧ Hid (Below Z.heap.size Z wi)) (fun i _ => n - (intOf i).toNat)
                case atStart => exact ⟨0, by omega, rfl, HO5, HB5⟩
                case round =>
                  clear HO5 HB5
                  obtain ⟨j, hj, rfl, HOj, HBj⟩ := hrel
                  by_cases hjn : j < n
                  · have cs := (HOj.out.cellAt j (by omega)).trans (hR_get hjn)
                    have em : mixH X far H ci j j = H j := by unfold mixH; rw [if_neg (by omega)]
                    rw [em] at cs
                    have fs := HOj.out.frozenAt j
                    have HBwz := Lib.hid (HBz.out.trans (HBj.out.mono HBz.out.size))
                    obtain ⟨bc, oc, y, rfl, -, Hy, hcy⟩ := (HRC.out.below HBwz.out).x (k := j) (by rw [rowX_len]; exact hjn)
                    have hy := Hy.out
                    rw [rowX_get X hjn] at hy
                    have cd := HCD.out _ HBwz.out
                    obtain ⟨v, Hv⟩ : ∃ v, Hid (orN X far H ci j = v) := ⟨_, rfl⟩
                    have hv : (H j || decide (y ≤ far)) = v := by rw [← Hv.out]; unfold orN; rw [hy]
                    have hst := HOj.out.stored j (.bool v)
                    rw [hR_set (K := mixH X far H ci (j + 1)) hjn (by unfold mixH; rw [if_pos (by omega)]; exact Hv.out) (fun i hi => by
                      unfold mixH
                      by_cases h1 : i < j
                      · rw [if_pos (by omega), if_pos h1]
                      · rw [if_neg (by omega), if_neg h1])] at hst
                    have HST := Lib.hid hst.1
                    have HBS := Lib.hid (HBj.out.grown hst.2 HBj.out.size (fun q e => by injection e with e; have := (HOj.out.lt g5 rfl).1; omega))
                    clear hst HOj HBj hy em
                    cases hHj : H j with
                    | true =>
                      rw [hHj] at cs hv
                      have hvt : v = true := by rw [← hv]; rfl
                      subst hvt
                      clear hHj hv
                      go_wp2
                      go_roundw
                      case rel => exact ⟨j + 1, by omega, by go_num, HST, HBS⟩
                      case measure => simp [intOf]; omega
                    | false =>
                      rw [hHj] at cs hv
                      by_cases hyf : y ≤ far
                      · have hvt : v = true := by rw [← hv, decide_eq_true hyf]; rfl
                        subst hvt
                        clear hHj hv
                        go_wp2
                        go_roundw
                        case rel => exact ⟨j + 1, by omega, by go_num, HST, HBS⟩
                        case measure => simp [intOf]; omega
                      · have hvt : v = false := by rw [← hv, decide_eq_false hyf]; rfl
                        subst hvt
                        clear hHj hv
                        go_wp2
                        go_roundw
                        case rel => exact ⟨j + 1, by omega, by go_num, HST, HBS⟩
                        case measure => simp [intOf]; omega
                  · obtain rfl : j = n := by omega
                    have HBw := Lib.hid (HBz.out.trans (HBj.out.mono HBz.out.size))
                    have Hrow : Hid (∀ i, i < j → wr.cell? ⟨g5, 0 + i, none⟩ = some (.bool (orN X far H ci i))) := fun i hi => by
                      rw [Nat.zero_add, HOj.out.cellAt i (by omega), hR_get hi]
                      unfold mixH; rw [if_pos hi]
                    obtain ⟨b', Hb'⟩ : ∃ b', Hid (min best r - 1 = b') := ⟨_, rfl⟩
                    have hb'lt : b' < best := by rw [← Hb'.out]; omega
                    have HRec := Lib.hid (HIH.out b' hb'lt wr B VR (orN X far H ci) g5 0 c5 (ownN_below HO.out HBw.out) (HT.out.below HBw.out) Hrow.out ⟨hc5, hc5b⟩)
                    clear HOj HBj
                    have key : ∀ (mn : Int) (s : Nat), True := fun _ _ => trivial
                    by_cases hbr : best ≤ r
                    · have hwp : IntKind.i64.wrap ((best : Int) - 1) = ((b' : Nat) : Int) := by rw [IntWalk.i64_in _ (by omega), ← Hb'.out]; omega
                      have hbr2 : ¬ (r : Int) < (best : Int) := by omega
                      go_wp2_with fail
                      refine HRec.out.mono ?_
                      rintro e w7 ⟨s, rfl, hcf, hb7⟩
                      have HC2 := Lib.hid (HC.out.step Hsym.out hcn hb1 (by rw [Hb'.out]; exact hcf))
                      have hs1 := hcf.le
                      have HB7 := Lib.hid (HBw.out.trans (hb7.mono HBw.out.size))
                      clear hcf hb7
                      by_cases hrs : r ≤ 1 + s
                      · have em : Hid (min r (1 + s) = r) := Nat.min_eq_left hrs
                        rw [em.out] at HC2
                        have hrs2 : ¬ (1 + (s : Int)) < (r : Int) := by omega
                        go_wp2
                        go_roundw
                        case rel => exact ⟨ci + 1, r, by omega, by go_num, rfl, HC2, HB7⟩
                        case measure => simp [intOf]; omega
                      · have em : Hid (min r (1 + s) = 1 + s) := Nat.min_eq_right (by omega)
                        rw [em.out] at HC2
                        have hrs2 : (1 + (s : Int)) < (r : Int) := by omega
                        go_wp2
                        go_roundw
                        case rel => exact ⟨ci + 1, 1 + s, by omega, by go_num, by go_num, HC2, HB7⟩
                        case measure => simp [intOf]; omega
                    · have hwp : IntKind.i64.wrap ((r : Int) - 1) = ((b' : Nat) : Int) := by rw [IntWalk.i64_in _ (by omega), ← Hb'.out]; omega
                      have hbr2 : (r : Int) < (best : Int) := by omega
                      go_wp2_with fail
                      refine HRec.out.mono ?_
                      rintro e w7 ⟨s, rfl, hcf, hb7⟩
                      have HC2 := Lib.hid (HC.out.step Hsym.out hcn hb1 (by rw [Hb'.out]; exact hcf))
                      have hs1 := hcf.le
                      have HB7 := Lib.hid (HBw.out.trans (hb7.mono HBw.out.size))
                      clear hcf hb7
                      by_cases hrs : r ≤ 1 + s
                      · have em : Hid (min r (1 + s) = r) := Nat.min_eq_left hrs
                        rw [em.out] at HC2
                        have hrs2 : ¬ (1 + (s : Int)) < (r : Int) := by omega
                        go_wp2
                        go_roundw
                        case rel => exact ⟨ci + 1, r, by omega, by go_num, rfl, HC2, HB7⟩
                        case measure => simp [intOf]; omega
                      · have em : Hid (min r (1 + s) = 1 + s) := Nat.min_eq_right (by omega)
                        rw [em.out] at HC2
                        have hrs2 : (1 + (s : Int)) < (r : Int) := by omega
                        go_wp2
                        go_roundw
                        case rel => exact ⟨ci + 1, 1 + s, by omega, by go_num, by go_num, HC2, HB7⟩
                        case measure => simp [intOf]; omega
            · obtain rfl : ci = n := by omega
              have HD : Hid (IsCF X far ci H best r) := HC.out.done Hsym.out hkn HHk.out
              go_wp2
              go_ret
              exact ⟨r, rfl, HD.out, HB.out⟩
    · obtain rfl : k = n := by omega
      have HA : Hid (IsCF X far k H best 0) := cf_all best Hall.out
      go_wp2
      go_ret
      exact ⟨0, rfl, HA.out, Below.refl _ _⟩
theorem cov_any (X : Nat → Nat → Int) (far : Int) (n g0 c : Nat) (hn1 : 1 ≤ n) (hn10 : n ≤ 10) (hsym : ∀ a b, X a b = X b a) : ∀ best, best ≤ 10 → CovOk X far n g0 c best := by
  intro best
  induction best using Nat.strongRecOn with
  | _ best ih => exact fun hb => cov_step X far n g0 c best hn1 hn10 hb hsym fun b' hb' => ih b' hb' (by omega)
end Go.Proofs.Ytkgomgfhhhdnjaa
namespace Go.Proofs.Ytkgomgfhhhdnjaa
open Go.ChangeShapes Go.WideShapes Go.ChangeAt Go.RowKit
set_option linter.unusedVariables false
set_option maxRecDepth 4000

set_option maxHeartbeats 3200000 in
theorem sGridCover_ok : GNum 24 gcv := by
  intro w h far W
  obtain ⟨i0, hi0, hz0, hz1, hz2⟩ := info_parts boolInfo9
  have HV := Lib.hid (sValid_any w h W)
  by_cases hg : gok w h
  · rw [decide_eq_true hg] at HV
    obtain ⟨a, b, rfl, rfl, g⟩ := gok_nat hg
    by_cases hf : 0 ≤ far ∧ far ≤ 50
    · have HF := Lib.hid (inRange_yes far 0 50 W hf.1 hf.2)
      have hm : (a : Int) * (b : Int) = ((a * b : Nat) : Int) := (Int.natCast_mul a b).symm
      have HE : Hid (∀ r : Nat, IsCF (stG a) far (a * b) (fun _ => false) (a * b) r → ((r : Nat) : Int) = gcv a b far) := fun r hr => (gcv_few g hf.1 hf.2 (cf_few (fun x _ => stG_self a x) (fun x y => stG_pos a x y) hf.1 hr)).symm
      obtain ⟨n, Hn⟩ : ∃ n, Hid (a * b = n) := ⟨_, rfl⟩
      have hn10 := g.n10
      have hn1 := g.n1
      rw [Hn.out] at hn10 hn1 HE hm
      have HT := Lib.hid (fun V => gridTable_any V a b n g.w1 (by have := g.w5; omega) Hn.out hn10 hn1)
      have HC := Lib.hid (fun g0 c => cov_any (stG a) far n g0 c hn1 hn10 (fun x y => stG_comm a x y) n hn10)
      obtain ⟨Z, HZ⟩ : ∃ Z, Hid (madeCells (Value.bool false).cells n = Z) := ⟨_, rfl⟩
      have HZc : Hid (∀ i, i < n → Z[i]? = some (.bool false)) := fun i hi => by
        have : Z.toList = List.replicate n (.bool false) := by rw [← HZ.out, show (Value.bool false).cells = #[Value.bool false] from rfl, toList_madeCells_one]
        rw [← Array.getElem?_toList, this]; simp [hi]
      have hwn : IntKind.i64.wrap (n : Int) = (n : Int) := IntWalk.i64_in _ (by omega)
      have hmake : ∀ V : World, (Instr.makeSlice 66 (.int .i64 (n : Int)) (.int .i64 (n : Int))).run Try.prog V = .ok (.slice (some ⟨V.heap.size, 0, none⟩) n n) (V.alloc (.cells Z 4)) := fun V => by
        have hr := run_make (P := Try.prog) V 66 4 i0 _ Try.underlying66 hi0 hz0 .i64 .i64 n n (by omega) (Int.le_refl _) (by rw [hz2]; omega) (by omega)
        simp only [Int.toNat_natCast, hz1, Nat.mul_one] at hr
        rw [HZ.out] at hr
        exact hr
      obtain ⟨res, Hres⟩ : ∃ res, Hid (gcv a b far = res) := ⟨_, rfl⟩
      rw [Hres.out] at HE ⊢
      clear hg hf g
      go_enter Try.func24, Try.ntmps24
      go_wp2_with fail
      refine HV.out.mono ?_
      rintro e w' ⟨rfl, rfl⟩
      go_wp2_with fail
      refine HF.out.mono ?_
      rintro e w' ⟨rfl, rfl⟩
      go_wp2
      go_region_with (first
        | (go_at_call 55
           refine (HT.out _).mono ?_
           rintro e w1 ⟨v, VR, rfl, hO, hT, hB⟩
           obtain ⟨Ag, cg, rfl, -, -, hA⟩ := own_sliceN hO
           obtain ⟨g0, rfl, -, -⟩ := hA (by omega)
           have hb1 : Below W.heap.size W w1 := Below.trans (by repeat (first | exact Below.refl _ _ | refine Below.alloc ?_ (Nat.le_refl _) _ | refine Below.drew ?_)) (hB.mono (by first | omega | (simp; done) | (simp; omega))))
        | (go_at_call 54
           refine (HC.out _ _ _ _ _ _ _ _ _ (by first | exact hO | exact World.ownsRow.alloc hO _) (by first | exact hT | exact hT.below ((Below.refl _ _).alloc (Nat.le_refl _) _)) (by
             intro i hi
             rw [Nat.zero_add]
             first
               | exact (cell_of_row _ _ _ _ _ _ (heap_alloc_new _ _)).trans (HZc.out i hi)
               | exact (hB.cell (p := ⟨_, i, none⟩) (by simp)).trans ((cell_of_row _ _ _ _ _ _ (heap_alloc_new _ _)).trans (HZc.out i hi))) ⟨Nat.le_refl _, by omega⟩).mono ?_
           rintro e w2 ⟨r, rfl, hcf, hb2⟩
           have hr : ((r : Nat) : Int) = res := HE.out r hcf
           have hb3 : Below W.heap.size W w2 := Below.trans (by first | exact hb1 | exact hb1.alloc hb1.size _) (hb2.mono (by first | exact hb1.size | exact (hb1.alloc hb1.size _).size))))
      all_goals
        go_wp2
        go_ret
        exact ⟨rfl, hb3⟩
    · have HF := Lib.hid (inRange_no far 0 50 W (by omega))
      have Hs := Lib.hid (gcv_no (w := a) (h := b) (far := far) (.inr (by omega)))
      clear hg hf g
      go_enter Try.func24, Try.ntmps24
      go_wp2_with fail
      refine HV.out.mono ?_
      rintro e w' ⟨rfl, rfl⟩
      go_wp2_with fail
      refine HF.out.mono ?_
      rintro e w' ⟨rfl, rfl⟩
      go_wp2
      go_ret
      exact ⟨ret_int Hs.out.symm, Below.refl _ _⟩
  · rw [decide_eq_false hg] at HV
    have Hs := Lib.hid (gcv_no (far := far) (.inl hg))
    clear hg
    go_enter Try.func24, Try.ntmps24
    go_wp2_with fail
    refine HV.out.mono ?_
    rintro e w' ⟨rfl, rfl⟩
    go_wp2
    go_ret
    exact ⟨ret_int Hs.out.symm, Below.refl _ _⟩
end Go.Proofs.Ytkgomgfhhhdnjaa
namespace Go.Proofs.Ytkgomgfhhhdnjaa
open Go.ChangeShapes Go.WideShapes Go.ChangeAt Go.RowKit
set_option linter.unusedVariables false
set_option maxRecDepth 4000

theorem sRing_any (n a b g : Nat) (V : World) (hn : n ≤ 10) (ha : a < n) (hb : b < n) (hg : rsN n a b = g) : Calls Try.prog 63 #[.int .i64 n, .int .i64 a, .int .i64 b] V fun e w' => e = .returned (.int .i64 (g : Nat)) ∧ V = w' := by
  obtain ⟨k, hk⟩ : ∃ k, gpN a b = k := ⟨_, rfl⟩
  have HG := Lib.hid (fun V => sGap_any a b k V (by omega) (by omega) hk)
  have hkn : k < n := by rw [← hk]; unfold gpN; omega
  have hmin : min k (n - k) = g := by rw [← hg]; unfold rsN; rw [hk]
  clear hk hg
  by_cases hm : k ≤ n - k
  · have hg2 : k = g := by omega
    have hm2 : ¬ ((n : Int) - (k : Int) < (k : Int)) := by omega
    subst hg2
    go_enter Try.func63, Try.ntmps63
    go_wp2_with fail
    refine (HG.out _).mono ?_
    rintro e w' ⟨rfl, rfl⟩
    go_wp2_with fail
    refine (HG.out _).mono ?_
    rintro e w' ⟨rfl, rfl⟩
    go_wp2
    go_ret
    exact ⟨rfl, rfl⟩
  · have hg2 : n - k = g := by omega
    have hm2 : (n : Int) - (k : Int) < (k : Int) := by omega
    have hg3 : (n : Int) - (k : Int) = (g : Int) := by omega
    go_enter Try.func63, Try.ntmps63
    go_wp2_with fail
    refine (HG.out _).mono ?_
    rintro e w' ⟨rfl, rfl⟩
    go_wp2_with fail
    refine (HG.out _).mono ?_
    rintro e w' ⟨rfl, rfl⟩
    go_wp2
    go_ret
    exact ⟨by first | rfl | rw [hg3] | (congr 2; omega), rfl⟩
theorem quiet9 {P : Program} {f : FuncId} {args : Array Value} {W : World} {v : Value} {R : Nat → World}
    (h : Calls P f args W fun e w' => e = .returned v ∧ W = w') (m : Nat) (hW : W = R m) : Calls P f args W fun e w'' => e = .returned v ∧ ∃ m, w'' = R m :=
  h.mono fun _ _ ⟨he, hm⟩ => ⟨he, m, hm.symm.trans hW⟩
theorem ones_no {w h n c : Nat} {far : Int} {zs : List Int} (hc : c < n) (hne : ¬ nrC w h far c zs = 1) : ones w h n far zs = false := by
  rw [Bool.eq_false_iff]
  intro h
  exact hne (ones_iff.1 h c hc)
theorem asc_not {H : Int} {zs : List Int} {t : Nat} {x : Int} (ht : t < zs.length) (hx : zs.getD t 0 = x) (h : (x < 0 ∨ H - 1 < x) ∨ (0 < t ∧ x ≤ zs.getD (t - 1) 0)) : ¬ AscL H zs zs.length := fun h' => by
  obtain ⟨h1, h2, h3⟩ := h' t ht
  rw [hx] at h1 h2 h3
  rcases h with h | ⟨h4, h5⟩
  · omega
  · have := h3 h4
    omega
set_option maxHeartbeats 3200000 in
theorem sIsPerfect_ok : GPerf 30 := by
  intro w h A c ln zs far W hin
  by_cases hw : 1 ≤ w ∧ w ≤ 10
  · have H1 := Lib.hid (inRange_yes w 1 10 W hw.1 hw.2)
    by_cases hh : 1 ≤ h ∧ h ≤ 10
    · have H2 := Lib.hid (inRange_yes h 1 10 W hh.1 hh.2)
      by_cases hf : 0 ≤ far ∧ far ≤ 50
      · have H3 := Lib.hid (inRange_yes far 0 50 W hf.1 hf.2)
        obtain ⟨a, b, rfl, rfl, g⟩ := rok_nat (show rok w h from ⟨hw, hh⟩)
        have hm : (a : Int) * (b : Int) = ((a * b : Nat) : Int) := (Int.natCast_mul a b).symm
        have hn100 := g.n100
        have hn1 := g.n1
        have Hno : Hid (¬ AscL ((a * b : Nat) : Int) zs zs.length → prf a b zs far = false) := fun hh => prf_no (.inr (.inr (by rw [hm]; exact hh)))
        have Hyes : Hid (AscL ((a * b : Nat) : Int) zs zs.length → prf a b zs far = ones a b (a * b) far zs) := fun hh => prf_yes g hf.1 hf.2 hh
        have haw := g.w1
        have haw10 := g.w10
        have hah10 := g.h10
        have Hdl : Hid (∀ x, x < a * b → x / a < b) := fun x hx => div_lt9 rfl hx
        obtain ⟨n, Hn⟩ : ∃ n, Hid (a * b = n) := ⟨_, rfl⟩
        rw [Hn.out] at hm hn100 hn1 Hno Hyes Hdl
        obtain ⟨res, Hres⟩ : ∃ res, Hid (prf a b zs far = res) := ⟨_, rfl⟩
        rw [Hres.out] at Hno Hyes ⊢
        have HR := Lib.hid hin.rd
        have Hl := Lib.hid hin.len
        have hlm := hin.most
        have HRS := Lib.hid sRing_any
        have w1 : IntKind.i64.wrap ((n : Int) - 1) = (n : Int) - 1 := IntWalk.i64_in _ (by omega)
        have hane : ¬ (a : Int) = 0 := by omega
        have haz : ((a : Int) == 0) = false := by rw [beq_eq_false_iff_ne]; exact hane
        clear hw hh hf g hin
        go_enter Try.func30, Try.ntmps30
        go_wp2_with fail
        refine H1.out.mono ?_
        rintro e w' ⟨rfl, rfl⟩
        go_wp2_with fail
        refine H2.out.mono ?_
        rintro e w' ⟨rfl, rfl⟩
        go_wp2_with fail
        refine H3.out.mono ?_
        rintro e w' ⟨rfl, rfl⟩
        go_wp2
        go_loopw [9] (fun i wr => ∃ t q : Nat, t ≤ ln ∧ i = .int .i64 t ∧ Hid (AscL (n : Int) zs t) ∧ wr = W.drewN q) (fun i _ => ln - (intOf i).toNat)
        case atStart => exact ⟨0, 0, by omega, rfl, AscL.zero _ _, rfl⟩
        case round =>
          obtain ⟨t, q, ht, rfl, HA, rfl⟩ := hrel
          by_cases hltt : t < ln
          · obtain ⟨bb, off, x, rfl, -, Hx, hcx⟩ := HR.out.x (k := t) (by rw [Hl.out]; exact hltt)
            by_cases h1 : x < 0 ∨ (n : Int) - 1 < x
            · have Hs := Lib.hid (Hno.out (asc_not (by rw [Hl.out]; exact hltt) Hx.out (.inl h1)))
              go_wp2
              go_quiet ((go_at_call 50; exact quiet_gen (inRange_no _ _ _ _ h1) ⟨_, rfl⟩))
              go_wp2
              go_ret
              exact ⟨ret_bool Hs.out.symm, by first | exact below_drewN (below_drewN (Below.refl _ _) _) _ | exact below_drewN (Below.refl _ _) _⟩
            · have h2 : 0 ≤ x := by omega
              have h3 : x ≤ (n : Int) - 1 := by omega
              by_cases ht0 : t = 0
              · have Hs := Lib.hid (HA.out.step Hx.out h2 h3 (fun h => by omega))
                have hg1 : decide ((t : Int) > 0) = false := decide_eq_false (by omega)
                have hg2 : decide ((0 : Int) < (t : Int)) = false := decide_eq_false (by omega)
                have hg3 : decide (0 < t) = false := decide_eq_false (by omega)
                clear ht0
                go_wp2
                go_quiet ((go_at_call 50; exact quiet_gen (inRange_yes _ _ _ _ h2 h3) ⟨_, rfl⟩))
                go_wp2
                go_roundw
                case rel => exact ⟨t + 1, _, by omega, by go_num, Hs, rfl⟩
                case measure => simp [intOf]; omega
              · obtain ⟨p, rfl⟩ : ∃ p, t = p + 1 := ⟨t - 1, by omega⟩
                obtain ⟨b', off', y, e', -, Hy, hcy⟩ := HR.out.x (k := p) (by rw [Hl.out]; omega)
                injection e' with e'
                injection e' with e1 e2
                subst e1 e2
                have hpos : (0 : Int) < ((p + 1 : Nat) : Int) := by omega
                have w2 : IntKind.i64.wrap (((p + 1 : Nat) : Int) - 1) = (p : Int) := by rw [IntWalk.i64_in _ (by omega)]; omega
                by_cases hxy : x ≤ y
                · have Hs := Lib.hid (Hno.out (asc_not (by rw [Hl.out]; exact hltt) Hx.out (.inr ⟨by omega, by rw [show p + 1 - 1 = p from rfl, Hy.out]; exact hxy⟩)))
                  go_wp2
                  go_quiet ((go_at_call 50; exact quiet_gen (inRange_yes _ _ _ _ h2 h3) ⟨_, rfl⟩))
                  go_wp2
                  go_ret
                  exact ⟨ret_bool Hs.out.symm, by first | exact below_drewN (below_drewN (Below.refl _ _) _) _ | exact below_drewN (Below.refl _ _) _⟩
                · have hyx : y < x := by omega
                  have Hs := Lib.hid (HA.out.step Hx.out h2 h3 (fun h => by rw [show p + 1 - 1 = p from rfl, Hy.out]; exact hyx))
                  go_wp2
                  go_quiet ((go_at_call 50; exact quiet_gen (inRange_yes _ _ _ _ h2 h3) ⟨_, rfl⟩))
                  go_wp2
                  go_roundw
                  case rel => exact ⟨p + 1 + 1, _, by omega, by go_num, Hs, rfl⟩
                  case measure => simp [intOf]; omega
          · obtain rfl : t = ln := by omega
            have HA2 : Hid (AscL (n : Int) zs zs.length) := by show AscL _ _ _; rw [Hl.out]; exact HA.out
            have Hs := Lib.hid (Hyes.out HA2.out)
            have Hz := Lib.hid (ascL_rng HA2.out)
            clear HA HA2 Hno Hyes w1
            go_wp2
            go_loopw [10] (fun i wr => ∃ k q : Nat, k ≤ n ∧ i = .int .i64 k ∧ Hid (∀ v, v < k → nrC a b far v zs = 1) ∧ wr = W.drewN q) (fun i _ => n - (intOf i).toNat)
            case atStart => exact ⟨0, q, by omega, rfl, fun v hv => by omega, rfl⟩
            case round =>
              obtain ⟨k, q, hk, rfl, HK, rfl⟩ := hrel
              by_cases hkn : k < n
              · have e1 : (k : Int).tdiv (a : Int) = ((k / a : Nat) : Int) := (Int.ofNat_tdiv k a).symm
                have e2 : (k : Int).tmod (a : Int) = ((k % a : Nat) : Int) := (Int.ofNat_tmod k a).symm
                have l1 := Hdl.out k hkn
                have l2 := Nat.mod_lt k haw
                have Hsr : Hid (∀ z, srN a b k z = rsN b (k / a) (z / a) + rsN a (k % a) (z % a)) := fun z => rfl
                obtain ⟨ky, Hky⟩ : ∃ ky, Hid (k / a = ky) := ⟨_, rfl⟩
                obtain ⟨kx, Hkx⟩ : ∃ kx, Hid (k % a = kx) := ⟨_, rfl⟩
                rw [Hky.out] at e1 l1 Hsr
                rw [Hkx.out] at e2 l2 Hsr
                go_wp2
                go_loopw [11, 12] (fun o i wr => ∃ j q : Nat, j ≤ t ∧ i = .int .i64 j ∧ o = .int .i64 (nrC a b far k (zs.take j) : Nat) ∧ wr = W.drewN q) (fun _ i _ => t - (intOf i).toNat)
                case atStart => exact ⟨0, q, by omega, rfl, by simp [nrC], rfl⟩
                case round =>
                  obtain ⟨j, q, hj, rfl, rfl, rfl⟩ := hrel
                  by_cases hjt : j < t
                  · have hjz : j < zs.length := by rw [Hl.out]; exact hjt
                    obtain ⟨bb, off, z, rfl, -, Hx, hcx⟩ := HR.out.x (k := j) hjz
                    have hzr := Hz.out z (by rw [← Hx.out]; simp [List.getD, List.getElem?_eq_getElem hjz])
                    obtain ⟨z, rfl⟩ := Int.eq_ofNat_of_zero_le hzr.1
                    have hzn : z < n := by omega
                    have Hnx := Lib.hid (nrC_take (w := a) (h := b) (far := far) (c := k) hjz Hx.out)
                    rw [Int.toNat_natCast, Hsr.out z] at Hnx
                    have f1 : (z : Int).tdiv (a : Int) = ((z / a : Nat) : Int) := (Int.ofNat_tdiv z a).symm
                    have f2 : (z : Int).tmod (a : Int) = ((z % a : Nat) : Int) := (Int.ofNat_tmod z a).symm
                    have m1 := Hdl.out z hzn
                    have m2 := Nat.mod_lt z haw
                    obtain ⟨zy, Hzy⟩ : ∃ zy, Hid (z / a = zy) := ⟨_, rfl⟩
                    obtain ⟨zx, Hzx⟩ : ∃ zx, Hid (z % a = zx) := ⟨_, rfl⟩
                    rw [Hzy.out] at f1 m1 Hnx
                    rw [Hzx.out] at f2 m2 Hnx
                    obtain ⟨u, hu⟩ : ∃ u, rsN b ky zy = u := ⟨_, rfl⟩
                    obtain ⟨v, hv⟩ : ∃ v, rsN a kx zx = v := ⟨_, rfl⟩
                    rw [hu, hv] at Hnx
                    have hub : u ≤ 10 := by rw [← hu]; unfold rsN; omega
                    have hvb : v ≤ 10 := by rw [← hv]; unfold rsN; omega
                    have hzI : (0 : Int) ≤ (z : Int) := by omega
                    have hwp : IntKind.i64.wrap ((u : Int) + (v : Int)) = ((u + v : Nat) : Int) := by rw [IntWalk.i64_in _ (by omega)]; omega
                    have hcl : nrC a b far k (zs.take j) ≤ 1048576 := Nat.le_trans (nrC_le _ _ _ _ _) (by rw [List.length_take]; omega)
                    obtain ⟨N, HN⟩ : ∃ N, Hid (nrC a b far k (zs.take j) = N) := ⟨_, rfl⟩
                    rw [HN.out] at Hnx hcl ⊢
                    clear hzr hjz
                    by_cases hd : ((u + v : Nat) : Int) ≤ far
                    · have Hn2 : Hid (nrC a b far k (zs.take (j + 1)) = N + 1) := by show _ = _; rw [Hnx.out, if_pos hd]
                      clear Hnx
                      go_wp2
                      go_quiet ((go_at_call 63; exact quiet9 (HRS.out _ _ _ _ _ (by assumption) (by assumption) (by assumption) (by assumption)) _ rfl))
                      go_wp2
                      go_roundw
                      case rel => exact ⟨j + 1, _, by omega, by go_num, by rw [Hn2.out]; go_num, rfl⟩
                      case measure => simp [intOf]; omega
                    · have Hn2 : Hid (nrC a b far k (zs.take (j + 1)) = N) := by show _ = _; rw [Hnx.out, if_neg hd]; rfl
                      clear Hnx
                      go_wp2
                      go_quiet ((go_at_call 63; exact quiet9 (HRS.out _ _ _ _ _ (by assumption) (by assumption) (by assumption) (by assumption)) _ rfl))
                      go_wp2
                      go_roundw
                      case rel => exact ⟨j + 1, _, by omega, by go_num, by rw [Hn2.out], rfl⟩
                      case measure => simp [intOf]; omega
                  · have hjt2 : j = t := by omega
                    obtain ⟨N, HN⟩ : ∃ N, Hid (nrC a b far k (zs.take j) = N) := ⟨_, rfl⟩
                    have HN2 : Hid (nrC a b far k zs = N) := by show _ = _; rw [← HN.out, hjt2, ← Hl.out, List.take_length]
                    rw [HN.out]
                    clear hjt2
                    by_cases hN1 : N = 1
                    · subst hN1
                      have HK2 : Hid (∀ v, v < k + 1 → nrC a b far v zs = 1) := fun v hv => by
                        by_cases e : v = k
                        · subst e; exact HN2.out
                        · exact HK.out v (by omega)
                      go_wp2
                      go_roundw
                      case rel => exact ⟨k + 1, _, by omega, by go_num, HK2, rfl⟩
                      case measure => simp [intOf]; omega
                    · have Hf : Hid (res = false) := by show _ = _; rw [Hs.out]; exact ones_no hkn (by rw [HN2.out]; exact hN1)
                      have hne : ((N : Int) != 1) = true := by rw [bne_iff_ne]; omega
                      clear hN1
                      go_wp2
                      go_ret
                      exact ⟨ret_bool Hf.out.symm, by first | exact below_drewN (below_drewN (Below.refl _ _) _) _ | exact below_drewN (Below.refl _ _) _⟩
              · obtain rfl : k = n := by omega
                have Hf : Hid (res = true) := by show _ = _; rw [Hs.out]; exact ones_iff.2 HK.out
                go_wp2
                go_ret
                exact ⟨ret_bool Hf.out.symm, by first | exact below_drewN (below_drewN (Below.refl _ _) _) _ | exact below_drewN (Below.refl _ _) _⟩
      · have H3 := Lib.hid (inRange_no far 0 50 W (by omega))
        have Hs := Lib.hid (prf_no (w := w) (h := h) (zs := zs) (far := far) (.inr (.inl (by omega))))
        rw [Hs.out]
        clear hw hh hf hin
        go_enter Try.func30, Try.ntmps30
        go_wp2_with fail
        refine H1.out.mono ?_
        rintro e w' ⟨rfl, rfl⟩
        go_wp2_with fail
        refine H2.out.mono ?_
        rintro e w' ⟨rfl, rfl⟩
        go_wp2_with fail
        refine H3.out.mono ?_
        rintro e w' ⟨rfl, rfl⟩
        go_wp2
        go_ret
        exact ⟨rfl, Below.refl _ _⟩
    · have H2 := Lib.hid (inRange_no h 1 10 W (by omega))
      have Hs := Lib.hid (prf_no (w := w) (h := h) (zs := zs) (far := far) (.inl (fun hr => hh hr.2)))
      rw [Hs.out]
      clear hw hh hin
      go_enter Try.func30, Try.ntmps30
      go_wp2_with fail
      refine H1.out.mono ?_
      rintro e w' ⟨rfl, rfl⟩
      go_wp2_with fail
      refine H2.out.mono ?_
      rintro e w' ⟨rfl, rfl⟩
      go_wp2
      go_ret
      exact ⟨rfl, Below.refl _ _⟩
  · have H1 := Lib.hid (inRange_no w 1 10 W (by omega))
    have Hs := Lib.hid (prf_no (w := w) (h := h) (zs := zs) (far := far) (.inl (fun hr => hw hr.1)))
    rw [Hs.out]
    clear hw hin
    go_enter Try.func30, Try.ntmps30
    go_wp2_with fail
    refine H1.out.mono ?_
    rintro e w' ⟨rfl, rfl⟩
    go_wp2
    go_ret
    exact ⟨rfl, Below.refl _ _⟩
end Go.Proofs.Ytkgomgfhhhdnjaa
namespace Go.Proofs.Ytkgomgfhhhdnjaa
open Go.ChangeShapes Go.WideShapes Go.ChangeAt Go.RowKit
set_option linter.unusedVariables false
set_option maxRecDepth 4000

theorem slL_yes {w k a : Nat} (h : (k % w + 2 * (k / w)) % 5 = a) : slL w (k + 1) a = slL w k a ++ [(k : Int)] := by
  unfold slL slN; rw [List.range_succ, List.filter_append, List.map_append]; simp [h]
theorem slL_no {w k a : Nat} (h : ¬ (k % w + 2 * (k / w)) % 5 = a) : slL w (k + 1) a = slL w k a := by
  unfold slL slN; rw [List.range_succ, List.filter_append, List.map_append]; simp [h]
set_option maxHeartbeats 1600000 in
theorem sSlantCells_ok : GSlant 33 := by
  intro w h at0 W
  obtain ⟨i0, hi0, hz0, hz1, hz2⟩ := info_parts intInfo
  by_cases hw : 1 ≤ w ∧ w ≤ 10
  · have H1 := Lib.hid (inRange_yes w 1 10 W hw.1 hw.2)
    by_cases hh : 1 ≤ h ∧ h ≤ 10
    · have H2 := Lib.hid (inRange_yes h 1 10 W hh.1 hh.2)
      by_cases hf : 0 ≤ at0 ∧ at0 ≤ 4
      · have H3 := Lib.hid (inRange_yes at0 0 4 W hf.1 hf.2)
        obtain ⟨a, b, rfl, rfl, g⟩ := rok_nat (show rok w h from ⟨hw, hh⟩)
        obtain ⟨r, rfl⟩ := Int.eq_ofNat_of_zero_le hf.1
        have hm : (a : Int) * (b : Int) = ((a * b : Nat) : Int) := (Int.natCast_mul a b).symm
        have hn100 := g.n100
        have Hs := Lib.hid (slG_yes g (show r < 5 by omega))
        have haw := g.w1
        have haw10 := g.w10
        obtain ⟨n, Hn⟩ : ∃ n, Hid (a * b = n) := ⟨_, rfl⟩
        rw [Hn.out] at hm hn100 Hs
        rw [Hs.out]
        have HO0 : Hid (OwnG (W.alloc (.cells #[] 3)) W.heap.size W.heap.size 0 0 (slL a 0 r)) := ⟨rfl, World.ownsRow_lit W #[] 0 (Nat.le_refl _) (by decide) rfl⟩
        have HB0 : Hid (Below W.heap.size W (W.alloc (.cells #[] 3))) := (Below.refl _ _).alloc (Nat.le_refl _) _
        have hane : ¬ (a : Int) = 0 := by omega
        have haz : ((a : Int) == 0) = false := by rw [beq_eq_false_iff_ne]; exact hane
        clear hw hh hf g Hs
        go_enter Try.func33, Try.ntmps33
        go_wp2_with fail
        refine H1.out.mono ?_
        rintro e w' ⟨rfl, rfl⟩
        go_wp2_with fail
        refine H2.out.mono ?_
        rintro e w' ⟨rfl, rfl⟩
        go_wp2_with fail
        refine H3.out.mono ?_
        rintro e w' ⟨rfl, rfl⟩
        go_wp2
        go_loopw [7, 8] (fun o i wr => ∃ m g c L : Nat, m ≤ n ∧ L ≤ m ∧ o = .slice (some ⟨g, 0, none⟩) L c ∧ i = .int .i64 m ∧ Hid (OwnG wr W.heap.size g c L (slL a m r)) ∧ Hid (Below W.heap.size W wr)) (fun _ i _ => n - (intOf i).toNat)
        case atStart => exact ⟨0, _, 0, 0, by omega, by omega, rfl, rfl, HO0, HB0⟩
        case round =>
          clear HO0 HB0
          obtain ⟨m, g, c, L, hm', hLm, rfl, rfl, HO, HB⟩ := hrel
          by_cases hlt : m < n
          · have e1 : (m : Int).tdiv (a : Int) = ((m / a : Nat) : Int) := (Int.ofNat_tdiv m a).symm
            have e2 : (m : Int).tmod (a : Int) = ((m % a : Nat) : Int) := (Int.ofNat_tmod m a).symm
            have l1 : m / a ≤ m := Nat.div_le_self _ _
            have l2 := Nat.mod_lt m haw
            have Hyes : Hid ((m % a + 2 * (m / a)) % 5 = r → slL a (m + 1) r = slL a m r ++ [(m : Int)]) := slL_yes
            have Hno : Hid (¬ (m % a + 2 * (m / a)) % 5 = r → slL a (m + 1) r = slL a m r) := slL_no
            obtain ⟨y, Hy⟩ : ∃ y, Hid (m / a = y) := ⟨_, rfl⟩
            obtain ⟨x, Hx⟩ : ∃ x, Hid (m % a = x) := ⟨_, rfl⟩
            rw [Hy.out] at e1 l1 Hyes Hno
            rw [Hx.out] at e2 l2 Hyes Hno
            have e3 : ((x : Int) + 2 * (y : Int)).tmod 5 = (((x + 2 * y) % 5 : Nat) : Int) := by
              rw [show ((x : Int) + 2 * (y : Int)) = ((x + 2 * y : Nat) : Int) by omega]; exact (Int.ofNat_tmod (x + 2 * y) 5).symm
            obtain ⟨u, Hu⟩ : ∃ u, Hid ((x + 2 * y) % 5 = u) := ⟨_, rfl⟩
            rw [Hu.out] at e3 Hyes Hno
            by_cases hd : u = r
            · have HT := Lib.hid (Hyes.out hd)
              have hb1 : ((u : Int) == (r : Int)) = true := by rw [beq_iff_eq]; omega
              have Hlen := Lib.hid HO.out.1
              have Hown := Lib.hid HO.out.2
              clear Hyes Hno hd
              go_wp2
              go_quiet (fail)
              have HB2 := Lib.hid (below_drewN HB.out nq)
              have Hown2 : Hid ((wr.drewN nq).ownsRow W.heap.size 3 1 (.slice (some ⟨g, 0, none⟩) L c) L ((slL a m r).map (Value.int .i64))) := Hown.out
              have hsz : L + 1 ≤ maxLen := by unfold maxLen; omega
              have hsz2 : (L + 1) * 8 ≤ 140737488355328 := by omega
              have hsz3 : W.heap.size ≤ ((wr.drewN nq).alloc (.cells #[.int .i64 m] 3)).heap.size := by rw [size_alloc1]; have := HB2.out.size; omega
              clear HO HB
              go_wp2_with (at_builtin; refine wpList_append_lies _ rfl _ _ 25 rfl W.heap.size 3 i0 _ 1 8 Try.underlying25 hi0 hz0 hz1 hz2 rfl (by decide) _ _ _ rfl (Hown2.out.alloc _) ⟨(wr.drewN nq).heap.size, 0, none⟩ 1 1 [.int .i64 m] rfl rfl (cell_one_new _ _ _) (by intro u hu; simp at hu; subst hu; rfl) (by decide) hsz hsz2 hsz3 _ rfl ?_; intro g3 c3 w4 hown4 hgrow4 hat4 hlt4)
              have HO4 : Hid (OwnG w4 W.heap.size g3 c3 (L + 1) (slL a (m + 1) r)) := by show OwnG _ _ _ _ _ _; rw [HT.out]; exact ownG_push Hlen.out hown4
              have HB4 : Hid (Below W.heap.size W w4) := (HB2.out.alloc HB2.out.size _).grown hgrow4 hsz3 (fun q hq => (Hown2.out.lt q hq).1)
              clear hown4 hgrow4 hat4 hlt4 Hown Hown2 hsz hsz2 hsz3
              go_wp2
              go_roundw
              case rel => exact ⟨m + 1, g3, c3, L + 1, by omega, by omega, rfl, by go_num, HO4, HB4⟩
              case measure => simp [intOf]; omega
            · have HT := Lib.hid (Hno.out hd)
              have hb1 : ((u : Int) == (r : Int)) = false := by rw [beq_eq_false_iff_ne]; omega
              clear Hyes Hno hd
              go_wp2
              go_quiet (fail)
              have HB2 := Lib.hid (below_drewN HB.out nq)
              have HO4 : Hid (OwnG (wr.drewN nq) W.heap.size g c L (slL a (m + 1) r)) := by show OwnG _ _ _ _ _ _; rw [HT.out]; exact HO.out
              clear HO HB
              go_wp2
              go_roundw
              case rel => exact ⟨m + 1, g, c, L, by omega, by omega, rfl, by go_num, HO4, HB2⟩
              case measure => simp [intOf]; omega
          · obtain rfl : m = n := by omega
            have HD := Lib.hid (HO.out.row HB.out)
            go_wp2
            go_ret
            exact HD.out
      · have H3 := Lib.hid (inRange_no at0 0 4 W (by omega))
        have Hs := Lib.hid (rowG_nil (slG_no (w := w) (h := h) (a := at0) (fun hr => hf (by omega))) (Below.refl W.heap.size W))
        clear hw hh hf
        go_enter Try.func33, Try.ntmps33
        go_wp2_with fail
        refine H1.out.mono ?_
        rintro e w' ⟨rfl, rfl⟩
        go_wp2_with fail
        refine H2.out.mono ?_
        rintro e w' ⟨rfl, rfl⟩
        go_wp2_with fail
        refine H3.out.mono ?_
        rintro e w' ⟨rfl, rfl⟩
        go_wp2
        go_ret
        exact Hs.out
    · have H2 := Lib.hid (inRange_no h 1 10 W (by omega))
      have Hs := Lib.hid (rowG_nil (slG_no (w := w) (h := h) (a := at0) (fun hr => hh hr.1.2)) (Below.refl W.heap.size W))
      clear hw hh
      go_enter Try.func33, Try.ntmps33
      go_wp2_with fail
      refine H1.out.mono ?_
      rintro e w' ⟨rfl, rfl⟩
      go_wp2_with fail
      refine H2.out.mono ?_
      rintro e w' ⟨rfl, rfl⟩
      go_wp2
      go_ret
      exact Hs.out
  · have H1 := Lib.hid (inRange_no w 1 10 W (by omega))
    have Hs := Lib.hid (rowG_nil (slG_no (w := w) (h := h) (a := at0) (fun hr => hw hr.1.1)) (Below.refl W.heap.size W))
    clear hw
    go_enter Try.func33, Try.ntmps33
    go_wp2_with fail
    refine H1.out.mono ?_
    rintro e w' ⟨rfl, rfl⟩
    go_wp2
    go_ret
    exact Hs.out
end Go.Proofs.Ytkgomgfhhhdnjaa
namespace Go.Proofs.Ytkgomgfhhhdnjaa
open Go.ChangeShapes Go.WideShapes Go.ChangeAt Go.RowKit
set_option linter.unusedVariables false

theorem toI_step {w : World} {b k n : Nat} {zs : List Int} {cap B : Nat} (hn : zs.length = n) (hk : k < n)
    (hown : w.ownsRow B 3 1 (.slice (some ⟨b, 0, none⟩) n cap) n ((zs.take k).map (Value.int .i64) ++ List.replicate (n - k) (Value.int .i64 0))) :
    (w.setCell ⟨b, k, none⟩ (Value.int .i64 (zs.getD k 0))).ownsRow B 3 1 (.slice (some ⟨b, 0, none⟩) n cap) n ((zs.take (k + 1)).map (Value.int .i64) ++ List.replicate (n - (k + 1)) (Value.int .i64 0)) := by
  have h := hown.stored k (Value.int .i64 (zs.getD k 0))
  have e : ((zs.take k).map (Value.int .i64) ++ List.replicate (n - k) (Value.int .i64 0)).set k (Value.int .i64 (zs.getD k 0)) = (zs.take (k + 1)).map (Value.int .i64) ++ List.replicate (n - (k + 1)) (Value.int .i64 0) := by
    have hl : ((zs.take k).map (Value.int .i64)).length = k := by simp; omega
    rw [List.set_append_right _ _ (by omega), hl, Nat.sub_self]
    have hr : List.replicate (n - k) (Value.int .i64 0) = Value.int .i64 0 :: List.replicate (n - (k + 1)) (Value.int .i64 0) := by
      rw [show n - k = (n - (k + 1)) + 1 by omega]; rfl
    rw [hr, List.set_cons_zero, List.take_succ_eq_append_getElem (by omega), List.map_append]
    have hg : zs.getD k 0 = zs[k]'(by omega) := by simp [List.getD, List.getElem?_eq_getElem (show k < zs.length by omega)]
    rw [hg]; simp
  rw [e] at h
  exact h.1

theorem copied_mk {w w' : World} {n : Nat} {zs : List Int} (hn : zs.length = n)
    (hown : w'.ownsRow w.heap.size 3 1 (.slice (some ⟨w.heap.size, 0, none⟩) n n) n (zs.map (Value.int .i64) ++ List.replicate 0 (Value.int .i64 0))) (hnx : Below w.heap.size w w') :
    Copied w zs (.returned (.slice (some ⟨w.heap.size, 0, none⟩) n n)) w' := by
  subst hn
  simp only [List.replicate_zero, List.append_nil] at hown
  exact ⟨w.heap.size, rfl, Nat.le_refl _, rdI_of_own hown rfl, hnx, hown⟩

set_option maxHeartbeats 400000 in
theorem toInt_any (A : Option Addr) (c : Nat) (n : Nat) (zs : List Int) (w : World) (hr : RdI w w.heap.size A zs) (hn : zs.length = n) (hb : n ≤ 1048576) :
    Calls Try.prog 39 #[.slice A n c] w (Copied w zs) := by
  obtain ⟨i0, hi0, hz0, hz1, hz2⟩ := info_parts intInfo
  have Hn := Lib.hid hn
  clear hn
  go_enter Try.func39, Try.ntmps39
  go_wp2_with (at_make; refine wpList_make_full _ rfl _ _ 25 rfl w.heap.size 3 i0 _ 1 Try.underlying25 hi0 hz0 hz1 _ _ _ _ n rfl rfl rfl rfl (by rw [hz2]; omega) (by unfold maxLen; omega) (Nat.le_refl _) ?_; intro w1 hown1 hg1)
  have hs1 : w.heap.size < w1.heap.size := (hown1.lt w.heap.size rfl).2
  have hnx1 : Below w.heap.size w w1 := (Below.refl _ _).grown hg1 (Nat.le_refl _) (fun j hj => by cases hj)
  rw [made_ints] at hown1
  go_loopw [4] (fun i wr => ∃ k : Nat, k ≤ n ∧ i = .int .i64 k ∧ wr.ownsRow w.heap.size 3 1 (.slice (some ⟨w.heap.size, 0, none⟩) n n) n ((zs.take k).map (Value.int .i64) ++ List.replicate (n - k) (Value.int .i64 0)) ∧ Below w.heap.size w wr)
    (fun i _ => n - (intOf i).toNat)
  case atStart => exact ⟨0, Nat.zero_le _, rfl, by simpa using hown1, hnx1⟩
  case round =>
    obtain ⟨k, hk, rfl, hown, hnx⟩ := hrel
    by_cases hlt : k < n
    · obtain ⟨b, off, rfl, hbw, hc⟩ := (hr.below hnx).at_ (k := k) (by rw [Hn.out]; exact hlt)
      have hst := toI_step Hn.out hlt hown
      have hcell : ∃ v, wr.cell? ⟨w.heap.size, k, none⟩ = some v := by
        rw [hown.cellAt k (by omega)]
        exact ⟨_, List.getElem?_eq_getElem (by simp [Hn.out]; omega)⟩
      obtain ⟨v, hv⟩ := hcell
      have hfz := hown.frozenAt k
      have Hst := Lib.hid hst
      clear hst
      go_wp2
      go_roundw
      case rel => exact ⟨k + 1, by omega, by go_num, Hst.out, hnx.setCell (Nat.le_refl _) _⟩
      case measure => simp [intOf]; omega
    · have hkn : k = n := by omega
      have hnn : n - k = 0 := by omega
      rw [hnn, List.take_of_length_le (by rw [Hn.out]; omega)] at hown
      have HO := Lib.hid hown
      clear hown hnn
      clear hkn
      go_wp2
      go_ret
      exact copied_mk Hn.out HO.out hnx
end Go.Proofs.Ytkgomgfhhhdnjaa
namespace Go.Proofs.Ytkgomgfhhhdnjaa
open Go.ChangeShapes Go.WideShapes Go.ChangeAt Go.RowKit
set_option linter.unusedVariables false
set_option maxRecDepth 4000

/-- The numbers from k on. -/
def mk (k : Int) (n : Nat) : List Int := (List.range n).map fun (i : Nat) => k + (i : Int)
theorem mk_len (k : Int) (n : Nat) : (mk k n).length = n := by simp [mk]
theorem mk_get {k : Int} {n i : Nat} (h : i < n) : (mk k n).getD i 0 = k + i := by simp [mk, List.getD, h]
/-- The first k elements are marks, the others as they were. -/
def mkL (k : Int) (zs : List Int) (m : Nat) : List Value := ((mk k m) ++ zs.drop m).map (Value.int .i64)
theorem mkL_step {w : World} {B b n cap m : Nat} {t : TypeId} {k : Int} {zs : List Int} (hm : m < zs.length) (hown : w.ownsRow B t 1 (.slice (some ⟨b, 0, none⟩) n cap) n (mkL k zs m)) :
    (w.setCell ⟨b, m, none⟩ (Value.int .i64 (k + m))).ownsRow B t 1 (.slice (some ⟨b, 0, none⟩) n cap) n (mkL k zs (m + 1)) := by
  have h := (hown.stored m (Value.int .i64 (k + m))).1
  have e : (mkL k zs m).set m (Value.int .i64 (k + m)) = mkL k zs (m + 1) := by
    unfold mkL
    rw [← List.map_set]
    congr 1
    apply List.ext_getElem?
    intro i
    rw [List.getElem?_set]
    by_cases e : m = i
    · subst e
      rw [if_pos rfl, if_pos (by simp [mk_len]; omega), List.getElem?_append_left (by simp [mk_len])]
      simp [mk]
    · rw [if_neg e]
      by_cases hi : i < m
      · rw [List.getElem?_append_left (by simp [mk_len, hi]), List.getElem?_append_left (by simp [mk_len]; omega)]
        simp [mk, hi, show i < m + 1 by omega]
      · rw [List.getElem?_append_right (by simp [mk_len]; omega), List.getElem?_append_right (by simp [mk_len]; omega)]
        simp only [mk_len, List.getElem?_drop]
        congr 1; omega
  rw [e] at h
  exact h
def MarkPost (B g n cap : Nat) (k : Int) (w : World) (e : Ending) (w' : World) : Prop :=
  e = .returned (.int .i64 (k + n)) ∧ w'.ownsRow B 3 1 (.slice (some ⟨g, 0, none⟩) n cap) n ((mk k n).map (Value.int .i64)) ∧ w.grownBy w' (some g)
set_option maxHeartbeats 800000 in
theorem markI_any (w : World) (B g n cap : Nat) (k : Int) (zs : List Int) (hown : w.ownsRow B 3 1 (.slice (some ⟨g, 0, none⟩) n cap) n (zs.map (Value.int .i64))) (hn : zs.length = n) (hn7 : n ≤ 1048576) (hk0 : 0 ≤ k) (hk : k ≤ 100000000) :
    Calls Try.prog 37 #[.slice (some ⟨g, 0, none⟩) n cap, .int .i64 k] w (MarkPost B g n cap k w) := by
  have Hn := Lib.hid hn
  have Hown := Lib.hid hown
  clear hn hown
  go_enter Try.func37, Try.ntmps37
  go_wp2
  go_loopw [1, 5] (fun a i wr => ∃ m : Nat, m ≤ n ∧ i = .int .i64 m ∧ a = .int .i64 (k + m) ∧ wr.ownsRow B 3 1 (.slice (some ⟨g, 0, none⟩) n cap) n (mkL k zs m) ∧ w.grownBy wr (some g)) (fun _ i _ => n - (intOf i).toNat)
  case atStart => exact ⟨0, by omega, rfl, by simp, by simpa [mkL, mk] using Hown.out, ⟨rfl, rfl, rfl, Nat.le_refl _, fun _ _ _ => rfl⟩⟩
  case round =>
    obtain ⟨m, hm, rfl, rfl, hown, hg⟩ := hrel
    by_cases hlt : m < n
    · have hst := mkL_step (by rw [Hn.out]; exact hlt) hown
      obtain ⟨v, hv⟩ := own_cell hown (j := m) (by omega) (by unfold mkL; simp [mk_len, Hn.out]; omega)
      have hf := hown.frozenAt m
      have hgs := (hown.stored m (.int .i64 (k + m))).2
      have HST := Lib.hid hst
      have HG := Lib.hid (gb_trans hg hgs (.inl rfl))
      clear hst hgs hown hg
      go_wp2
      go_roundw
      case rel => exact ⟨m + 1, by omega, by go_num, by congr 1; omega, HST.out, HG.out⟩
      case measure => simp [intOf]; omega
    · have hmn : m = n := by omega
      subst hmn
      have HO := Lib.hid hown
      clear hown
      go_wp2
      go_ret
      refine ⟨rfl, ?_, hg⟩
      have := HO.out
      unfold mkL at this
      rw [List.drop_of_length_le (by rw [Hn.out]; omega), List.append_nil] at this
      exact this
set_option maxHeartbeats 800000 in
theorem heldI_any (w : World) (B n c : Nat) (k : Int) (A : Option Addr) (hr : RdI w B A (mk k n)) (hn7 : n ≤ 1048576) (hk0 : 0 ≤ k) (hk : k ≤ 100000000) :
    Calls Try.prog 38 #[.slice A n c, .int .i64 k] w fun e w' => e = .returned (.int .i64 (k + n)) ∧ w = w' := by
  go_enter Try.func38, Try.ntmps38
  go_wp2
  go_loop [1, 5] (fun a i => ∃ m : Nat, m ≤ n ∧ i = .int .i64 m ∧ a = .int .i64 (k + m)) (fun _ i => n - (intOf i).toNat)
  case atStart => exact ⟨0, by omega, rfl, by simp⟩
  case round =>
    obtain ⟨m, hm, rfl, rfl⟩ := hrel
    by_cases hlt : m < n
    · obtain ⟨b, off, x, rfl, -, Hx, hcx⟩ := hr.x (k := m) (by rw [mk_len]; exact hlt)
      have hx := Hx.out
      rw [mk_get hlt] at hx
      subst hx
      have hb1 : (k + (m : Int) != k + (m : Int)) = false := by simp
      go_wp2
      go_round
      case rel => exact ⟨m + 1, by omega, by go_num, by congr 1; omega⟩
      case measure => simp [intOf]; omega
    · have hmn : m = n := by omega
      subst hmn
      go_wp2
      go_ret
      exact ⟨rfl, rfl⟩
end Go.Proofs.Ytkgomgfhhhdnjaa
namespace Go.Proofs.Ytkgomgfhhhdnjaa
open Go.ChangeShapes Go.WideShapes Go.ChangeAt Go.RowKit
set_option linter.unusedVariables false
set_option maxRecDepth 4000

/-- A row of the call's own, nil or not, marked. -/
def MarkRow (B n c : Nat) (A : Option Addr) (w : World) (e : Ending) (w' : World) : Prop :=
  e = .returned (.int .i64 (1 + (n : Nat))) ∧ w'.ownsRow B 3 1 (.slice A n c) n ((mk 1 n).map (Value.int .i64)) ∧ Below B w w'
theorem markRow_any (w : World) (B n c : Nat) (A : Option Addr) (zs : List Int) (hown : w.ownsRow B 3 1 (.slice A n c) n (zs.map (Value.int .i64))) (hn : zs.length = n) (hn7 : n ≤ 1048576) (hB : B ≤ w.heap.size) :
    Calls Try.prog 37 #[.slice A n c, .int .i64 1] w (MarkRow B n c A w) := by
  have h0 := hown
  rcases hown.2 with ⟨he, hx⟩ | ⟨g, cap, cur, he, hg1, hg2, _⟩
  · injection he with h1 h2 h3
    subst h1 h2 h3
    clear h0 hown
    go_enter Try.func37, Try.ntmps37
    go_wp2
    go_loopw [1, 5] (fun a i wr => i = .int .i64 0 ∧ a = .int .i64 1 ∧ wr = w) (fun _ i _ => 0)
    case atStart => exact ⟨rfl, rfl, rfl⟩
    case round =>
      obtain ⟨rfl, rfl, rfl⟩ := hrel
      go_wp2
      go_ret
      exact ⟨rfl, World.ownsRow_nil _ _ _ _, Below.refl _ _⟩
  · injection he with h1 h2 h3
    subst h1 h3
    refine (markI_any w B g n c 1 zs h0 hn hn7 (by omega) (by omega)).mono ?_
    rintro e w' ⟨rfl, ho, hgr⟩
    exact ⟨rfl, ho, (Below.refl _ _).grown hgr hB (fun k hk => by injection hk with hk; omega)⟩

end Go.Proofs.Ytkgomgfhhhdnjaa
