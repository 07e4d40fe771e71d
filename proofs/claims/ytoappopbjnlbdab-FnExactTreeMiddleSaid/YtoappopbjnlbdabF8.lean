/-
  TreeMiddle: the model answers the first node without which no part has more than half of all people.
  Conditions: fewer than 2^60 roads and numbers.
-/
import Derived.Test.YtoappopbjnlbdabF7
import Derived.Test.YtoappopbjnlbdabF3
import Derived.Test.YtoappopbjnlbdabT2
namespace Go.Proofs.Ytoappopbjnlbdab
open Go.ChangeShapes Go.WideShapes Go.ChangeAt Go.RowKit
set_option linter.unusedVariables false
set_option maxRecDepth 4000

/-- Whether node a is fine as far as the nodes below k tell. -/
def mfin (t : List (Int × Int)) (fs : List Int) (n a : Nat) : Nat → Bool
  | 0 => decide (2 * (tot fs n - beh t fs a n) ≤ tot fs n)
  | k + 1 => mfin t fs n a k && !(decide (a < k) && (decide (tto t k = a) && decide (tot fs n < 2 * beh t fs k n)))
theorem mfin_start {t : List (Int × Int)} {fs : List Int} {n a : Nat} : ∀ k, k ≤ a + 1 → mfin t fs n a k = decide (2 * (tot fs n - beh t fs a n) ≤ tot fs n)
  | 0, _ => rfl
  | k + 1, h => by
    have ih := mfin_start (t := t) (fs := fs) (n := n) (a := a) k (by omega)
    simp only [mfin]
    rw [ih, show decide (a < k) = false by simp; omega]; simp
theorem mfin_true {t : List (Int × Int)} {fs : List Int} {n a : Nat} : ∀ k, mfin t fs n a k = true ↔ (2 * (tot fs n - beh t fs a n) ≤ tot fs n ∧ ∀ j, a < j → j < k → tto t j = a → ¬ tot fs n < 2 * beh t fs j n)
  | 0 => by simp only [mfin, decide_eq_true_eq]; exact ⟨fun h => ⟨h, fun j _ hj => by omega⟩, fun h => h.1⟩
  | k + 1 => by
    simp only [mfin, Bool.and_eq_true, mfin_true k, Bool.not_eq_true', Bool.and_eq_false_iff, decide_eq_false_iff_not]
    constructor
    · rintro ⟨⟨h1, h2⟩, h3⟩
      refine ⟨h1, fun j hj hk ht => ?_⟩
      by_cases e : j = k
      · subst e; rcases h3 with h | h | h
        · exact absurd hj h
        · exact absurd ht h
        · exact h
      · exact h2 j hj (by omega) ht
    · rintro ⟨h1, h2⟩
      refine ⟨⟨h1, fun j hj hk ht => h2 j hj (by omega) ht⟩, ?_⟩
      by_cases e1 : a < k
      · by_cases e2 : tto t k = a
        · exact .inr (.inr (h2 k e1 (by omega) e2))
        · exact .inr (.inl e2)
      · exact .inl e1
theorem mfin_mid {t : List (Int × Int)} {fs : List Int} {n a : Nat} (ht : Ahead t) (hn : n = t.length) (ha : a < n) (hf : ∀ i, 0 ≤ fs.getD i 0) (h0 : 0 ≤ tot fs n) : mfin t fs n a n = midOk t fs n a := by
  rw [Bool.eq_iff_iff, mfin_true]
  unfold midOk
  rw [List.all_eq_true]
  constructor
  · rintro ⟨h1, h2⟩ ⟨b, l⟩ hx
    rcases (nb_mem ht n (by omega) a ha b l).1 hx with ⟨g1, rfl, _⟩ | ⟨g1, g2, g3, _⟩
    · have hlt := (ht a g1 (by omega)).1
      simp only [pp, Bool.not_eq_true', decide_eq_false_iff_not]
      rw [if_pos hlt]; omega
    · simp only [pp, Bool.not_eq_true', decide_eq_false_iff_not]
      rw [if_neg (by omega)]
      exact h2 b g1 g2 g3
  · intro h
    refine ⟨?_, fun j hj hk hj2 => ?_⟩
    · by_cases ha0 : a = 0
      · subst ha0
        rw [beh_root ht n (by omega)]; omega
      · have hlt := (ht a (by omega) (by omega)).1
        have := h (tto t a, tlg t a) ((nb_mem ht n (by omega) a ha _ _).2 (.inl ⟨by omega, rfl, rfl⟩))
        simp only [pp, Bool.not_eq_true', decide_eq_false_iff_not] at this
        rw [if_pos hlt] at this; omega
    · have := h (j, tlg t j) ((nb_mem ht n (by omega) a ha _ _).2 (.inr ⟨hj, hk, hj2, rfl⟩))
      simp only [pp, Bool.not_eq_true', decide_eq_false_iff_not] at this
      rw [if_neg (by omega)] at this
      exact this
theorem addr_add2' {b off k : Nat} : (⟨b, off, none⟩ : Addr).add k = ⟨b, off + k, none⟩ := by unfold Addr.add; split <;> simp_all
def bl (t : List (Int × Int)) (fs : List Int) (n j : Nat) : List Int := (List.range n).map fun v => bsm t fs j v n
theorem bl_len (t : List (Int × Int)) (fs : List Int) (n j : Nat) : (bl t fs n j).length = n := by simp [bl]
theorem bl_get {t : List (Int × Int)} {fs : List Int} {n j v : Nat} (hv : v < n) : (bl t fs n j).getD v 0 = bsm t fs j v n := by simp [bl, List.getD, hv]
theorem bl_start {t : List (Int × Int)} {fs : List Int} {n : Nat} (hf : fs.length = n) (hn1 : 1 ≤ n) : bl t fs n (n - 1) = fs := by
  apply List.ext_getElem
  · rw [bl_len, hf]
  · intro i h1 h2
    have hi : i < n := by omega
    have : (bl t fs n (n - 1)).getD i 0 = fs.getD i 0 := by rw [bl_get hi, bsm_start hi n (Nat.le_refl _), if_pos hi]
    simpa [List.getD, List.getElem?_eq_getElem h1, List.getElem?_eq_getElem h2] using this
theorem bl_step {t : List (Int × Int)} {fs : List Int} {n j : Nat} (ht : Ahead t) (hn : n = t.length) (hj : j + 1 < n) :
    (bl t fs n (j + 1)).set (tto t (j + 1)) (bsm t fs (j + 1) (tto t (j + 1)) n + bsm t fs (j + 1) (j + 1) n) = bl t fs n j := by
  have hp := (ht (j + 1) (by omega) (by omega)).1
  apply List.ext_getElem
  · rw [List.length_set, bl_len, bl_len]
  · intro i h1 h2
    have hi : i < n := by rw [bl_len] at h2; exact h2
    rw [List.getElem_set]
    have e2 : (bl t fs n j)[i] = bsm t fs j i n := by simp [bl]
    have e3 : ∀ h, (bl t fs n (j + 1))[i]'h = bsm t fs (j + 1) i n := fun h => by simp [bl]
    rw [e2]
    by_cases e : tto t (j + 1) = i
    · rw [if_pos e, ← e]
      rw [bsm_step (fs := fs) (j := j) (v := tto t (j + 1)) ht (by omega) (by omega) n (by omega), if_pos rfl]
    · rw [if_neg e, e3]
      by_cases hij : i ≤ j
      · rw [bsm_step (fs := fs) (j := j) (v := i) ht (by omega) hij n (by omega), if_neg e]; omega
      · rw [bsm_behind (j := j) (v := i) (by omega) n]
theorem bsm_bd {t : List (Int × Int)} {fs : List Int} (hf : ∀ i, 0 ≤ fs.getD i 0) (j v : Nat) : ∀ m, 0 ≤ bsm t fs j v m ∧ bsm t fs j v m ≤ tot fs m
  | 0 => by simp [bsm, tot]
  | m + 1 => by
    have := bsm_bd (t := t) hf j v m
    have := hf m
    simp only [bsm, tot]
    split <;> omega
def DownRel (w : World) (t : List (Int × Int)) (fs : List Int) (n g cap : Nat) (i : Value) (wr : World) : Prop :=
  ∃ j : Nat, j < n ∧ i = .int .i64 j ∧ wr.ownsRow w.heap.size 3 1 (.slice (some ⟨g, 0, none⟩) n cap) n ((bl t fs n j).map (Value.int .i64)) ∧ Below w.heap.size w wr
set_option maxHeartbeats 2000000 in
theorem sTreeMiddle_any (A Af : Option Addr) (c n cf nf : Nat) (ts : List (Int × Int)) (fs : List Int) (w : World) (hr : RdR w w.heap.size A ts) (hn : ts.length = n) (hb : n ≤ 1152921504606846976)
    (hrf : RdI w w.heap.size Af fs) (hnf : fs.length = nf) (hbf : nf ≤ 1152921504606846976) :
    Calls Try.prog 22 #[.slice A n c, .slice Af nf cf] w fun e w' => e = .returned (.int .i64 (midv ts fs)) ∧ Below w.heap.size w w' := by
  obtain ⟨ii, hii, hzi0, hzi1, hzi2⟩ := info_parts intInfo
  by_cases hv : vt ts = true
  · obtain ⟨h1, h7, -⟩ := (vt_iff ts).1 hv
    rw [hn] at h1 h7
    have H1 := Lib.hid (sValidTree_is A c n ts w _ hr hn hb hv)
    by_cases hf : fk n fs = true
    · have H2 := Lib.hid (sValidFolk_is Af cf nf n fs w _ hrf hnf hbf hf)
      have Hs := Lib.hid (show midv ts fs = fstI (midOk ts fs n) n 0 by unfold midv; rw [if_pos ⟨hv, by rw [hn]; exact hf⟩, hn])
      have Hn := Lib.hid hn
      have Hv := Lib.hid hv
      have Hf := Lib.hid hf
      have Hr := Lib.hid hr
      have Hrf := Lib.hid hrf
      have hnfn : nf = n := by have := (fk_iff hf).1; omega
      have Hnf := Lib.hid hnf
      subst hnfn
      have htb := tot_bd (fk_iff hf).2 nf (Nat.le_refl _)
      have HBS := Lib.hid (fun j v => bsm_bd (t := ts) (fk_nonneg hf) j v nf)
      have HBL := Lib.hid (fun j (hj : j + 1 < nf) => bl_step (fs := fs) (vt_ahead hv) hn.symm hj)
      have HMF := Lib.hid (fun a (ha : a < nf) => mfin_mid (fs := fs) (vt_ahead hv) hn.symm ha (fk_nonneg hf) htb.1)
      have Hbe := Lib.hid (fun v => beh_nonneg (t := ts) (fk_nonneg hf) v nf)
      have Hbt := Lib.hid (fun v => beh_le_tot (t := ts) (fk_nonneg hf) v nf)
      have HR0 := Lib.hid (beh_root (fs := fs) (vt_ahead hv) nf (by omega))
      have HST := Lib.hid (bl_start (t := ts) hnf h1)
      obtain ⟨bf, of, e, hbf2, hcells⟩ := hrf (by omega)
      have hnews : ∀ j u, (fs.map (Value.int .i64))[j]? = some u → w.cell? ((⟨bf, of, none⟩ : Addr).add j) = some u := fun j u hu => by
        rw [addr_add2']
        rw [List.getElem?_map] at hu
        by_cases hj : j < fs.length
        · rw [hcells j hj]
          rw [List.getElem?_eq_getElem hj] at hu
          simp only [Option.map_some, Option.some.injEq] at hu
          rw [← hu]; simp [List.getD, List.getElem?_eq_getElem hj]
        · rw [List.getElem?_eq_none (by omega)] at hu; cases hu
      have hnewsA : ∀ j u, (fs.map (Value.int .i64))[j]? = some u → (w.alloc (.cells #[] 3)).cell? ((⟨bf, of, none⟩ : Addr).add j) = some u := fun j u hu => by
        rw [addr_add2']
        have := hnews j u hu
        rw [addr_add2'] at this
        rw [World.cell?_alloc_lt w _ _ hbf2]; exact this
      have HNA := Lib.hid hnewsA
      subst e
      have hlen : (fs.map (Value.int .i64)).length = nf * 1 := by rw [List.length_map, hnf, Nat.mul_one]
      have honec : ∀ u ∈ fs.map (Value.int .i64), u.oneCell' = true := by
        intro u hu
        obtain ⟨x, _, rfl⟩ := List.mem_map.1 hu
        rfl
      have hml : 0 + nf ≤ maxLen := by unfold maxLen; omega
      have hml2 : (0 + nf) * 8 ≤ 140737488355328 := by omega
      have hb1 := (Below.refl w.heap.size w).alloc (Nat.le_refl _) (.cells #[] 3)
      have HB1 := Lib.hid hb1
      have hlit : (w.alloc (.cells #[] 3)).ownsRow w.heap.size 3 1 (.slice (some ⟨w.heap.size, 0, none⟩) 0 0) 0 [] := World.ownsRow_lit w #[] 0 (Nat.le_refl _) (by decide) rfl
      have HLIT := Lib.hid hlit
      clear hv hf hr hrf hn hnf hnews hnewsA hcells hb1 hlit
      go_enter Try.func22, Try.ntmps22
      go_wp2_with fail
      refine H1.out.mono ?_
      rintro e w' ⟨rfl, rfl⟩
      go_wp2_with fail
      refine H2.out.mono ?_
      rintro e w' ⟨rfl, rfl⟩
      go_wp2_with (at_builtin; refine wpList_append_lies _ rfl _ _ 27 rfl w.heap.size 3 ii _ 1 8 Try.underlying27 hii hzi0 hzi1 hzi2 rfl (by decide) _ 0 [] rfl HLIT.out ⟨bf, of, none⟩ nf cf (fs.map (Value.int .i64)) rfl hlen HNA.out honec (by omega) hml hml2 HB1.out.size _ rfl ?_; intro g cap w1 hown hgrow hat hlt)
      have hb2 := HB1.out.grown hgrow HB1.out.size (fun k e => (own_heap HLIT.out (g := k) e).2.1)
      have hown2 : w1.ownsRow w.heap.size 3 1 (.slice (some ⟨g, 0, none⟩) nf cap) nf ((bl ts fs nf (nf - 1)).map (Value.int .i64)) := by
        rw [HST.out]
        simpa using hown
      have HO2 := Lib.hid hown2
      have HB2 := Lib.hid hb2
      clear hown hgrow hat hlt hb2 hown2 hlen honec hml hml2
      clear HLIT HNA
      go_wp2
      go_loopw [6] (fun i wr => DownRel w ts fs nf g cap i wr) (fun i _ => (intOf i).toNat)
      case atStart => exact ⟨nf - 1, by omega, by rw [show ((nf : Int) - 1) = ((nf - 1 : Nat) : Int) by omega], HO2.out, HB2.out⟩
      case round =>
        clear HO2 HB2
        obtain ⟨j, hj, rfl, hown, hnx⟩ := hrel
        have hcell : ∀ v, v < nf → wr.cell? ⟨g, v, none⟩ = some (.int .i64 (bsm ts fs j v nf)) := fun v hv => by
          rw [hown.cellAt v (by omega), List.getElem?_map, List.getElem?_eq_getElem (by rw [bl_len]; exact hv)]
          have := bl_get (t := ts) (fs := fs) (n := nf) (j := j) hv
          simp only [List.getD, List.getElem?_eq_getElem (show v < (bl ts fs nf j).length by rw [bl_len]; exact hv), Option.getD_some] at this
          rw [this]; rfl
        by_cases hpos : 0 < j
        · obtain ⟨k, rfl⟩ : ∃ k, j = k + 1 := ⟨j - 1, by omega⟩
          obtain ⟨b, off, x, y, rfl, -, Hx, hcx, hcy⟩ := (Hr.out.below hnx).x (k := k + 1) (by rw [Hn.out]; exact hj)
          have hx := vt_to Hv.out (i := k + 1) (by omega) (by rw [Hn.out]; exact hj)
          have hp := ((vt_ahead Hv.out) (k + 1) (by omega) (by rw [Hn.out]; exact hj)).1
          rw [Hx.out] at hx
          simp only at hx
          subst hx
          have hst := HBL.out k hj
          obtain ⟨p, Hp⟩ : ∃ p, Hid (tto ts (k + 1) = p) := ⟨_, rfl⟩
          rw [Hp.out] at hp hcx hst
          have cp := hcell p (by omega)
          have cj := hcell (k + 1) hj
          have fp := hown.frozenAt p
          have ep := HBS.out (k + 1) p
          have ej := HBS.out (k + 1) (k + 1)
          have hsto := (hown.stored p (.int .i64 (bsm ts fs (k + 1) p nf + bsm ts fs (k + 1) (k + 1) nf))).1
          rw [← List.map_set, hst] at hsto
          obtain ⟨Up, HUp⟩ : ∃ U, Hid (bsm ts fs (k + 1) p nf = U) := ⟨_, rfl⟩
          obtain ⟨Uj, HUj⟩ : ∃ U, Hid (bsm ts fs (k + 1) (k + 1) nf = U) := ⟨_, rfl⟩
          rw [HUp.out] at cp ep hsto
          rw [HUj.out] at cj ej hsto
          have w1' : IntKind.i64.wrap (Up + Uj) = Up + Uj := IntWalk.i64_in _ (by omega)
          have hgB := (own_heap hown (g := g) rfl).2.1
          have hb3 := hnx.setCell (p := ⟨g, p, none⟩) hgB (.int .i64 (Up + Uj))
          have HST2 := Lib.hid hsto
          have HB3 := Lib.hid hb3
          have hk0 : (0 : Int) < ((k + 1 : Nat) : Int) := by omega
          have cj' : wr.cell? ⟨g, k + 1, none⟩ = some (.int .i64 Uj) := cj
          clear hsto hb3 hcell hown hnx hst
          go_wp2
          go_region
          all_goals
            go_wp2
            go_roundw
            case rel => exact ⟨k, by omega, by go_num, HST2.out, HB3.out.drew⟩
            case measure => simp [intOf]
        · have hj0 : j = 0 := by omega
          have Hj0 := Lib.hid hj0
          clear hj0
          have hcb : ∀ v, v < nf → wr.cell? ⟨g, v, none⟩ = some (.int .i64 (beh ts fs v nf)) := fun v hv => by
            have := hcell v hv
            rw [Hj0.out, bsm_zero] at this
            exact this
          have HCB := Lib.hid hcb
          have HB := Lib.hid hnx
          obtain ⟨T, HT⟩ : ∃ T, Hid (tot fs nf = T) := ⟨_, rfl⟩
          rw [HT.out] at htb
          clear hcell hown hcb hnx
          go_wp2
          go_loopw [7] (fun i wx => ∃ a : Nat, ∃ q, a ≤ nf ∧ i = .int .i64 a ∧ Hid (fstI (midOk ts fs nf) nf 0 = fstI (midOk ts fs nf) (nf - a) a) ∧ wx = wr.drewN q) (fun i _ => nf - (intOf i).toNat)
          case atStart => exact ⟨0, 0, Nat.zero_le _, rfl, rfl, rfl⟩
          case round =>
            obtain ⟨a, q, ha, rfl, Ho, rfl⟩ := hrel
            by_cases hlt : a < nf
            · have c0 := HCB.out 0 (by omega)
              have ca := HCB.out a hlt
              have b1 := Hbe.out a
              have b2 := Hbt.out a
              rw [HR0.out] at c0
              rw [HT.out] at c0 b2
              have HM0 := Lib.hid (mfin_start (t := ts) (fs := fs) (n := nf) (a := a) (a + 1) (Nat.le_refl _))
              obtain ⟨Ua, HUa⟩ : ∃ U, Hid (beh ts fs a nf = U) := ⟨_, rfl⟩
              rw [HUa.out] at ca b1 b2
              have w1' : IntKind.i64.wrap (T - Ua) = T - Ua := IntWalk.i64_in _ (by omega)
              have w2' : IntKind.i64.wrap (2 * (T - Ua)) = 2 * (T - Ua) := IntWalk.i64_in _ (by omega)
              go_wp2
              go_quiet (fail)
              clear w1' w2' c0 ca
              go_wp2
              go_loopw [8, 9] (fun f i wx => ∃ k : Nat, ∃ q, a + 1 ≤ k ∧ k ≤ nf ∧ i = .int .i64 k ∧ f = .bool (mfin ts fs nf a k) ∧ wx = wr.drewN q) (fun _ i _ => nf - (intOf i).toNat)
              case atStart => exact ⟨a + 1, _, Nat.le_refl _, hlt, by go_num, by rw [HM0.out, HT.out, HUa.out], rfl⟩
              case round =>
                obtain ⟨k, q2, hk1, hk2, rfl, rfl, rfl⟩ := hrel
                by_cases hlk : k < nf
                · obtain ⟨b, off, x, y, rfl, -, Hx, hcx, hcy⟩ := (Hr.out.below HB.out).x (k := k) (by rw [Hn.out]; exact hlk)
                  have hx := vt_to Hv.out (i := k) (by omega) (by rw [Hn.out]; exact hlk)
                  rw [Hx.out] at hx
                  simp only at hx
                  subst hx
                  have c0 := HCB.out 0 (by omega)
                  have ck := HCB.out k hlk
                  have b1' := Hbe.out k
                  have b2' := Hbt.out k
                  rw [HR0.out] at c0
                  rw [HT.out] at c0 b2'
                  have hms : Hid (mfin ts fs nf a (k + 1) = (mfin ts fs nf a k && !(decide (a < k) && (decide (tto ts k = a) && decide (tot fs nf < 2 * beh ts fs k nf))))) := rfl
                  obtain ⟨Uk, HUk⟩ : ∃ U, Hid (beh ts fs k nf = U) := ⟨_, rfl⟩
                  obtain ⟨p, Hp⟩ : ∃ p, Hid (tto ts k = p) := ⟨_, rfl⟩
                  rw [HUk.out, HT.out, Hp.out] at hms
                  rw [HUk.out] at ck b1' b2'
                  rw [Hp.out] at hcx
                  obtain ⟨F, HF⟩ : ∃ F, Hid (mfin ts fs nf a k = F) := ⟨_, rfl⟩
                  rw [HF.out] at hms ⊢
                  have w1' : IntKind.i64.wrap (2 * Uk) = 2 * Uk := IntWalk.i64_in _ (by omega)
                  have hd1 : decide (a < k) = true := by simp; omega
                  by_cases hpa : p = a
                  · have hb1 : ((p : Int) == (a : Int)) = true := by rw [beq_iff_eq]; omega
                    by_cases hbig : T < 2 * Uk
                    · have hms2 : Hid (mfin ts fs nf a (k + 1) = false) := by show _ = _; rw [hms.out]; simp [hd1, hpa, hbig]
                      clear hd1 hpa
                      go_wp2
                      go_quiet (fail)
                      clear w1' c0 ck hcx hcy hb1
                      go_wp2
                      go_roundw
                      case rel => exact ⟨k + 1, _, by omega, by omega, by go_num, by rw [hms2.out], rfl⟩
                      case measure => simp [intOf]; omega
                    · have hms2 : Hid (mfin ts fs nf a (k + 1) = F) := by show _ = _; rw [hms.out]; simp [hbig]
                      clear hd1 hpa
                      go_wp2
                      go_quiet (fail)
                      clear w1' c0 ck hcx hcy hb1
                      go_wp2
                      go_roundw
                      case rel => exact ⟨k + 1, _, by omega, by omega, by go_num, by rw [hms2.out], rfl⟩
                      case measure => simp [intOf]; omega
                  · have hb1 : ((p : Int) == (a : Int)) = false := by rw [beq_eq_false_iff_ne]; omega
                    have hms2 : Hid (mfin ts fs nf a (k + 1) = F) := by show _ = _; rw [hms.out]; simp [hpa]
                    clear hd1 hpa
                    go_wp2
                    go_quiet (fail)
                    clear w1' c0 ck hcx hcy hb1
                    go_wp2
                    go_roundw
                    case rel => exact ⟨k + 1, _, by omega, by omega, by go_num, by rw [hms2.out], rfl⟩
                    case measure => simp [intOf]; omega
                · have hkn : k = nf := by omega
                  subst hkn
                  have hmm := HMF.out a hlt
                  by_cases hq : midOk ts fs k a = true
                  · have Hs2 := Lib.hid (Ho.out.trans (fstI_yes hlt hq))
                    rw [hmm, hq]
                    clear hmm hq
                    go_wp2
                    go_ret
                    exact ⟨ret_int (by rw [Hs.out]; exact Hs2.out.symm), below_drewN HB.out _⟩
                  · have hq' : midOk ts fs k a = false := by simpa using hq
                    have Hs2 := Lib.hid (Ho.out.trans (fstI_no hlt hq'))
                    rw [hmm, hq']
                    clear hmm hq hq'
                    go_wp2
                    go_roundw
                    case rel => exact ⟨a + 1, _, by omega, by go_num, Hs2, rfl⟩
                    case measure => simp [intOf]; omega
            · have Hs2 := Lib.hid (Ho.out.trans (fstI_end (by omega)))
              go_wp2
              go_ret
              exact ⟨ret_int (by rw [Hs.out]; exact Hs2.out.symm), below_drewN HB.out _⟩
    · have hf' : fk n fs = false := by simpa using hf
      have Hs := Lib.hid (midv_no (.inr ⟨hv, by rw [hn]; exact hf'⟩))
      have H2 := Lib.hid (sValidFolk_is Af cf nf n fs w _ hrf hnf hbf hf')
      clear hv hf hf' hr hrf hn hnf
      go_enter Try.func22, Try.ntmps22
      go_wp2_with fail
      refine H1.out.mono ?_
      rintro e w' ⟨rfl, rfl⟩
      go_wp2_with fail
      refine H2.out.mono ?_
      rintro e w' ⟨rfl, rfl⟩
      go_wp2
      go_ret
      exact ⟨ret_int Hs.out.symm, Below.refl _ _⟩
  · have hv' : vt ts = false := by simpa using hv
    have Hs := Lib.hid (midv_no (fs := fs) (.inl hv'))
    have H1 := Lib.hid (sValidTree_is A c n ts w _ hr hn hb hv')
    clear hv hv' hr hrf hn hnf
    go_enter Try.func22, Try.ntmps22
    go_wp2_with fail
    refine H1.out.mono ?_
    rintro e w' ⟨rfl, rfl⟩
    go_wp2
    go_ret
    exact ⟨ret_int Hs.out.symm, Below.refl _ _⟩
end Go.Proofs.Ytoappopbjnlbdab
