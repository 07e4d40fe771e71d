/-
  TreeCover of the model.
  Conditions: none beyond what each theorem states.
-/
import Derived.Test.YtggpdlcompokoaaC1
import Derived.Test.YtggpdlcompokoaaA3
namespace Go.Proofs.Ytggpdlcompokoaa
open Go.ChangeShapes Go.WideShapes Go.ChangeAt Go.RowKit
set_option linter.unusedVariables false
set_option maxRecDepth 4000

theorem boolInfo : (Try.prog.info? 4).map (fun i => (i.zero, i.size, i.bytes)) = some (some (.bool false), 1, 1) := by kernel_rfl
theorem made_none (n : Nat) : (madeCells (Value.bool false).cells (n * 1)).toList = hrow (fun _ => false) n := by
  rw [Nat.mul_one]
  refine (toList_madeCells_one _ _).trans ?_
  unfold hrow
  apply List.ext_getElem?
  intro i
  by_cases h : i < n
  · simp [h]
  · rw [List.getElem?_eq_none (by simp; omega), List.getElem?_eq_none (by simp; omega)]
/-- A cell of the table, read in any later world. -/
theorem tab_at {wT wr : World} {B g c n v i : Nat} {VR : Nat → Value} {t : List (Int × Int)} (hO : Outer wT B n (.slice (some ⟨g, 0, none⟩) n c) VR) (hT : TT wT B n VR (rowN t n)) (hb : Below wT.heap.size wT wr) (hv : v < n) (hi : i < n) :
    ∃ gk ck, wr.cell? ⟨g, v, none⟩ = some (.slice (some ⟨gk, 0, none⟩) n ck) ∧ wr.cell? ⟨gk, i, none⟩ = some (.int .i64 (dn t n v i)) := by
  obtain ⟨gk, ck, e, hc⟩ := (hT.below hb).cells hv (k := i) (by rw [rowN_len]; exact hi)
  have h1 := Outer.cell (ownN_below hO hb) hv
  rw [e, rowN_len] at h1
  rw [rowN_get t hi] at hc
  exact ⟨gk, ck, h1, hc⟩
theorem Below.drewN2 {B : Nat} {a w : World} (h : Below B a w) (n : Nat) : Below B a (w.drewN n) := below_drewN h n

def CovRel (wT : World) (t : List (Int × Int)) (far : Int) (n : Nat) (T : Int) (o : Value) (wr : World) : Prop :=
  ∃ out : Nat, ∃ has : Nat → Bool, o = .int .i64 out ∧ leftC has n + out ≤ n ∧ Hid (T = out + covC t (dn t n) far n (n - out) has) ∧
    wr.ownsRow wT.heap.size 4 1 (.slice (some ⟨wT.heap.size, 0, none⟩) n n) n (hrow has n) ∧ Below wT.heap.size wT wr
def MarkRel (wT : World) (t : List (Int × Int)) (far : Int) (n : Nat) (has : Nat → Bool) (s : Nat) (i : Value) (wr : World) : Prop :=
  ∃ k : Nat, k ≤ n ∧ i = .int .i64 k ∧ wr.ownsRow wT.heap.size 4 1 (.slice (some ⟨wT.heap.size, 0, none⟩) n n) n (hrow (midC (dn t n) far has s k) n) ∧ Below wT.heap.size wT wr
theorem mark_store {w : World} {B b n cap k : Nat} {has : Nat → Bool} (v : Bool) (hk : k < n) (h : w.ownsRow B 4 1 (.slice (some ⟨b, 0, none⟩) n cap) n (hrow has n)) :
    (w.setCell ⟨b, k, none⟩ (.bool v)).ownsRow B 4 1 (.slice (some ⟨b, 0, none⟩) n cap) n (hrow (upd has k v) n) := by
  have h2 := (h.stored k (.bool v)).1
  rwa [hrow_set _ _ hk] at h2

set_option maxHeartbeats 1600000 in
theorem sTreeCover_any (A : Option Addr) (c n : Nat) (ts : List (Int × Int)) (far : Int) (w : World) (hr : RdR w w.heap.size A ts) (hn : ts.length = n) (hb : n ≤ 1152921504606846976) :
    Calls Try.prog 38 #[.slice A n c, .int .i64 far] w fun e w' => e = .returned (.int .i64 (cvv ts far)) ∧ Below w.heap.size w w' := by
  obtain ⟨i0, hi0, hz0, hz1, hz2⟩ := info_parts boolInfo
  by_cases hv : vt ts = true
  · have H1 := Lib.hid (sValidTree_is A c n ts w _ hr hn hb hv)
    by_cases hf : far < 0 ∨ 50 < far
    · have Hs := Lib.hid (cvv_no (t := ts) (.inr hf))
      have H2 := Lib.hid (inRange_no far 0 50 w hf)
      clear hv hf hr hn
      go_enter Try.func38, Try.ntmps38
      go_wp2_with fail
      refine H1.out.mono ?_
      rintro e w' ⟨rfl, rfl⟩
      go_wp2_with fail
      refine H2.out.mono ?_
      rintro e w' ⟨rfl, rfl⟩
      go_wp2
      go_ret
      exact ⟨ret_int Hs.out.symm, Below.refl _ _⟩
    · obtain ⟨h1, h7, -⟩ := (vt_iff ts).1 hv
      rw [hn] at h1 h7
      have H2 := Lib.hid (inRange_yes far 0 50 w (by omega) (by omega))
      obtain ⟨T, HT0⟩ : ∃ T, Hid (cvv ts far = T) := ⟨_, rfl⟩
      have Hs := Lib.hid (show T = ((0 : Nat) : Int) + covC ts (dn ts n) far n (n - 0) (fun _ => false) by
        rw [← HT0.out, cvv_yes hv (by omega) (by omega), hn]; simp)
      rw [HT0.out]
      have Ht := Lib.hid (treeTable_any A c n ts w hr hn hv)
      have Hn := Lib.hid hn
      have Ha := Lib.hid (vt_ahead hv)
      have Hv := Lib.hid hv
      have Hr := Lib.hid hr
      have hf0 : 0 ≤ far := by omega
      have hf1 : far ≤ 50 := by omega
      clear hv hf hr hn
      go_enter Try.func38, Try.ntmps38
      go_wp2_with fail
      refine H1.out.mono ?_
      rintro e w' ⟨rfl, rfl⟩
      go_wp2_with fail
      refine H2.out.mono ?_
      rintro e w' ⟨rfl, rfl⟩
      go_wp2_with fail
      refine Ht.out.mono ?_
      rintro e w4 ⟨v, VR, rfl, hO, hT, hnx4⟩
      rw [Hn.out] at hO hT
      obtain ⟨Ag, cg, rfl, -, -, hA⟩ := own_sliceN hO
      obtain ⟨g, rfl, -, -⟩ := hA (by omega)
      have HTab := Lib.hid (fun (wr : World) (hb : Below w4.heap.size w4 wr) v i (hv : v < n) (hi : i < n) => tab_at hO hT hb hv hi)
      have HB4 := Lib.hid hnx4
      have Hr4 := Lib.hid ((Hr.out.below hnx4).more hnx4.size)
      have Hdb := Lib.hid (fun v i (hv : v < n) (hi : i < n) => dn_bd Ha.out n v i (by rw [Hn.out]; exact Nat.le_refl _) hv hi)
      clear hO hT hnx4 hA Hr Ht H1 H2
      go_wp2_with (at_make; refine wpList_make_full _ rfl _ _ 85 rfl w4.heap.size 4 i0 _ 1 Try.underlying85 hi0 hz0 hz1 _ _ _ _ n rfl rfl rfl rfl (by rw [hz2]; omega) (by unfold maxLen; omega) (Nat.le_refl _) ?_; intro w5 hown5 hg5)
      have hnx5 : Below w4.heap.size w4 w5 := (Below.refl _ _).grown hg5 (Nat.le_refl _) (fun j hj => by cases hj)
      rw [made_none] at hown5
      have Hown5 := Lib.hid hown5
      clear hown5 hg5
      go_loopw [7] (fun o wr => CovRel w4 ts far n T o wr) (fun o _ => n - (intOf o).toNat)
      case atStart => exact ⟨0, fun _ => false, rfl, by rw [leftC_none]; omega, Hs.out, Hown5.out, hnx5⟩
      case round =>
        clear hnx5 Hown5 Hs
        obtain ⟨out, has, rfl, hlf, HC, hown, hbl⟩ := hrel
        obtain ⟨wo, rfl⟩ : ∃ wo : World, wo = wr := ⟨_, rfl⟩
        have Hown := Lib.hid hown
        clear hown
        go_wp2
        go_loopw [8, 9] (fun a i wr => ∃ k : Nat, ∃ q : Nat, k ≤ n ∧ i = .int .i64 k ∧ a = .int .i64 (fstC (dn ts n 0) has k) ∧ wr = wo.drewN q) (fun _ i _ => n - (intOf i).toNat)
        case atStart => exact ⟨0, 0, Nat.zero_le _, rfl, rfl, rfl⟩
        case round =>
          obtain ⟨k, q, hk, rfl, rfl, rfl⟩ := hrel
          have hab := fstC_bd (dn ts n 0) has k
          obtain ⟨a, Hae⟩ : ∃ a, Hid (fstC (dn ts n 0) has k = a) := ⟨_, rfl⟩
          rw [Hae.out] at hab ⊢
          by_cases hkn : k < n
          · have hck := Hown.out.cellAt k (by omega)
            rw [hrow_at has hkn] at hck
            obtain ⟨hb', Hhb⟩ : ∃ b, Hid (has k = b) := ⟨_, rfl⟩
            rw [Hhb.out] at hck
            cases hb' with
            | true =>
              have Hx := Lib.hid (show fstC (dn ts n 0) has (k + 1) = a by rw [fstC_no (by rw [Hhb.out]; simp), Hae.out])
              go_wp2
              go_quiet (fail)
              go_wp2
              go_roundw
              case rel => exact ⟨k + 1, _, by omega, by go_num, by rw [Hx.out], rfl⟩
              case measure => simp [intOf]; omega
            | false =>
              by_cases ha0 : a < 0
              · have Hx := Lib.hid (show fstC (dn ts n 0) has (k + 1) = k from fstC_yes ⟨Hhb.out, .inl (by rw [Hae.out]; exact ha0)⟩)
                go_wp2
                go_quiet (fail)
                go_wp2
                go_roundw
                case rel => exact ⟨k + 1, _, by omega, by go_num, by rw [Hx.out], rfl⟩
                case measure => simp [intOf]; omega
              · obtain ⟨a, rfl⟩ := Int.eq_ofNat_of_zero_le (show 0 ≤ a by omega)
                have han : a < n := by omega
                have hdec : decide ((a : Int) < 0) = false := decide_eq_false (by omega)
                obtain ⟨g0, c0, hc1, hc2⟩ := HTab.out wo hbl 0 k (by omega) hkn
                obtain ⟨g0', c0', hc1', hc3⟩ := HTab.out wo hbl 0 a (by omega) han
                rw [hc1] at hc1'
                injection hc1' with hc1'
                injection hc1' with e1 e2 e3
                injection e1 with e1
                injection e1 with e1 _
                subst e1
                obtain ⟨x, Hx⟩ : ∃ x, Hid (dn ts n 0 k = x) := ⟨_, rfl⟩
                obtain ⟨y, Hy⟩ : ∃ y, Hid (dn ts n 0 a = y) := ⟨_, rfl⟩
                rw [Hx.out] at hc2
                rw [Hy.out] at hc3
                by_cases hxy : y < x
                · have Hx' := Lib.hid (show fstC (dn ts n 0) has (k + 1) = k from fstC_yes ⟨Hhb.out, .inr (by rw [Hae.out]; show dn ts n 0 a < _; rw [Hx.out, Hy.out]; exact hxy)⟩)
                  go_wp2
                  go_quiet (fail)
                  go_wp2
                  go_roundw
                  case rel => exact ⟨k + 1, _, by omega, by go_num, by rw [Hx'.out], rfl⟩
                  case measure => simp [intOf]; omega
                · have Hx' := Lib.hid (show fstC (dn ts n 0) has (k + 1) = (a : Int) by
                    rw [fstC_no (by
                      rintro ⟨_, h | h⟩
                      · rw [Hae.out] at h; omega
                      · rw [Hae.out] at h
                        have h' : dn ts n 0 a < dn ts n 0 k := h
                        rw [Hx.out, Hy.out] at h'; exact hxy h'), Hae.out])
                  go_wp2
                  go_quiet (fail)
                  go_wp2
                  go_roundw
                  case rel => exact ⟨k + 1, _, by omega, by go_num, by rw [Hx'.out], rfl⟩
                  case measure => simp [intOf]; omega
          · have hkn' : k = n := by omega
            subst hkn'
            by_cases ha0 : a < 0
            · have Hfin := Lib.hid (show T = out by rw [HC.out, covC_end (by rw [Hae.out]; exact ha0)]; simp)
              go_wp2
              go_ret
              exact ⟨ret_int Hfin.out.symm, HB4.out.trans ((below_drewN hbl _).mono HB4.out.size)⟩
            · obtain ⟨a, rfl⟩ := Int.eq_ofNat_of_zero_le (show 0 ≤ a by omega)
              have han : a < k := by omega
              have hlt := left_next Ha.out (by rw [Hn.out]; exact Nat.le_refl _) hf0 Hae.out
              have HC' := Lib.hid (show T = ((out + 1 : Nat) : Int) + covC ts (dn ts k) far k (k - (out + 1)) (addC (dn ts k) far has (clmC ts (dn ts k) far a a a)) by
                rw [HC.out, show k - out = (k - (out + 1)) + 1 by omega, covC_next Hae.out]; omega)
              clear HC
              go_wp2
              go_loopw [10] (fun s wr => ∃ sp : Nat, ∃ f q' : Nat, sp ≤ f ∧ sp ≤ a ∧ s = .int .i64 sp ∧ Hid (clmC ts (dn ts k) far a a a = clmC ts (dn ts k) far a f sp) ∧ wr = wo.drewN q') (fun s _ => (intOf s).toNat)
              case atStart => exact ⟨a, a, q, Nat.le_refl _, Nat.le_refl _, rfl, rfl, rfl⟩
              case round =>
                obtain ⟨sp, f, q', hsf, hsa, rfl, HS, rfl⟩ := hrel
                by_cases hgo : 0 < sp ∧ dn ts k a (tto ts sp) ≤ far
                · obtain ⟨b, off, x, y, rfl, hbb, Hxy, hcx, hcy⟩ := RdR.x (Hr4.out.below hbl) (k := sp) (by rw [Hn.out]; omega)
                  obtain ⟨hto1, -⟩ := Ha.out sp hgo.1 (by rw [Hn.out]; omega)
                  have hto := vt_to Hv.out (i := sp) hgo.1 (by rw [Hn.out]; omega)
                  rw [Hxy.out] at hto
                  have hto' : x = (tto ts sp : Int) := hto
                  obtain ⟨p, Hp⟩ : ∃ p, Hid (tto ts sp = p) := ⟨_, rfl⟩
                  rw [Hp.out] at hto1 hto'
                  subst hto'
                  obtain ⟨f', rfl⟩ : ∃ f', f = f' + 1 := ⟨f - 1, by omega⟩
                  have HS' := Lib.hid (show clmC ts (dn ts k) far a a a = clmC ts (dn ts k) far a f' p by rw [HS.out, clmC_up hgo, Hp.out])
                  have hpk : p < k := by omega
                  obtain ⟨ga, ca, hc1, hc2⟩ := HTab.out wo hbl a p han hpk
                  obtain ⟨z, Hz⟩ : ∃ z, Hid (dn ts k a p = z) := ⟨_, rfl⟩
                  rw [Hz.out] at hc2
                  have hs0 := hgo.1
                  have hz := hgo.2
                  rw [Hp.out, Hz.out] at hz
                  clear hgo hto hcy HS
                  go_wp2
                  go_quiet (fail)
                  go_wp2
                  go_roundw
                  case rel => exact ⟨p, f', _, by omega, by omega, rfl, HS', rfl⟩
                  case measure => simp [intOf]; omega
                · have HS' := Lib.hid (show clmC ts (dn ts k) far a a a = sp by rw [HS.out, clmC_stop hgo])
                  clear HS
                  by_cases hs0 : 0 < sp
                  all_goals
                    first
                    | (obtain ⟨b, off, x, y, rfl, hbb, Hxy, hcx, hcy⟩ := RdR.x (Hr4.out.below hbl) (k := sp) (by rw [Hn.out]; omega)
                       obtain ⟨hto1, -⟩ := Ha.out sp hs0 (by rw [Hn.out]; omega)
                       have hto := vt_to Hv.out (i := sp) hs0 (by rw [Hn.out]; omega)
                       rw [Hxy.out] at hto
                       have hto' : x = (tto ts sp : Int) := hto
                       obtain ⟨p, Hp⟩ : ∃ p, Hid (tto ts sp = p) := ⟨_, rfl⟩
                       rw [Hp.out] at hto1 hto'
                       subst hto'
                       have hpk : p < k := by omega
                       obtain ⟨ga, ca, hc1, hc2⟩ := HTab.out wo hbl a p han hpk
                       obtain ⟨z, Hz⟩ : ∃ z, Hid (dn ts k a p = z) := ⟨_, rfl⟩
                       rw [Hz.out] at hc2
                       have hz : ¬ z ≤ far := fun h => hgo ⟨hs0, by rw [Hp.out, Hz.out]; exact h⟩
                       clear hgo hto hcy
                       go_wp2
                       go_quiet (fail)
                       go_wp2)
                    | (have hd0 : decide ((0 : Int) < (sp : Int)) = false := decide_eq_false (by omega)
                       clear hgo
                       go_wp2
                       go_quiet (fail)
                       go_wp2)
                    go_loopw [11] (fun i wr => MarkRel w4 ts far k has sp i wr) (fun i _ => k - (intOf i).toNat)
                    case atStart => exact ⟨0, Nat.zero_le _, rfl, by rw [show hrow (midC (dn ts k) far has sp 0) k = hrow has k from hrow_congr fun i _ => by simp [midC]]; exact Hown.out, below_drewN hbl _⟩
                    case round =>
                      obtain ⟨m, hm, rfl, hown2, hbl2⟩ := hrel
                      by_cases hmk : m < k
                      · have hcm := hown2.cellAt m (by omega)
                        rw [hrow_at _ hmk] at hcm
                        have hmid : midC (dn ts k) far has sp m m = has m := by unfold midC; rw [if_neg (by omega)]
                        rw [hmid] at hcm
                        have hfm := hown2.frozenAt m
                        have Hown2 := Lib.hid hown2
                        have hspk : sp < k := by omega
                        obtain ⟨gs, cs, hc1', hc2'⟩ := HTab.out wr hbl2 sp m hspk hmk
                        obtain ⟨z', Hz'⟩ : ∃ z, Hid (dn ts k sp m = z) := ⟨_, rfl⟩
                        rw [Hz'.out] at hc2'
                        obtain ⟨hm', Hhm⟩ : ∃ b, Hid (has m = b) := ⟨_, rfl⟩
                        rw [Hhm.out] at hcm
                        clear hown2 hmid
                        cases hm' with
                        | true =>
                          have Hst := Lib.hid (mark_store true hmk Hown2.out)
                          rw [midC_step (b := true) (by simp [addC, Hhm.out])] at Hst
                          have Hbs := Lib.hid (hbl2.grown (Hown2.out.stored m (.bool true)).2 hbl2.size (fun g hg => (Hown2.out.lt g hg).1))
                          go_wp2
                          go_roundw
                          case rel => exact ⟨m + 1, by omega, by go_num, Hst.out, Hbs.out⟩
                          case measure => simp [intOf]; omega
                        | false =>
                          have Hst := Lib.hid (mark_store (decide (z' ≤ far)) hmk Hown2.out)
                          rw [midC_step (b := decide (z' ≤ far)) (by simp [addC, Hhm.out, Hz'.out])] at Hst
                          have Hbs := Lib.hid (hbl2.grown (Hown2.out.stored m (.bool (decide (z' ≤ far)))).2 hbl2.size (fun g hg => (Hown2.out.lt g hg).1))
                          go_wp2
                          go_roundw
                          case rel => exact ⟨m + 1, by omega, by go_num, Hst.out, Hbs.out⟩
                          case measure => simp [intOf]; omega
                      · obtain rfl : m = k := by omega
                        have hfull : hrow (midC (dn ts m) far has sp m) m = hrow (addC (dn ts m) far has sp) m := hrow_congr fun i hi => by unfold midC; rw [if_pos hi]
                        rw [hfull] at hown2
                        rw [HS'.out] at HC' hlt
                        have Hown2 := Lib.hid hown2
                        clear hown2 hfull
                        go_wp2
                        go_roundw
                        case rel => exact ⟨out + 1, _, by go_num, by omega, HC', Hown2.out, hbl2⟩
                        case measure => simp [intOf]; omega
  · have hv' : vt ts = false := by simpa using hv
    have Hs := Lib.hid (cvv_no (far := far) (.inl hv'))
    have H1 := Lib.hid (sValidTree_is A c n ts w _ hr hn hb hv')
    clear hv hv' hr hn
    go_enter Try.func38, Try.ntmps38
    go_wp2_with fail
    refine H1.out.mono ?_
    rintro e w' ⟨rfl, rfl⟩
    go_wp2
    go_ret
    exact ⟨ret_int Hs.out.symm, Below.refl _ _⟩
end Go.Proofs.Ytggpdlcompokoaa
