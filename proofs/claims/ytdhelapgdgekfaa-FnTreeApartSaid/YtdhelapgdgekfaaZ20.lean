/-
  TreeCover of the model.
  Conditions: none beyond what each theorem states.
  A walk over the program's tree, for the visit TreeCover$1, which writes into one block: walk, walked.
  Conditions: none beyond what each theorem states.
  The visit of TreeCover: who is near has one.
  Conditions: none beyond what each theorem states.
  highestNear: from a node on towards the node 0, while it is at most far.
  Conditions: none beyond what each theorem states.
-/
import Derived.Test.YtdhelapgdgekfaaZ17
import Derived.Test.YtdhelapgdgekfaaZ19
import Derived.Test.YtdhelapgdgekfaaZ11
import Derived.Laws.EntriesVeiled
import Derived.Deep.LoopGhost
namespace Go.Proofs.Ytdhelapgdgekfaa
open Go.ChangeShapes Go.WideShapes Go.ChangeAt Go.RowKit
set_option linter.unusedVariables false
set_option maxRecDepth 4000

theorem boolInfo : (Try.prog.info? 4).map (fun i => (i.zero, i.size, i.bytes)) = some (some (.bool false), 1, 1) := by kernel_rfl
theorem made_none (n : Nat) : (madeCells (Value.bool false).cells (n * 1)).toList = hrow (fun _ => false) n := by
  rw [Nat.mul_one]
  refine (toList_madeCells_one _ _).trans ?_
  unfold hrow
  apply List.ext_getElem?
  intro i
  by_cases h : i < n
  · simp [h]
  · rw [List.getElem?_eq_none (by simp; omega), List.getElem?_eq_none (by simp; omega)]
/-- A cell of the table, read in any later world. -/
theorem tab_at {wT wr : World} {B g c n v i : Nat} {VR : Nat → Value} {t : List (Int × Int)} (hO : Outer wT B n (.slice (some ⟨g, 0, none⟩) n c) VR) (hT : TT wT B n VR (rowN t n)) (hb : Below wT.heap.size wT wr) (hv : v < n) (hi : i < n) :
    ∃ gk ck, wr.cell? ⟨g, v, none⟩ = some (.slice (some ⟨gk, 0, none⟩) n ck) ∧ wr.cell? ⟨gk, i, none⟩ = some (.int .i64 (dn t n v i)) := by
  obtain ⟨gk, ck, e, hc⟩ := (hT.below hb).cells hv (k := i) (by rw [rowN_len]; exact hi)
  have h1 := Outer.cell (ownN_below hO hb) hv
  rw [e, rowN_len] at h1
  rw [rowN_get t hi] at hc
  exact ⟨gk, ck, h1, hc⟩
theorem Below.drewN2 {B : Nat} {a w : World} (h : Below B a w) (n : Nat) : Below B a (w.drewN n) := below_drewN h n

def CovRel (wT : World) (t : List (Int × Int)) (far : Int) (n : Nat) (T : Int) (o : Value) (wr : World) : Prop :=
  ∃ out : Nat, ∃ has : Nat → Bool, o = .int .i64 out ∧ leftC has n + out ≤ n ∧ Hid (T = out + covC t (dn t n) far n (n - out) has) ∧
    wr.ownsRow wT.heap.size 4 1 (.slice (some ⟨wT.heap.size, 0, none⟩) n n) n (hrow has n) ∧ Below wT.heap.size wT wr
def MarkRel (wT : World) (t : List (Int × Int)) (far : Int) (n : Nat) (has : Nat → Bool) (s : Nat) (i : Value) (wr : World) : Prop :=
  ∃ k : Nat, k ≤ n ∧ i = .int .i64 k ∧ wr.ownsRow wT.heap.size 4 1 (.slice (some ⟨wT.heap.size, 0, none⟩) n n) n (hrow (midC (dn t n) far has s k) n) ∧ Below wT.heap.size wT wr
theorem mark_store {w : World} {B b n cap k : Nat} {has : Nat → Bool} (v : Bool) (hk : k < n) (h : w.ownsRow B 4 1 (.slice (some ⟨b, 0, none⟩) n cap) n (hrow has n)) :
    (w.setCell ⟨b, k, none⟩ (.bool v)).ownsRow B 4 1 (.slice (some ⟨b, 0, none⟩) n cap) n (hrow (upd has k v) n) := by
  have h2 := (h.stored k (.bool v)).1
  rwa [hrow_set _ _ hk] at h2

set_option maxHeartbeats 1600000 in
theorem sTreeCover_any (A : Option Addr) (c n : Nat) (ts : List (Int × Int)) (far : Int) (w : World) (hr : RdR w w.heap.size A ts) (hn : ts.length = n) (hb : n ≤ 1152921504606846976) :
    Calls Try.prog 23 #[.slice A n c, .int .i64 far] w fun e w' => e = .returned (.int .i64 (cvv ts far)) ∧ Below w.heap.size w w' := by
  obtain ⟨i0, hi0, hz0, hz1, hz2⟩ := info_parts boolInfo
  by_cases hv : vt ts = true
  · have H1 := Lib.hid (sValidTree_is A c n ts w _ hr hn hb hv)
    by_cases hf : far < 0 ∨ 50 < far
    · have Hs := Lib.hid (cvv_no (t := ts) (.inr hf))
      have H2 := Lib.hid (inRange_no far 0 50 w hf)
      clear hv hf hr hn
      go_enter Try.func23, Try.ntmps23
      go_wp2_with fail
      refine H1.out.mono ?_
      rintro e w' ⟨rfl, rfl⟩
      go_wp2_with fail
      refine H2.out.mono ?_
      rintro e w' ⟨rfl, rfl⟩
      go_wp2
      go_ret
      exact ⟨ret_int Hs.out.symm, Below.refl _ _⟩
    · obtain ⟨h1, h7, -⟩ := (vt_iff ts).1 hv
      rw [hn] at h1 h7
      have H2 := Lib.hid (inRange_yes far 0 50 w (by omega) (by omega))
      obtain ⟨T, HT0⟩ : ∃ T, Hid (cvv ts far = T) := ⟨_, rfl⟩
      have Hs := Lib.hid (show T = ((0 : Nat) : Int) + covC ts (dn ts n) far n (n - 0) (fun _ => false) by
        rw [← HT0.out, cvv_yes hv (by omega) (by omega), hn]; simp)
      rw [HT0.out]
      have Ht := Lib.hid (treeTable_any A c n ts w hr hn hv)
      have Hn := Lib.hid hn
      have Ha := Lib.hid (vt_ahead hv)
      have Hv := Lib.hid hv
      have Hr := Lib.hid hr
      have hf0 : 0 ≤ far := by omega
      have hf1 : far ≤ 50 := by omega
      clear hv hf hr hn
      go_enter Try.func23, Try.ntmps23
      go_wp2_with fail
      refine H1.out.mono ?_
      rintro e w' ⟨rfl, rfl⟩
      go_wp2_with fail
      refine H2.out.mono ?_
      rintro e w' ⟨rfl, rfl⟩
      go_wp2_with fail
      refine Ht.out.mono ?_
      rintro e w4 ⟨v, VR, rfl, hO, hT, hnx4⟩
      rw [Hn.out] at hO hT
      obtain ⟨Ag, cg, rfl, -, -, hA⟩ := own_sliceN hO
      obtain ⟨g, rfl, -, -⟩ := hA (by omega)
      have HTab := Lib.hid (fun (wr : World) (hb : Below w4.heap.size w4 wr) v i (hv : v < n) (hi : i < n) => tab_at hO hT hb hv hi)
      have HB4 := Lib.hid hnx4
      have Hr4 := Lib.hid ((Hr.out.below hnx4).more hnx4.size)
      have Hdb := Lib.hid (fun v i (hv : v < n) (hi : i < n) => dn_bd Ha.out n v i (by rw [Hn.out]; exact Nat.le_refl _) hv hi)
      clear hO hT hnx4 hA Hr Ht H1 H2
      go_wp2_with (at_make; refine wpList_make_full _ rfl _ _ 79 rfl w4.heap.size 4 i0 _ 1 Try.underlying79 hi0 hz0 hz1 _ _ _ _ n rfl rfl rfl rfl (by rw [hz2]; omega) (by unfold maxLen; omega) (Nat.le_refl _) ?_; intro w5 hown5 hg5)
      have hnx5 : Below w4.heap.size w4 w5 := (Below.refl _ _).grown hg5 (Nat.le_refl _) (fun j hj => by cases hj)
      rw [made_none] at hown5
      have Hown5 := Lib.hid hown5
      clear hown5 hg5
      go_loopw [7] (fun o wr => CovRel w4 ts far n T o wr) (fun o _ => n - (intOf o).toNat)
      case atStart => exact ⟨0, fun _ => false, rfl, by rw [leftC_none]; omega, Hs.out, Hown5.out, hnx5⟩
      case round =>
        clear hnx5 Hown5 Hs
        obtain ⟨out, has, rfl, hlf, HC, hown, hbl⟩ := hrel
        obtain ⟨wo, rfl⟩ : ∃ wo : World, wo = wr := ⟨_, rfl⟩
        have Hown := Lib.hid hown
        clear hown
        go_wp2
        go_loopw [8, 9] (fun a i wr => ∃ k : Nat, ∃ q : Nat, k ≤ n ∧ i = .int .i64 k ∧ a = .int .i64 (fstC (dn ts n 0) has k) ∧ wr = wo.drewN q) (fun _ i _ => n - (intOf i).toNat)
        case atStart => exact ⟨0, 0, Nat.zero_le _, rfl, rfl, rfl⟩
        case round =>
          obtain ⟨k, q, hk, rfl, rfl, rfl⟩ := hrel
          have hab := fstC_bd (dn ts n 0) has k
          obtain ⟨a, Hae⟩ : ∃ a, Hid (fstC (dn ts n 0) has k = a) := ⟨_, rfl⟩
          rw [Hae.out] at hab ⊢
          by_cases hkn : k < n
          · have hck := Hown.out.cellAt k (by omega)
            rw [hrow_at has hkn] at hck
            obtain ⟨hb', Hhb⟩ : ∃ b, Hid (has k = b) := ⟨_, rfl⟩
            rw [Hhb.out] at hck
            cases hb' with
            | true =>
              have Hx := Lib.hid (show fstC (dn ts n 0) has (k + 1) = a by rw [fstC_no (by rw [Hhb.out]; simp), Hae.out])
              go_wp2
              go_quiet (fail)
              go_wp2
              go_roundw
              case rel => exact ⟨k + 1, _, by omega, by go_num, by rw [Hx.out], rfl⟩
              case measure => simp [intOf]; omega
            | false =>
              by_cases ha0 : a < 0
              · have Hx := Lib.hid (show fstC (dn ts n 0) has (k + 1) = k from fstC_yes ⟨Hhb.out, .inl (by rw [Hae.out]; exact ha0)⟩)
                go_wp2
                go_quiet (fail)
                go_wp2
                go_roundw
                case rel => exact ⟨k + 1, _, by omega, by go_num, by rw [Hx.out], rfl⟩
                case measure => simp [intOf]; omega
              · obtain ⟨a, rfl⟩ := Int.eq_ofNat_of_zero_le (show 0 ≤ a by omega)
                have han : a < n := by omega
                have hdec : decide ((a : Int) < 0) = false := decide_eq_false (by omega)
                obtain ⟨g0, c0, hc1, hc2⟩ := HTab.out wo hbl 0 k (by omega) hkn
                obtain ⟨g0', c0', hc1', hc3⟩ := HTab.out wo hbl 0 a (by omega) han
                rw [hc1] at hc1'
                injection hc1' with hc1'
                injection hc1' with e1 e2 e3
                injection e1 with e1
                injection e1 with e1 _
                subst e1
                obtain ⟨x, Hx⟩ : ∃ x, Hid (dn ts n 0 k = x) := ⟨_, rfl⟩
                obtain ⟨y, Hy⟩ : ∃ y, Hid (dn ts n 0 a = y) := ⟨_, rfl⟩
                rw [Hx.out] at hc2
                rw [Hy.out] at hc3
                by_cases hxy : y < x
                · have Hx' := Lib.hid (show fstC (dn ts n 0) has (k + 1) = k from fstC_yes ⟨Hhb.out, .inr (by rw [Hae.out]; show dn ts n 0 a < _; rw [Hx.out, Hy.out]; exact hxy)⟩)
                  go_wp2
                  go_quiet (fail)
                  go_wp2
                  go_roundw
                  case rel => exact ⟨k + 1, _, by omega, by go_num, by rw [Hx'.out], rfl⟩
                  case measure => simp [intOf]; omega
                · have Hx' := Lib.hid (show fstC (dn ts n 0) has (k + 1) = (a : Int) by
                    rw [fstC_no (by
                      rintro ⟨_, h | h⟩
                      · rw [Hae.out] at h; omega
                      · rw [Hae.out] at h
                        have h' : dn ts n 0 a < dn ts n 0 k := h
                        rw [Hx.out, Hy.out] at h'; exact hxy h'), Hae.out])
                  go_wp2
                  go_quiet (fail)
                  go_wp2
                  go_roundw
                  case rel => exact ⟨k + 1, _, by omega, by go_num, by rw [Hx'.out], rfl⟩
                  case measure => simp [intOf]; omega
          · have hkn' : k = n := by omega
            subst hkn'
            by_cases ha0 : a < 0
            · have Hfin := Lib.hid (show T = out by rw [HC.out, covC_end (by rw [Hae.out]; exact ha0)]; simp)
              go_wp2
              go_ret
              exact ⟨ret_int Hfin.out.symm, HB4.out.trans ((below_drewN hbl _).mono HB4.out.size)⟩
            · obtain ⟨a, rfl⟩ := Int.eq_ofNat_of_zero_le (show 0 ≤ a by omega)
              have han : a < k := by omega
              have hlt := left_next Ha.out (by rw [Hn.out]; exact Nat.le_refl _) hf0 Hae.out
              have HC' := Lib.hid (show T = ((out + 1 : Nat) : Int) + covC ts (dn ts k) far k (k - (out + 1)) (addC (dn ts k) far has (clmC ts (dn ts k) far a a a)) by
                rw [HC.out, show k - out = (k - (out + 1)) + 1 by omega, covC_next Hae.out]; omega)
              clear HC
              go_wp2
              go_loopw [10] (fun s wr => ∃ sp : Nat, ∃ f q' : Nat, sp ≤ f ∧ sp ≤ a ∧ s = .int .i64 sp ∧ Hid (clmC ts (dn ts k) far a a a = clmC ts (dn ts k) far a f sp) ∧ wr = wo.drewN q') (fun s _ => (intOf s).toNat)
              case atStart => exact ⟨a, a, q, Nat.le_refl _, Nat.le_refl _, rfl, rfl, rfl⟩
              case round =>
                obtain ⟨sp, f, q', hsf, hsa, rfl, HS, rfl⟩ := hrel
                by_cases hgo : 0 < sp ∧ dn ts k a (tto ts sp) ≤ far
                · obtain ⟨b, off, x, y, rfl, hbb, Hxy, hcx, hcy⟩ := RdR.x (Hr4.out.below hbl) (k := sp) (by rw [Hn.out]; omega)
                  obtain ⟨hto1, -⟩ := Ha.out sp hgo.1 (by rw [Hn.out]; omega)
                  have hto := vt_to Hv.out (i := sp) hgo.1 (by rw [Hn.out]; omega)
                  rw [Hxy.out] at hto
                  have hto' : x = (tto ts sp : Int) := hto
                  obtain ⟨p, Hp⟩ : ∃ p, Hid (tto ts sp = p) := ⟨_, rfl⟩
                  rw [Hp.out] at hto1 hto'
                  subst hto'
                  obtain ⟨f', rfl⟩ : ∃ f', f = f' + 1 := ⟨f - 1, by omega⟩
                  have HS' := Lib.hid (show clmC ts (dn ts k) far a a a = clmC ts (dn ts k) far a f' p by rw [HS.out, clmC_up hgo, Hp.out])
                  have hpk : p < k := by omega
                  obtain ⟨ga, ca, hc1, hc2⟩ := HTab.out wo hbl a p han hpk
                  obtain ⟨z, Hz⟩ : ∃ z, Hid (dn ts k a p = z) := ⟨_, rfl⟩
                  rw [Hz.out] at hc2
                  have hs0 := hgo.1
                  have hz := hgo.2
                  rw [Hp.out, Hz.out] at hz
                  clear hgo hto hcy HS
                  go_wp2
                  go_quiet (fail)
                  go_wp2
                  go_roundw
                  case rel => exact ⟨p, f', _, by omega, by omega, rfl, HS', rfl⟩
                  case measure => simp [intOf]; omega
                · have HS' := Lib.hid (show clmC ts (dn ts k) far a a a = sp by rw [HS.out, clmC_stop hgo])
                  clear HS
                  by_cases hs0 : 0 < sp
                  all_goals
                    first
                    | (obtain ⟨b, off, x, y, rfl, hbb, Hxy, hcx, hcy⟩ := RdR.x (Hr4.out.below hbl) (k := sp) (by rw [Hn.out]; omega)
                       obtain ⟨hto1, -⟩ := Ha.out sp hs0 (by rw [Hn.out]; omega)
                       have hto := vt_to Hv.out (i := sp) hs0 (by rw [Hn.out]; omega)
                       rw [Hxy.out] at hto
                       have hto' : x = (tto ts sp : Int) := hto
                       obtain ⟨p, Hp⟩ : ∃ p, Hid (tto ts sp = p) := ⟨_, rfl⟩
                       rw [Hp.out] at hto1 hto'
                       subst hto'
                       have hpk : p < k := by omega
                       obtain ⟨ga, ca, hc1, hc2⟩ := HTab.out wo hbl a p han hpk
                       obtain ⟨z, Hz⟩ : ∃ z, Hid (dn ts k a p = z) := ⟨_, rfl⟩
                       rw [Hz.out] at hc2
                       have hz : ¬ z ≤ far := fun h => hgo ⟨hs0, by rw [Hp.out, Hz.out]; exact h⟩
                       clear hgo hto hcy
                       go_wp2
                       go_quiet (fail)
                       go_wp2)
                    | (have hd0 : decide ((0 : Int) < (sp : Int)) = false := decide_eq_false (by omega)
                       clear hgo
                       go_wp2
                       go_quiet (fail)
                       go_wp2)
                    go_loopw [11] (fun i wr => MarkRel w4 ts far k has sp i wr) (fun i _ => k - (intOf i).toNat)
                    case atStart => exact ⟨0, Nat.zero_le _, rfl, by rw [show hrow (midC (dn ts k) far has sp 0) k = hrow has k from hrow_congr fun i _ => by simp [midC]]; exact Hown.out, below_drewN hbl _⟩
                    case round =>
                      obtain ⟨m, hm, rfl, hown2, hbl2⟩ := hrel
                      by_cases hmk : m < k
                      · have hcm := hown2.cellAt m (by omega)
                        rw [hrow_at _ hmk] at hcm
                        have hmid : midC (dn ts k) far has sp m m = has m := by unfold midC; rw [if_neg (by omega)]
                        rw [hmid] at hcm
                        have hfm := hown2.frozenAt m
                        have Hown2 := Lib.hid hown2
                        have hspk : sp < k := by omega
                        obtain ⟨gs, cs, hc1', hc2'⟩ := HTab.out wr hbl2 sp m hspk hmk
                        obtain ⟨z', Hz'⟩ : ∃ z, Hid (dn ts k sp m = z) := ⟨_, rfl⟩
                        rw [Hz'.out] at hc2'
                        obtain ⟨hm', Hhm⟩ : ∃ b, Hid (has m = b) := ⟨_, rfl⟩
                        rw [Hhm.out] at hcm
                        clear hown2 hmid
                        cases hm' with
                        | true =>
                          have Hst := Lib.hid (mark_store true hmk Hown2.out)
                          rw [midC_step (b := true) (by simp [addC, Hhm.out])] at Hst
                          have Hbs := Lib.hid (hbl2.grown (Hown2.out.stored m (.bool true)).2 hbl2.size (fun g hg => (Hown2.out.lt g hg).1))
                          go_wp2
                          go_roundw
                          case rel => exact ⟨m + 1, by omega, by go_num, Hst.out, Hbs.out⟩
                          case measure => simp [intOf]; omega
                        | false =>
                          have Hst := Lib.hid (mark_store (decide (z' ≤ far)) hmk Hown2.out)
                          rw [midC_step (b := decide (z' ≤ far)) (by simp [addC, Hhm.out, Hz'.out])] at Hst
                          have Hbs := Lib.hid (hbl2.grown (Hown2.out.stored m (.bool (decide (z' ≤ far)))).2 hbl2.size (fun g hg => (Hown2.out.lt g hg).1))
                          go_wp2
                          go_roundw
                          case rel => exact ⟨m + 1, by omega, by go_num, Hst.out, Hbs.out⟩
                          case measure => simp [intOf]; omega
                      · obtain rfl : m = k := by omega
                        have hfull : hrow (midC (dn ts m) far has sp m) m = hrow (addC (dn ts m) far has sp) m := hrow_congr fun i hi => by unfold midC; rw [if_pos hi]
                        rw [hfull] at hown2
                        rw [HS'.out] at HC' hlt
                        have Hown2 := Lib.hid hown2
                        clear hown2 hfull
                        go_wp2
                        go_roundw
                        case rel => exact ⟨out + 1, _, by go_num, by omega, HC', Hown2.out, hbl2⟩
                        case measure => simp [intOf]; omega
  · have hv' : vt ts = false := by simpa using hv
    have Hs := Lib.hid (cvv_no (far := far) (.inl hv'))
    have H1 := Lib.hid (sValidTree_is A c n ts w _ hr hn hb hv')
    clear hv hv' hr hn
    go_enter Try.func23, Try.ntmps23
    go_wp2_with fail
    refine H1.out.mono ?_
    rintro e w' ⟨rfl, rfl⟩
    go_wp2
    go_ret
    exact ⟨ret_int Hs.out.symm, Below.refl _ _⟩
end Go.Proofs.Ytdhelapgdgekfaa
namespace Go.Proofs.Ytdhelapgdgekfaa
open Go.ChangeShapes Go.WideShapes Go.ChangeAt Go.RowKit
set_option linter.unusedVariables false
set_option maxRecDepth 4000

/-- What a visit does: block R's content goes on from C L to C of L and the visited. -/
def VisitC (w0 : World) (P : Nat → Nat) (R n : Nat) (c1 c2 : Value) (C : List (Nat × Int) → Obj) (F : List (Nat × Int)) : Prop :=
  ∀ (w : World) (L : List (Nat × Int)) (i : Nat) (x : Int), w0.grownBy w (some R) → w.heap[R]? = some (C L) → (L ++ [(i, x)]) <+: F → i < n →
    Calls Try.prog 67 #[.pointer (some ⟨P i, 0, none⟩), .int .i64 x, c1, c2] w fun e w' => e = .returned (.tuple #[]) ∧ w'.heap[R]? = some (C (L ++ [(i, x)])) ∧ w.grownBy w' (some R)
/-- goOn, from node a, come to from f, with way x: all that is visited is M behind a. -/
def GoOnC (w0 : World) (P : Nat → Nat) (R bv bg : Nat) (C : List (Nat × Int) → Obj) (F : List (Nat × Int)) (a : Nat) (f : Option Nat) (x : Int) (M : List (Nat × Int)) : Prop :=
  ∀ (w : World) (L : List (Nat × Int)), w0.grownBy w (some R) → w.heap[R]? = some (C L) → (L ++ ((a, x) :: M)) <+: F →
    Calls Try.prog 97 #[.pointer (some ⟨P a, 0, none⟩), .pointer (fromA P f), .int .i64 x, .pointer (some ⟨bv, 0, none⟩), .pointer (some ⟨bg, 0, none⟩)] w fun e w' => e = .returned (.tuple #[]) ∧ w'.heap[R]? = some (C (L ++ ((a, x) :: M))) ∧ w.grownBy w' (some R)
/-- What the loop over a node's roads keeps. -/
def RoadsRelC (w0 w1 : World) (R n : Nat) (C : List (Nat × Int) → Obj) (F L : List (Nat × Int)) (t : List (Int × Int)) (a : Nat) (f : Option Nat) (x : Int) (M : List (Nat × Int)) (i : Value) (wr : World) : Prop :=
  ∃ k : Nat, ∃ M1 M2, i = .int .i64 k ∧ k ≤ (nb t n a).length ∧ M = M1 ++ M2 ∧ VisL (nb t n) a f x ((nb t n a).drop k) M2 ∧ w1.grownBy wr (some R) ∧ wr.heap[R]? = some (C (L ++ ((a, x) :: M1)))

set_option maxHeartbeats 1600000 in
theorem goOnC_step (w0 : World) (P : Nat → Nat) (RV : Nat → Value) (B R n bv bg : Nat) (c1 c2 : Value) (C : List (Nat × Int) → Obj) (F : List (Nat × Int)) (t : List (Int × Int)) (ht : Ahead t) (hn : n ≤ t.length) (hn7 : n ≤ 7)
    (hlk : LkN w0 B n P RV t) (hRt : ∃ cs ty fz, w0.heap[R]? = some (.cells cs ty fz) ∧ ty ≠ 69 ∧ ty ≠ 107) (hbv : bv ≠ R) (hbg : bg ≠ R)
    (hv : w0.cell? ⟨bv, 0, none⟩ = some (.func (.func 67) #[] #[c1, c2])) (hg : w0.cell? ⟨bg, 0, none⟩ = some (.func (.func 97) #[] #[.pointer (some ⟨bv, 0, none⟩), .pointer (some ⟨bg, 0, none⟩)])) (hvis : VisitC w0 P R n c1 c2 C F) (hF : ∀ y ∈ F, 0 ≤ y.2 ∧ y.2 ≤ 1000000)
    (m : Nat) (ih : ∀ a f x M, M.length < m → a < n → (∀ g, f = some g → g < n) → VisL (nb t n) a f x (nb t n a) M → GoOnC w0 P R bv bg C F a f x M)
    (a : Nat) (f : Option Nat) (x : Int) (M : List (Nat × Int)) (hM : M.length = m) (ha : a < n) (hf : ∀ g, f = some g → g < n) (hV : VisL (nb t n) a f x (nb t n a) M) : GoOnC w0 P R bv bg C F a f x M := by
  intro w L hgw hL hpre
  obtain ⟨cs, ty, fz, hRc, hR1, hR2⟩ := hRt
  have Hvis := Lib.hid hvis
  have Hih := Lib.hid ih
  have HV := Lib.hid hV
  have hcf : ∀ {w' : World} {b : Nat} {v : Value}, w0.grownBy w' (some R) → b ≠ R → w0.cell? ⟨b, 0, none⟩ = some v → w'.cell? ⟨b, 0, none⟩ = some v := fun hg hne hc =>
    (World.cell?_of_block (hg.block _ (World.block_lt_of_cell? w0 _ hc) (fun e => hne (by injection e)))).trans hc
  have Hcf := Lib.hid (fun (w' : World) (hg' : w0.grownBy w' (some R)) => (⟨hcf hg' hbv hv, hcf hg' hbg hg⟩ : w'.cell? ⟨bv, 0, none⟩ = some (.func (.func 67) #[] #[c1, c2]) ∧ w'.cell? ⟨bg, 0, none⟩ = some (.func (.func 97) #[] #[.pointer (some ⟨bv, 0, none⟩), .pointer (some ⟨bg, 0, none⟩)])))
  have Hlk := Lib.hid (fun (w' : World) (hg' : w0.grownBy w' (some R)) => hlk.kept hg' (fun g e _ => by injection e with e; subst e; exact ⟨cs, ty, fz, hRc, hR1, hR2⟩))
  clear hvis ih hV hlk hcf hv hg hRc
  obtain ⟨cv, cg⟩ := Hcf.out w hgw
  have hpre1 : (L ++ [(a, x)]) <+: F := by
    obtain ⟨r, hr⟩ := hpre
    exact ⟨M ++ r, by rw [← hr]; simp⟩
  have hcall := Hvis.out w L a x hgw hL hpre1 ha
  have Hcall := Lib.hid hcall
  have Hpre := Lib.hid hpre
  have HF := Lib.hid hF
  have Hgw := Lib.hid hgw
  clear hcall hpre hpre1 hF hL hgw
  go_enter Try.func97, Try.ntmps97
  go_wp2_with fail
  refine Hcall.out.mono ?_
  rintro e w1 ⟨rfl, h1, hg1⟩
  have hg01 := grown_trans Hgw.out hg1
  have lk1 := Hlk.out w1 hg01
  obtain ⟨-, -, -, c3, -⟩ := lk1.cells ha
  obtain ⟨A, cA, hrv, hA1, hA2, hA3⟩ := own_sliceN (lk1.own a ha)
  rw [hrv] at c3
  have H1 := Lib.hid h1
  have Hg1 := Lib.hid hg1
  have Hg01 := Lib.hid hg01
  have Lk1 := Lib.hid lk1
  have Hrv := Lib.hid hrv
  have HA3 := Lib.hid hA3
  obtain ⟨N, HN⟩ : ∃ N, Hid ((nb t n a).length = N) := ⟨_, rfl⟩
  have hN7 : N ≤ 7 := by have := nb_len t n a; rw [HN.out] at this; omega
  rw [HN.out] at c3 hA1
  clear h1 hg1 hg01 lk1 hrv hA3 cv cg
  go_wp2
  go_loopw [19] (fun i wr => RoadsRelC w0 w1 R n C F L t a f x M i wr) (fun i _ => N - (intOf i).toNat)
  case atStart => exact ⟨0, [], M, rfl, Nat.zero_le _, rfl, HV.out, grown_refl _ _, H1.out⟩
  case round =>
    obtain ⟨k, M1, M2, rfl, hk, hMM, hV2, hgr, hCr⟩ := hrel
    rw [HN.out] at hk
    by_cases hlt : k < N
    · have hg0r := grown_trans Hg01.out hgr
      have lkr := Hlk.out wr hg0r
      obtain ⟨cvr, cgr⟩ := Hcf.out wr hg0r
      obtain ⟨g, rfl, hgB, hgl⟩ := HA3.out (by rw [HN.out]; omega)
      have ow := lkr.own a ha
      rw [Hrv.out, HN.out] at ow
      obtain ⟨⟨b, l⟩, hbl⟩ : ∃ y, (nb t n a).getD k (0, 0) = y := ⟨_, rfl⟩
      have hkl : k < (nb t n a).length := by rw [HN.out]; exact hlt
      have hbm : (b, l) ∈ nb t n a := by rw [← hbl]; simp only [List.getD, List.getElem?_eq_getElem hkl]; exact List.getElem_mem hkl
      have hbn := nb_lt ht n hn a ha b l hbm
      have hdrop : (nb t n a).drop k = (b, l) :: (nb t n a).drop (k + 1) := by
        rw [List.drop_eq_getElem_cons hkl]
        congr 1
        rw [← hbl]; simp [List.getD, List.getElem?_eq_getElem hkl]
      have ce : wr.cell? ⟨g, k * 2, none⟩ = some (.pointer (some ⟨P b, 0, none⟩)) := by
        rw [ow.cellAt (k * 2) (by omega), brv_ptr P _ k hkl, hbl]; rfl
      have cl : wr.cell? ⟨g, k * 2 + 1, none⟩ = some (.int .i64 l) := by
        rw [ow.cellAt (k * 2 + 1) (by omega), brv_int P _ k hkl, hbl]
      rw [hdrop] at hV2
      have HV2 := Lib.hid hV2
      have Hg0r := Lib.hid hg0r
      have Hgr := Lib.hid hgr
      have Lkr := Lib.hid lkr
      have HCr := Lib.hid hCr
      have HMM := Lib.hid hMM
      clear hV2 hg0r hgr lkr hCr hMM ow hbl hdrop hbm
      by_cases hfb : f = some b
      · subst hfb
        have hV3 : Hid (VisL (nb t n) a (some b) x ((nb t n a).drop (k + 1)) M2) := by
          have h := HV2.out
          cases h with
          | skip _ h => exact h
          | go h _ _ => exact absurd rfl h
        simp only [fromA]
        have hb1 : ∀ o, (binOp .neq 65 (.pointer (some ⟨P b, 0, none⟩)) (.pointer (some ⟨P b, 0, none⟩))).run Try.prog (wr.alloc o) = .ok (.bool false) (wr.alloc o) := fun o => neq_same _ _
        go_wp2
        go_roundw
        case rel => exact ⟨k + 1, M1, M2, by go_num, by rw [HN.out]; omega, HMM.out, hV3.out, gb_trans Hgr.out (World.grownBy_alloc wr _ none) (.inr (fun g h => by cases h)), by
          rw [heap_alloc_old wr _ (Array.getElem?_eq_some_iff.1 HCr.out).1]; exact HCr.out⟩
        case measure => simp [intOf]; omega
      · obtain ⟨M3, M4, hM2, hW, hV3⟩ : ∃ M3 M4, M2 = (b, x + l) :: (M3 ++ M4) ∧ VisL (nb t n) b (some a) (x + l) (nb t n b) M3 ∧ VisL (nb t n) a f x ((nb t n a).drop (k + 1)) M4 := by
          have h := HV2.out
          cases h with
          | skip h _ => exact absurd h hfb
          | go _ h1 h2 => exact ⟨_, _, rfl, h1, h2⟩
        have hlen : M3.length < m := by
          rw [← hM, HMM.out, hM2]; simp; omega
        have hpre3 : ((L ++ ((a, x) :: M1)) ++ ((b, x + l) :: M3)) <+: F := by
          obtain ⟨r, hr⟩ := Hpre.out
          exact ⟨M4 ++ r, by rw [← hr, HMM.out, hM2]; simp⟩
        have hxl := HF.out (b, x + l) (by obtain ⟨r, hr⟩ := hpre3; rw [← hr]; simp)
        simp only at hxl
        have hgA : ∀ o, w0.grownBy (wr.alloc o) (some R) := fun o => gb_trans Hg0r.out (World.grownBy_alloc wr o none) (.inr (fun g h => by cases h))
        have hcall : ∀ o, Calls Try.prog 97 #[.pointer (some ⟨P b, 0, none⟩), .pointer (some ⟨P a, 0, none⟩), .int .i64 (x + l), .pointer (some ⟨bv, 0, none⟩), .pointer (some ⟨bg, 0, none⟩)] (wr.alloc o) fun e w' => e = .returned (.tuple #[]) ∧ w'.heap[R]? = some (C ((L ++ ((a, x) :: M1)) ++ ((b, x + l) :: M3))) ∧ (wr.alloc o).grownBy w' (some R) := fun o =>
          Hih.out b (some a) (x + l) M3 hlen hbn (fun g e => by injection e with e; omega) hW (wr.alloc o) (L ++ ((a, x) :: M1)) (hgA o) (by rw [heap_alloc_old wr _ (Array.getElem?_eq_some_iff.1 HCr.out).1]; exact HCr.out) hpre3
        have Hcall2 := Lib.hid hcall
        have hcgo : ∀ o, (wr.alloc o).cell? ⟨bg, 0, none⟩ = some (.func (.func 97) #[] #[.pointer (some ⟨bv, 0, none⟩), .pointer (some ⟨bg, 0, none⟩)]) := fun o => (Hcf.out _ (hgA o)).2
        have hne : ∀ o, (binOp .neq 65 (.pointer (some ⟨P b, 0, none⟩)) (.pointer (fromA P f))).run Try.prog (wr.alloc o) = .ok (.bool true) (wr.alloc o) := fun o =>
          neq_from (Lkr.out.below ((Below.refl _ _).alloc (Nat.le_refl _) o)) hbn hf hfb
        have HM2 := Lib.hid hM2
        have HV3 := Lib.hid hV3
        clear hcall hgA hpre3 hlen hW hV3 hM2 hfb cvr cgr
        go_wp2_with fail
        refine (Hcall2.out _).mono ?_
        rintro e w3 ⟨rfl, h3, hg3⟩
        have hg13 := gb_trans (gb_trans Hgr.out (World.grownBy_alloc wr _ none) (.inr (fun g h => by cases h))) hg3 (.inl rfl)
        have H3 := Lib.hid h3
        have Hg13 := Lib.hid hg13
        clear h3 hg3 hg13 ce cl hcgo hne
        go_wp2
        go_roundw
        case rel => exact ⟨k + 1, M1 ++ ((b, x + l) :: M3), M4, by go_num, by rw [HN.out]; omega, by rw [HMM.out, HM2.out]; simp, HV3.out, Hg13.out, by simpa using H3.out⟩
        case measure => simp [intOf]; omega
    · have hd : (nb t n a).drop k = [] := List.drop_of_length_le (by rw [HN.out]; omega)
      rw [hd] at hV2
      have hM2 : M2 = [] := by cases hV2; rfl
      subst hM2
      rw [List.append_nil] at hMM
      subst hMM
      have Hend := Lib.hid hCr
      have Hgr := Lib.hid hgr
      clear hd hV2 hCr hgr
      go_wp2
      go_end0
      exact ⟨rfl, Hend.out, grown_trans Hg1.out Hgr.out⟩
theorem goOnC_any (w0 : World) (P : Nat → Nat) (RV : Nat → Value) (B R n bv bg : Nat) (c1 c2 : Value) (C : List (Nat × Int) → Obj) (F : List (Nat × Int)) (t : List (Int × Int)) (ht : Ahead t) (hn : n ≤ t.length) (hn7 : n ≤ 7)
    (hlk : LkN w0 B n P RV t) (hRt : ∃ cs ty fz, w0.heap[R]? = some (.cells cs ty fz) ∧ ty ≠ 69 ∧ ty ≠ 107) (hbv : bv ≠ R) (hbg : bg ≠ R)
    (hv : w0.cell? ⟨bv, 0, none⟩ = some (.func (.func 67) #[] #[c1, c2])) (hg : w0.cell? ⟨bg, 0, none⟩ = some (.func (.func 97) #[] #[.pointer (some ⟨bv, 0, none⟩), .pointer (some ⟨bg, 0, none⟩)])) (hvis : VisitC w0 P R n c1 c2 C F) (hF : ∀ y ∈ F, 0 ≤ y.2 ∧ y.2 ≤ 1000000) :
    ∀ m a f x M, M.length ≤ m → a < n → (∀ g, f = some g → g < n) → VisL (nb t n) a f x (nb t n a) M → GoOnC w0 P R bv bg C F a f x M
  | 0, a, f, x, M, hm, ha, hf, hV => goOnC_step w0 P RV B R n bv bg c1 c2 C F t ht hn hn7 hlk hRt hbv hbg hv hg hvis hF 0 (fun _ _ _ _ h => by omega) a f x M (by omega) ha hf hV
  | m + 1, a, f, x, M, hm, ha, hf, hV =>
    goOnC_step w0 P RV B R n bv bg c1 c2 C F t ht hn hn7 hlk hRt hbv hbg hv hg hvis hF M.length (fun a f x M' h => goOnC_any w0 P RV B R n bv bg c1 c2 C F t ht hn hn7 hlk hRt hbv hbg hv hg hvis hF m a f x M' (by omega)) a f x M rfl ha hf hV

theorem VisitC.later {w w0 : World} {P : Nat → Nat} {R n : Nat} {c1 c2 : Value} {C : List (Nat × Int) → Obj} {F : List (Nat × Int)} (h : VisitC w P R n c1 c2 C F) (hg : w.grownBy w0 (some R)) : VisitC w0 P R n c1 c2 C F :=
  fun w' L i x h1 h2 h3 h4 => h w' L i x (grown_trans hg h1) h2 h3 h4
set_option maxHeartbeats 800000 in
theorem walkC_any (w : World) (P : Nat → Nat) (RV : Nat → Value) (B R n : Nat) (c1 c2 : Value) (C : List (Nat × Int) → Obj) (t : List (Int × Int)) (ht : Ahead t) (hn : n ≤ t.length) (hn7 : n ≤ 7)
    (hlk : LkN w B n P RV t) (hRt : ∃ cs ty fz, w.heap[R]? = some (.cells cs ty fz) ∧ ty ≠ 69 ∧ ty ≠ 107) (hC : w.heap[R]? = some (C []))
    (a : Nat) (f : Option Nat) (M : List (Nat × Int)) (ha : a < n) (hf : ∀ g, f = some g → g < n) (hV : VisL (nb t n) a f 0 (nb t n a) M) (hvis : VisitC w P R n c1 c2 C ((a, 0) :: M)) (hF : ∀ y ∈ (a, (0 : Int)) :: M, 0 ≤ y.2 ∧ y.2 ≤ 1000000) :
    Calls Try.prog 55 #[.pointer (some ⟨P a, 0, none⟩), .pointer (fromA P f), .func (.func 67) #[] #[c1, c2]] w fun e w' => e = .returned (.tuple #[]) ∧ w'.heap[R]? = some (C ((a, 0) :: M)) ∧ w.grownBy w' (some R) := by
  have hRlt : R < w.heap.size := (Array.getElem?_eq_some_iff.1 hC).1
  have H := Lib.hid (fun (w0 : World) (b0 : Below w.heap.size w w0) (g0 : w.grownBy w0 (some R)) (bv bg : Nat) (h1 : w.heap.size ≤ bv) (h2 : w.heap.size ≤ bg)
      (hv : w0.cell? ⟨bv, 0, none⟩ = some (.func (.func 67) #[] #[c1, c2])) (hg : w0.cell? ⟨bg, 0, none⟩ = some (.func (.func 97) #[] #[.pointer (some ⟨bv, 0, none⟩), .pointer (some ⟨bg, 0, none⟩)])) =>
    goOnC_any w0 P RV B R n bv bg c1 c2 C ((a, 0) :: M) t ht hn hn7 (hlk.below b0) (by
      obtain ⟨cs, ty, fz, hc, r⟩ := hRt
      exact ⟨cs, ty, fz, (b0.block R hRlt).trans hc, r⟩) (by omega) (by omega) hv hg (hvis.later g0) hF M.length a f 0 M (Nat.le_refl _) ha hf hV w0 [] (grown_refl _ _) ((b0.block R hRlt).trans hC) (List.prefix_rfl))
  have b1 := (Below.refl w.heap.size w).alloc (Nat.le_refl _) (.cells #[.func (.func 67) #[] #[c1, c2]] 70)
  have b2 := b1.alloc b1.size (.cells #[.func (.func 97) #[] #[.pointer (some ⟨w.heap.size, 0, none⟩), .pointer (some ⟨w.heap.size + 1, 0, none⟩)]] 108)
  have g2 := gb_trans (World.grownBy_alloc w (.cells #[.func (.func 67) #[] #[c1, c2]] 70) (some R)) (World.grownBy_alloc _ (.cells #[.func (.func 97) #[] #[.pointer (some ⟨w.heap.size, 0, none⟩), .pointer (some ⟨w.heap.size + 1, 0, none⟩)]] 108) none) (.inr (fun g h => by cases h))
  have H2 := Lib.hid (H.out _ b2 g2 w.heap.size (w.heap.size + 1) (by omega) (by omega) (by
      rw [cell_of_row _ _ _ _ _ (0, 0) ((heap_alloc_old _ _ (by rw [size_alloc1]; omega)).trans (heap_alloc_new w _))]; rfl) (by
      have e := heap_alloc_new (w.alloc (.cells #[.func (.func 67) #[] #[c1, c2]] 70)) (.cells #[.func (.func 97) #[] #[.pointer (some ⟨w.heap.size, 0, none⟩), .pointer (some ⟨w.heap.size + 1, 0, none⟩)]] 108)
      rw [size_alloc1] at e
      rw [cell_of_row _ _ _ _ _ _ e]; rfl))
  have G2 := Lib.hid g2
  clear hlk hRt hC hV hvis hF H b1 b2 g2
  go_enter Try.func55, Try.ntmps55
  go_wp2_with fail
  refine H2.out.mono ?_
  rintro e w3 ⟨rfl, h3, hg3⟩
  have hg4 := gb_trans G2.out hg3 (.inl rfl)
  have H3 := Lib.hid h3
  have H4 := Lib.hid hg4
  clear h3 hg3 hg4
  go_wp2
  go_end0
  exact ⟨rfl, H3.out, H4.out⟩
end Go.Proofs.Ytdhelapgdgekfaa
namespace Go.Proofs.Ytdhelapgdgekfaa
open Go.ChangeShapes Go.WideShapes Go.ChangeAt Go.RowKit
set_option linter.unusedVariables false
set_option maxRecDepth 4000

/-- Who has one, after the visits L. -/
def mkC (far : Int) (has : Nat → Bool) (L : List (Nat × Int)) : Nat → Bool := fun i => has i || L.any fun y => decide (y.1 = i) && decide (y.2 ≤ far)
theorem mkC_nil (far : Int) (has : Nat → Bool) : mkC far has [] = has := by funext i; simp [mkC]
theorem mkC_near {far : Int} {has : Nat → Bool} {L : List (Nat × Int)} {i : Nat} {x : Int} (h : x ≤ far) (n : Nat) : hrow (mkC far has (L ++ [(i, x)])) n = hrow (upd (mkC far has L) i true) n := by
  refine hrow_congr fun j hj => ?_
  unfold upd mkC
  by_cases e : j = i
  · subst e; simp [h]
  · rw [if_neg e]
    have : ¬ i = j := fun e' => e e'.symm
    simp [this]
theorem mkC_far {far : Int} {has : Nat → Bool} {L : List (Nat × Int)} {i : Nat} {x : Int} (h : ¬ x ≤ far) : mkC far has (L ++ [(i, x)]) = mkC far has L := by
  funext j; simp [mkC, h]
def covObj (far : Int) (has : Nat → Bool) (n : Nat) (L : List (Nat × Int)) : Obj := .cells (hrow (mkC far has L) n).toArray 4 (0, 0)

set_option maxHeartbeats 800000 in
theorem visitC_any (w0 : World) (P : Nat → Nat) (RV : Nat → Value) (B R fb sb n : Nat) (far : Int) (has : Nat → Bool) (F : List (Nat × Int)) (t : List (Int × Int)) (hlk : LkN w0 B n P RV t)
    (hR : ∃ cs, w0.heap[R]? = some (.cells cs 4 (0, 0))) (hfb : fb ≠ R) (hsb : sb ≠ R) (hcf : w0.cell? ⟨fb, 0, none⟩ = some (.int .i64 far)) (hcs : w0.cell? ⟨sb, 0, none⟩ = some (.slice (some ⟨R, 0, none⟩) n n)) (hn7 : n ≤ 7)
    (hF : ∀ y ∈ F, y.1 < n ∧ 0 ≤ y.2 ∧ y.2 ≤ 1000) :
    VisitC w0 P R n (.pointer (some ⟨fb, 0, none⟩)) (.pointer (some ⟨sb, 0, none⟩)) (covObj far has n) F := by
  intro w L i x hg hL hpre hi
  obtain ⟨cs, hRc⟩ := hR
  have lk := hlk.kept hg (fun g e _ => by injection e with e; subst e; exact ⟨cs, _, _, hRc, by decide, by decide⟩)
  obtain ⟨c0, -, -, -, -⟩ := lk.cells hi
  have hx := hF (i, x) (hpre.subset (by simp))
  have cfb : w.cell? ⟨fb, 0, none⟩ = some (.int .i64 far) := (World.cell?_of_block (hg.block _ (World.block_lt_of_cell? w0 _ hcf) (fun e => hfb (by injection e)))).trans hcf
  have csb : w.cell? ⟨sb, 0, none⟩ = some (.slice (some ⟨R, 0, none⟩) n n) := (World.cell?_of_block (hg.block _ (World.block_lt_of_cell? w0 _ hcs) (fun e => hsb (by injection e)))).trans hcs
  simp only at hx
  have hin : (i : Int) < (n : Int) := by omega
  by_cases hxf : x ≤ far
  · have cR : w.cell? ⟨R, i, none⟩ = some (.bool (mkC far has L i)) := by
      rw [cell_of_row _ _ _ _ _ _ hL]
      simp only [List.getElem?_toArray]
      exact hrow_at _ hi
    have fR : w.frozen? ⟨R, i, none⟩ = false := frozen_of_row _ _ _ _ _ hL
    have hst : (w.setCell ⟨R, i, none⟩ (.bool true)).heap[R]? = some (covObj far has n (L ++ [(i, x)])) := by
      unfold covObj at hL ⊢
      rw [mkC_near hxf, ← hrow_set _ true hi]
      simp [World.setCell, Array.getElem?_modify, hL]
    have hgr : w.grownBy (w.setCell ⟨R, i, none⟩ (.bool true)) (some R) := ⟨rfl, rfl, rfl, by simp [World.setCell], fun k hk hne => Below.heap_setCell w _ _ k (by rintro rfl; exact hne rfl)⟩
    have HS := Lib.hid hst
    have HG := Lib.hid hgr
    clear hst hgr hg hL hpre lk hcf hcs hRc hx
    go_enter Try.func67, Try.ntmps67
    go_wp2_with fail
    go_region
    go_wp2
    go_end0
    exact ⟨rfl, HS.out, ⟨HG.out.os, HG.out.tape, HG.out.output, HG.out.size, HG.out.block⟩⟩
  · have hst : w.heap[R]? = some (covObj far has n (L ++ [(i, x)])) := by
      unfold covObj at hL ⊢
      rw [mkC_far hxf]; exact hL
    have HS := Lib.hid hst
    clear hst hg hL hpre lk hcf hcs hRc hx
    go_enter Try.func67, Try.ntmps67
    go_wp2_with fail
    go_end0
    exact ⟨rfl, HS.out, grown_refl _ _⟩
end Go.Proofs.Ytdhelapgdgekfaa
namespace Go.Proofs.Ytdhelapgdgekfaa
open Go.ChangeShapes Go.WideShapes Go.ChangeAt Go.RowKit
set_option linter.unusedVariables false
set_option maxRecDepth 4000

/-- s lies on the way from a to the node 0, so the ways add up. -/
def OnWay (t : List (Int × Int)) (n a s : Nat) : Prop := s ≤ a ∧ Bh t s a ∧ dn t n a s = dn t n a 0 - dn t n s 0
theorem onWay_self (t : List (Int × Int)) {n a : Nat} (ha : a < n) : OnWay t n a a := ⟨Nat.le_refl _, bh_self t a, by rw [dn_diag t n a ha]; omega⟩
theorem onWay_up {t : List (Int × Int)} (ht : Ahead t) {n a s : Nat} (hn : n ≤ t.length) (ha : a < n) (hs : 0 < s) (h : OnWay t n a s) : OnWay t n a (tto t s) := by
  obtain ⟨h1, h2, h3⟩ := h
  have hto := (ht s hs (by omega)).1
  have hb : Bh t (tto t s) s := (bh_up ht (by omega) hto).2 (bh_self t _)
  have hba := bh_trans ht (by omega) (by omega) hb h2
  have e1 := dn_over ht hn hs (by omega) a ha
  rw [if_pos h2] at e1
  have e2 := dn_road ht hn (show s < n by omega) hs
  rw [dn_symm t n s a] at e1
  rw [dn_symm t n (tto t s) a] at e1
  exact ⟨by omega, hba, by omega⟩

set_option maxHeartbeats 800000 in
theorem highestNear_any (P : Nat → Nat) (RV : Nat → Value) (B n a : Nat) (t : List (Int × Int)) (far : Int) (w : World) (ht : Ahead t) (hn : n ≤ t.length) (hn7 : n ≤ 7) (hlk : LkN w B n P RV t) (ha : a < n) (hfar : (Lit.int .i64 far).wf = true) :
    Calls Try.prog 66 #[.pointer (some ⟨P a, 0, none⟩), .int .i64 far] w fun e w' => e = .returned (.pointer (some ⟨P (clmC t (dn t n) far a a a), 0, none⟩)) ∧ ∃ q, w' = w.drewN q := by
  have Hlk := Lib.hid hlk
  have hda := dn_bd ht n a 0 hn ha (by omega)
  obtain ⟨-, ca, -, -, -⟩ := hlk.cells ha
  obtain ⟨DA, HDA⟩ : ∃ x, Hid (dn t n a 0 = x) := ⟨_, rfl⟩
  rw [HDA.out] at hda ca
  obtain ⟨Z, HZ⟩ : ∃ z, Hid (clmC t (dn t n) far a a a = z) := ⟨_, rfl⟩
  rw [HZ.out]
  clear hlk
  go_enter Try.func66, Try.ntmps66
  go_wp2
  go_loopg [5] a (fun f s wr => ∃ sp q : Nat, sp ≤ f ∧ s = .pointer (some ⟨P sp, 0, none⟩) ∧ Hid (OnWay t n a sp) ∧ Hid (Z = clmC t (dn t n) far a f sp) ∧ wr = w.drewN q)
  case atStart => exact ⟨a, 0, Nat.le_refl _, rfl, onWay_self t ha, HZ.out.symm, rfl⟩
  case round =>
    obtain ⟨sp, q, hsf, rfl, HW, HZ2, rfl⟩ := hrel
    have hspn : sp < n := by have := HW.out.1; omega
    obtain ⟨-, -, cu, -, -⟩ := Hlk.out.cells hspn
    by_cases hs0 : 0 < sp
    · have hto := (ht sp hs0 (by omega)).1
      obtain ⟨p, Hp⟩ : ∃ p, Hid (tto t sp = p) := ⟨_, rfl⟩
      have cu' : w.cell? ⟨P sp, 2, none⟩ = some (.pointer (some ⟨P p, 0, none⟩)) := by
        rw [cu]; unfold upv; rw [if_neg (by omega), Hp.out]; rfl
      have hpn : p < n := by have := Hp.out; omega
      obtain ⟨-, cd, -, -, -⟩ := Hlk.out.cells hpn
      have hw := Lib.hid (onWay_up ht hn ha hs0 HW.out)
      rw [Hp.out] at hw
      have hdp := dn_bd ht n p 0 hn hpn (by omega)
      obtain ⟨DP, HDP⟩ : ∃ x, Hid (dn t n p 0 = x) := ⟨_, rfl⟩
      rw [HDP.out] at hdp cd
      have hway : dn t n a p = DA - DP := by rw [← HDA.out, ← HDP.out]; exact hw.out.2.2
      clear cu
      by_cases hc : DA - DP ≤ far
      · obtain ⟨f', rfl⟩ : ∃ f', gk = f' + 1 := ⟨gk - 1, by omega⟩
        have HZ' := Lib.hid (show Z = clmC t (dn t n) far a f' p by rw [HZ2.out, clmC_up ⟨hs0, by rw [Hp.out, hway]; exact hc⟩, Hp.out])
        have hpf : p ≤ f' := by have := Hp.out; omega
        clear hto hway
        go_wp2
        go_quiet (fail)
        go_wp2
        go_roundg f'
        case rel => exact ⟨p, _, hpf, rfl, hw, HZ', rfl⟩
        case measure => omega
      · have HZ' := Lib.hid (show Z = sp by rw [HZ2.out, clmC_stop (by rintro ⟨_, h⟩; rw [Hp.out, hway] at h; exact hc h)])
        clear hto hway
        go_wp2
        go_quiet (fail)
        go_wp2
        go_ret
        exact ⟨by rw [HZ'.out]; rfl, _, World.drewN_drewN _ _ _⟩
    · have HZ' := Lib.hid (show Z = sp by rw [HZ2.out, clmC_stop (by rintro ⟨h, _⟩; exact hs0 h)])
      have cu' : w.cell? ⟨P sp, 2, none⟩ = some (.pointer none) := by
        rw [cu]; unfold upv; rw [if_pos (by omega)]
      clear cu
      go_wp2
      go_quiet (fail)
      go_wp2
      go_ret
      exact ⟨by rw [HZ'.out]; rfl, _, World.drewN_drewN _ _ _⟩
end Go.Proofs.Ytdhelapgdgekfaa
