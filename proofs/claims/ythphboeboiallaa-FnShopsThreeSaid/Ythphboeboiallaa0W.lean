/-
  IsRest of the program, walked.
  Conditions: fewer than 2^20 numbers.
-/
import Derived.Test.Ythphboeboiallaa0Q
import Derived.Test.Ythphboeboiallaa0AP
import Derived.RegionTactic
namespace Go.Proofs.Ythphboeboiallaa
open Go.ChangeShapes Go.WideShapes Go.ChangeAt Go.RowKit
set_option linter.unusedVariables false
set_option maxRecDepth 4000

theorem RdI.takeQ {w : World} {B : Nat} {A : Option Addr} {ss : List Nat} (h : RdI w B A (cI ss)) (i : Nat) : RdI w B A (cI (ss.take i)) := fun hp => by
  rw [cI_length, List.length_take] at hp
  obtain ⟨b, off, e, hb, hc⟩ := h (by rw [cI_length]; omega)
  refine ⟨b, off, e, hb, fun j hj => ?_⟩
  rw [cI_length, List.length_take] at hj
  rw [hc j (by rw [cI_length]; omega), cI_getD, cI_getD]
  simp [List.getD, show j < i by omega]
theorem RdI.dropQ {w : World} {B b off : Nat} {ss : List Nat} (h : RdI w B (some ⟨b, off, none⟩) (cI ss)) (i : Nat) : RdI w B (some ⟨b, off + i, none⟩) (cI (ss.drop i)) := fun hp => by
  rw [cI_length, List.length_drop] at hp
  obtain ⟨b', off', e, hb, hc⟩ := h (by rw [cI_length]; omega)
  injection e with e
  injection e with e1 e2
  subst e1 e2
  refine ⟨b, off + i, rfl, hb, fun j hj => ?_⟩
  rw [cI_length, List.length_drop] at hj
  rw [Nat.add_assoc, hc (i + j) (by rw [cI_length]; omega), cI_getD, cI_getD]
  simp [List.getD, List.getElem?_drop]
def IrRel (n m : Nat) (ss : List Nat) (w : World) (i : Value) (wr : World) : Prop :=
  ∃ k, k ≤ m ∧ i = .int .i64 ((k : Nat) : Int) ∧ Hid (∀ j, j < k → rstI n ss j = true) ∧ Hid (Below w.heap.size w wr)
set_option maxHeartbeats 1600000 in
theorem iIsRest_ok : QBool 30 rtQ := by
  intro n A c m zs w hp
  have HV := Lib.hid (iValidShops_any n A c m zs w hp)
  by_cases hv : vsh n zs = true
  · obtain ⟨n, ss, rfl, rfl, hS⟩ := vsh_get hv
    rw [hv] at HV
    have hm : ss.length = m := by rw [← cI_length]; exact hp.len
    have hl4 := hS.l4
    by_cases h2 : m < 2
    · rw [rtQ_no (.inr (by rw [cI_length]; omega))]
      clear hv hS hp hm hl4
      go_enter Try.func30, Try.ntmps30
      go_wp2_with fail
      refine HV.out.mono ?_
      rintro e w1 ⟨rfl, rfl⟩
      go_wp2
      go_ret
      exact ⟨rfl, Below.refl _ _⟩
    · rw [rtQ_yes hS (by omega)]
      have hn1 := hS.n1
      have hn9 := hS.n9
      have HS := Lib.hid (iSharesOf_ok (n : Int) A c m (cI ss) w hp)
      rw [shQ_yes hS] at HS
      have Hm := Lib.hid hm
      obtain ⟨b, off, -, hA, hbl, -⟩ := hp.rd.q (k := 0) (by omega)
      subst hA
      have HP := Lib.hid hp
      have Hn1 := Lib.hid hn1
      have hmc := hp.cap
      have HOt : Hid (∀ i, i < m → Sh n (otS ss i) ∧ (otS ss i).length = m - 1) := fun i hi => ⟨hS.others (by omega) (by omega), by rw [otS_length (by omega), hm]⟩
      have HB := Lib.hid iBestPlace_ok
      have HSb := Lib.hid (fun (o : List Nat) (A : Option Addr) (c q p : Nat) (W : World) (h1 : PIn W A c q (cI o)) (h2 : Sh n o) (h3 : o.length ≠ 4) (h4 : p < n) => shareBeside_any n p c q o A W h1 h2 h3 h4)
      have HL : Hid ((cI (shL n ss)).length = m) := by show _ = _; rw [cI_length, shL_length, hm]
      have hm4 : m ≤ 4 := by omega
      clear hv hS hp hm hbl
      go_enter Try.func30, Try.ntmps30
      go_wp2_with fail
      refine HV.out.mono ?_
      rintro e w1 ⟨rfl, rfl⟩
      go_wp2_with fail
      refine HS.out.mono ?_
      rintro e w2 ⟨A2, c2, rfl, ho2, hb2⟩
      rw [HL.out] at ho2 ⊢
      obtain ⟨A3, c3, he, -, -, hrd⟩ := own_slice ho2.out HL.out
      injection he with he1 _ he3
      subst he1 he3
      have Hrd := Lib.hid hrd
      have HB2 := Lib.hid hb2.out
      clear ho2 hb2 hrd
      go_wp2
      go_loopw [21] (fun i wr => IrRel n m ss w2 i wr) (fun i _ => m - (intOf i).toNat)
      case atStart => exact ⟨0, Nat.zero_le _, rfl, fun j hj => by omega, Below.refl _ _⟩
      case round =>
        obtain ⟨k, hk, rfl, HR, HBw⟩ := hrel
        by_cases hlt : k < m
        · obtain ⟨b2, o2, x, rfl, -, Hx, hcx⟩ := (Hrd.out.below HBw.out).x (k := k) (by rw [HL.out]; exact hlt)
          obtain ⟨s, Hs⟩ : ∃ s, Hid (shK ss (ss.getD k 0) n = s) := ⟨_, rfl⟩
          have hxs : x = ((s : Nat) : Int) := by rw [← Hx.out, cI_getD, shL_getD (by rw [Hm.out]; exact hlt), Hs.out]
          rw [hxs] at hcx
          have HPw := Lib.hid (HP.out.later (HB2.out.trans (HBw.out.mono HB2.out.size)))
          obtain ⟨A', c', hA1, hA2, hA3, htl⟩ := tail_runQ b off m c (k + 1) (by omega) hmc.1
          rw [show ((k + 1 : Nat) : Int) = (k : Int) + 1 from rfl] at htl
          have hhd := head_runQ b off m c k (by omega) hmc.1
          have HCc : Hid (∀ (V : World) (vb : Nat), Below wr.heap.size wr V → V.heap[vb]? = some (.cells #[.slice (some ⟨b, off, none⟩) k c, .slice A' (m - (k + 1) : Nat) c'] 23 (0, 0)) → Calls Try.prog 57 #[.slice (some ⟨vb, 0, none⟩) 2 2] V (RowQ (cI (otS ss k)) V)) := fun V vb hb hh => by
            have hpv := HPw.out.later hb
            have hot : cI (otS ss k) = cI (ss.take k) ++ cI (ss.drop (k + 1)) := by unfold otS; exact cI_append _ _
            rw [hot]
            refine concatQ_any vb 2 k c (m - (k + 1)) c' (some ⟨b, off, none⟩) A' _ _ V ⟨hpv.rd.takeQ k, by rw [cI_length, List.length_take, Hm.out]; omega, (fun h => by cases h), fun a ha => ⟨b, off, by injection ha with ha; exact ha.symm⟩⟩ ⟨?_, by rw [cI_length, List.length_drop, Hm.out], ?_, ?_⟩ (by omega) (by omega) hh
            · rcases hA2 with rfl | h0
              · exact hpv.rd.dropQ (k + 1)
              · intro hl; rw [cI_length, List.length_drop, Hm.out] at hl; omega
            · obtain ⟨b', o', rfl⟩ := hA1
              intro h; cases h
            · obtain ⟨b', o', rfl⟩ := hA1
              intro a ha
              injection ha with ha
              exact ⟨b', o', ha.symm⟩
          have hk1 : (0 : Int) ≤ (k : Int) + 1 := by omega
          have hk2 : (k : Int) + 1 ≤ (m : Int) := by omega
          have hw1 : IntKind.i64.wrap ((k : Int) + 1) = (k : Int) + 1 := IntWalk.i64_in _ (by omega)
          clear hA1 hA2 hA3 Hx
          go_wp2
          go_region_with (go_at_call 57; refine (HCc.out _ _ (((Below.refl _ _).alloc (Nat.le_refl _) _).drew) (heap_alloc_new wr _)).mono ?_; rintro e w5 ⟨A5, c5, rfl, ho5, hb5⟩)
          obtain ⟨hSo, hlo⟩ := HOt.out k hlt
          have Hlo : Hid ((cI (otS ss k)).length = m - 1) := by show _ = _; rw [cI_length]; exact hlo
          rw [Hlo.out] at ho5 ⊢
          obtain ⟨A6, c6, he6, hc6, hc66, hrd6⟩ := own_slice ho5.out Hlo.out
          injection he6 with he1 _ he3
          subst he1 he3
          have HP5 : Hid (PIn w5 A5 c5 (m - 1) (cI (otS ss k))) := ⟨hrd6, Hlo.out, ⟨hc6, hc66⟩, by omega⟩
          have HB5 : Hid (Below w2.heap.size w2 w5) := HBw.out.trans ((((Below.refl wr.heap.size wr).alloc (Nat.le_refl _) _).drew.trans (hb5.out.mono (by show wr.heap.size ≤ (wr.alloc _).heap.size; rw [size_alloc1]; omega))).mono HBw.out.size)
          have Hbp := Lib.hid (HB.out (n : Int) A5 c5 (m - 1) (cI (otS ss k)) w5 HP5.out)
          rw [bpQ_yes hSo (by omega)] at Hbp
          have Hsb := Lib.hid (fun (V : World) (hV : Below w5.heap.size w5 V) => HSb.out (otS ss k) A5 c5 (m - 1) (bpS n (otS ss k)) V (HP5.out.later hV) hSo (by omega) (bpS_lt _ Hn1.out))
          have Hri : Hid (rstI n ss k = decide (adS n (otS ss k) (bpS n (otS ss k)) ≤ s)) := by show _ = _; rw [rstI_best ss k Hn1.out, Hs.out]
          obtain ⟨bp, Hbe⟩ : ∃ bp, Hid (bpS n (otS ss k) = bp) := ⟨_, rfl⟩
          rw [Hbe.out] at Hbp Hsb Hri
          obtain ⟨a, Ha⟩ : ∃ a, Hid (adS n (otS ss k) bp = a) := ⟨_, rfl⟩
          rw [Ha.out] at Hsb Hri
          clear ho5 hb5 hSo hlo hrd6 hc6 hc66 htl hhd HCc
          by_cases hgt : s < a
          · have HE : Hid (rstS n ss = false) := rstS_no (i := k) (by rw [Hm.out]; exact hlt) (by rw [Hri.out]; simp; omega)
            go_wp2_with fail
            refine Hbp.out.mono ?_
            rintro e w6 ⟨rfl, hb6⟩
            have HB6 := Lib.hid hb6
            clear hb6
            go_wp2_with fail
            refine (Hsb.out w6 HB6.out).mono ?_
            rintro e w7 ⟨rfl, hb7⟩
            have HB7 : Hid (Below w.heap.size w w7) := HB2.out.trans ((HB5.out.trans ((HB6.out.trans (hb7.mono HB6.out.size)).mono HB5.out.size)).mono HB2.out.size)
            clear hb7
            go_wp2
            go_ret
            exact ⟨ret_bool HE.out.symm, HB7.out⟩
          · have HR2 : Hid (∀ j, j < k + 1 → rstI n ss j = true) := fun j hj => by
              by_cases e : j = k
              · subst e; rw [Hri.out]; simp; omega
              · exact HR.out j (by omega)
            go_wp2_with fail
            refine Hbp.out.mono ?_
            rintro e w6 ⟨rfl, hb6⟩
            have HB6 := Lib.hid hb6
            clear hb6
            go_wp2_with fail
            refine (Hsb.out w6 HB6.out).mono ?_
            rintro e w7 ⟨rfl, hb7⟩
            have HB7 : Hid (Below w2.heap.size w2 w7) := HB5.out.trans ((HB6.out.trans (hb7.mono HB6.out.size)).mono HB5.out.size)
            clear hb7
            go_wp2
            go_roundw
            case rel => exact ⟨k + 1, by omega, by go_num, HR2, HB7⟩
            case measure => simp [intOf]; omega
        · obtain rfl : k = m := by omega
          have HE : Hid (rstS n ss = true) := rstS_yes fun i hi => HR.out i (by rw [Hm.out] at hi; exact hi)
          go_wp2
          go_ret
          exact ⟨ret_bool HE.out.symm, HB2.out.trans (HBw.out.mono HB2.out.size)⟩
  · have hv' : vsh n zs = false := by simpa using hv
    rw [hv'] at HV
    rw [rtQ_no (.inl hv')]
    clear hv hv' hp
    go_enter Try.func30, Try.ntmps30
    go_wp2_with fail
    refine HV.out.mono ?_
    rintro e w1 ⟨rfl, rfl⟩
    go_wp2
    go_ret
    exact ⟨rfl, Below.refl _ _⟩
end Go.Proofs.Ythphboeboiallaa
