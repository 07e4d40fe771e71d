/-
  rests and IsRest of the model, walked.
  Conditions: as each theorem states.
-/
import Derived.Test.Ythphboeboiallaa0MB
import Derived.Test.Ythphboeboiallaa0X
namespace Go.Proofs.Ythphboeboiallaa
open Go.ChangeShapes Go.WideShapes Go.ChangeAt Go.RowKit
set_option linter.unusedVariables false
set_option maxRecDepth 4000

def InRel (n : Nat) (o : List Nat) (s : Nat) (w : World) (i : Value) (wr : World) : Prop :=
  ∃ p : Nat, p ≤ n ∧ i = .int .i64 ((p : Nat) : Int) ∧ Hid (∀ q, q < p → adS n o q ≤ s) ∧ Hid (Below w.heap.size w wr)
theorem rstI_all {n : Nat} {ss : List Nat} {i s : Nat} (hs : shK ss (ss.getD i 0) n = s) (h : ∀ q, q < n → adS n (otS ss i) q ≤ s) : rstI n ss i = true := by
  simp only [rstI, List.all_eq_true, List.mem_range, decide_eq_true_eq]
  intro q hq
  rw [hs]; exact h q hq
theorem rstI_fail {n : Nat} {ss : List Nat} {i s p : Nat} (hs : shK ss (ss.getD i 0) n = s) (hp : p < n) (h : s < adS n (otS ss i) p) : rstI n ss i = false := by
  rw [Bool.eq_false_iff]
  intro hc
  simp only [rstI, List.all_eq_true, List.mem_range, decide_eq_true_eq] at hc
  have := hc p hp
  rw [hs] at this
  omega
set_option maxHeartbeats 3200000 in
theorem sRests_any (n m c : Nat) (A : Option Addr) (ss : List Nat) (w : World) (hp : PIn w A c m (cI ss)) (hS : Sh n ss) (h2 : 2 ≤ m) :
    Calls Try.prog 58 #[.int .i64 (n : Int), .slice A m c] w (ValQ (rstS n ss) w) := by
  obtain ⟨i0, hi0, hz0, hz1, hz2⟩ := info_parts intInfo
  have hm : ss.length = m := by rw [← cI_length]; exact hp.len
  have hl4 := hS.l4
  have hn1 := hS.n1
  have hn9 := hS.n9
  have Hm := Lib.hid hm
  obtain ⟨b, off, -, hA, hbl, -⟩ := hp.rd.q (k := 0) (by omega)
  subst hA
  have HP := Lib.hid hp
  have hmc := hp.cap
  have HS := Lib.hid (sShares_any n m c _ ss w hp.rd hm (by omega) (by omega) hn9 hS.lt)
  have HL : Hid ((cI (shL n ss)).length = m) := by show _ = _; rw [cI_length, shL_length, hm]
  have HSb : Hid (∀ (i p : Nat) (A : Option Addr) (c : Nat) (W : World), i < m → p < n → PartQ W A (m - 1) c (cI (otS ss i)) → Calls Try.prog 56 #[.int .i64 (n : Int), .slice A (m - 1 : Nat) c, .int .i64 (p : Int)] W fun e w' => e = .returned (.int .i64 ((adS n (otS ss i) p : Nat) : Int)) ∧ Below W.heap.size W w') :=
    fun i p A c W hi hpn hq => sShareAt_any n p (m - 1) c A (otS ss i) W hq (by omega) (by omega) hn9 ((hS.others (by omega) (by omega)).lt) hpn
  have Hol : Hid (∀ i, i < m → (cI (otS ss i)).length = m - 1) := fun i hi => by rw [cI_length, otS_length (by omega), hm]
  have hm4 : m ≤ 4 := by omega
  clear hp hS hm hbl hl4
  go_enter Try.func58, Try.ntmps58
  go_wp2_with fail
  refine HS.out.mono ?_
  rintro e w2 ⟨A2, c2, rfl, ho2, hb2⟩
  rw [HL.out] at ho2 ⊢
  obtain ⟨A3, c3, he, -, -, hrd⟩ := own_slice ho2.out HL.out
  injection he with he1 _ he3
  subst he1 he3
  have Hrd := Lib.hid hrd
  have HB2 := Lib.hid hb2.out
  clear ho2 hb2 hrd
  go_wp2
  go_loopw [6] (fun i wr => IrRel n m ss w2 i wr) (fun i _ => m - (intOf i).toNat)
  case atStart => exact ⟨0, Nat.zero_le _, rfl, fun j hj => by omega, Below.refl _ _⟩
  case round =>
    obtain ⟨k, hk, rfl, HR, HBw⟩ := hrel
    by_cases hlt : k < m
    · have HPw := Lib.hid (HP.out.later (HB2.out.trans (HBw.out.mono HB2.out.size)))
      obtain ⟨A', c', ⟨b', o', hA1⟩, hA2, hA3, htl⟩ := tail_runQ b off m c (k + 1) (by omega) hmc.1
      subst hA1
      rw [show ((k + 1 : Nat) : Int) = (k : Int) + 1 from rfl] at htl
      have hhd := head_runQ b off m c k (by omega) hmc.1
      have hk1 : (0 : Int) ≤ (k : Int) + 1 := by omega
      have hk2 : (k : Int) + 1 ≤ (m : Int) := by omega
      have hw1 : IntKind.i64.wrap ((k : Int) + 1) = (k : Int) + 1 := IntWalk.i64_in _ (by omega)
      have Hot : Hid ([] ++ cI (ss.take k) ++ cI (ss.drop (k + 1)) = cI (otS ss k)) := by show _ = _; rw [List.nil_append]; unfold otS; exact (cI_append _ _).symm
      have HPA : Hid (∀ V, Below wr.heap.size wr V → PartQ V (some ⟨b, off, none⟩) k c (cI (ss.take k))) := fun V hV =>
        ⟨(HPw.out.later hV).rd.takeQ k, by rw [cI_length, List.length_take, Hm.out]; omega, (fun h => by cases h), fun a ha => ⟨b, off, by injection ha with ha; exact ha.symm⟩⟩
      have HPB : Hid (∀ V, Below wr.heap.size wr V → PartQ V (some ⟨b', o', none⟩) (m - (k + 1)) c' (cI (ss.drop (k + 1)))) := fun V hV => by
        refine ⟨?_, by rw [cI_length, List.length_drop, Hm.out], (fun h => by cases h), fun a ha => ⟨b', o', by injection ha with ha; exact ha.symm⟩⟩
        rcases hA2 with h0 | h0
        · rw [h0]; exact (HPw.out.later hV).rd.dropQ (k + 1)
        · intro hl; rw [cI_length, List.length_drop, Hm.out] at hl; omega
      have HO0 : Hid ((wr.alloc (.cells #[] 3)).ownsRow wr.heap.size 3 1 (.slice (some ⟨wr.heap.size, 0, none⟩) 0 0) 0 (([] : List Int).map (Value.int .i64))) := World.ownsRow_lit wr #[] 0 (Nat.le_refl _) (by decide) rfl
      have HB0 : Hid (Below wr.heap.size wr (wr.alloc (.cells #[] 3))) := (Below.refl _ _).alloc (Nat.le_refl _) _
      have Hne0 : Hid ((Value.slice (some ⟨wr.heap.size, 0, none⟩) 0 0) ≠ .slice none 0 0) := (by intro h; cases h)
      go_wp2
      go_region_law (first
        | (refine step_append_partQ hi0 hz0 hz1 hz2 rfl (.tmp 22) (.tmp 26) rfl wr.heap.size v1 (0 + k) ([] ++ cI (ss.take k)) rfl hown1 hne1 b' o' (m - (k + 1)) c' (cI (ss.drop (k + 1))) rfl (HPB.out _ (HB0.out.drew.trans hb5)) (by omega) (by omega) (HB0.out.drew.trans hb5).size ?_
           intro v2 w6 hown2 hne2 hb6)
        | (refine step_append_partQ hi0 hz0 hz1 hz2 rfl (.tmp 18) (.tmp 21) rfl wr.heap.size (.slice (some ⟨wr.heap.size, 0, none⟩) 0 0) 0 [] rfl HO0.out Hne0.out b off k c (cI (ss.take k)) rfl (HPA.out _ HB0.out.drew) (by omega) (by omega) HB0.out.drew.size ?_
           intro v1 w5 hown1 hne1 hb5))
      rw [Hot.out] at hown2
      have HB6 : Hid (Below w2.heap.size w2 w6) := HBw.out.trans (((HB0.out.drew.trans hb5).trans hb6).mono HBw.out.size)
      rw [show 0 + k + (m - (k + 1)) = m - 1 by omega] at hown2
      obtain ⟨A6, c6, rfl, hp6⟩ := part_own hown2 (Hol.out k hlt)
      have HP6 := Lib.hid hp6
      obtain ⟨s, Hs⟩ : ∃ s, Hid (shK ss (ss.getD k 0) n = s) := ⟨_, rfl⟩
      have HX : Hid (∀ V, Below w2.heap.size w2 V → ∃ b2 o2, A2 = some ⟨b2, o2, none⟩ ∧ b2 < w2.heap.size ∧ V.cell? ⟨b2, o2 + k, none⟩ = some (.int .i64 ((s : Nat) : Int))) := fun V hV => by
        obtain ⟨b2, o2, x, e, hb, Hx, hcx⟩ := (Hrd.out.below hV).x (k := k) (by rw [HL.out]; exact hlt)
        rw [← Hx.out, cI_getD, shL_getD (by rw [Hm.out]; exact hlt), Hs.out] at hcx
        exact ⟨b2, o2, e, hb, hcx⟩
      clear hown1 hne1 hb5 hown2 hne2 hb6 hp6 HO0 HB0 Hne0 HPA HPB hA2 hA3 htl hhd HPw
      go_wp2
      go_loopw [8] (fun i wr' => InRel n (otS ss k) s w6 i wr') (fun i _ => n - (intOf i).toNat)
      case atStart => exact ⟨0, Nat.zero_le _, rfl, fun q hq => by omega, Below.refl _ _⟩
      case round =>
        obtain ⟨p, hpn, rfl, HI, HBi⟩ := hrel
        by_cases hlp : p < n
        · have HB7 : Hid (Below w2.heap.size w2 wr) := HB6.out.trans (HBi.out.mono HB6.out.size)
          obtain ⟨b2, o2, rfl, hb2l, hcx⟩ := HX.out wr HB7.out
          obtain ⟨a, Ha⟩ : ∃ a, Hid (adS n (otS ss k) p = a) := ⟨_, rfl⟩
          have Hsb : Hid (∀ V, Below wr.heap.size wr V → Calls Try.prog 56 #[.int .i64 (n : Int), .slice A6 (m - 1 : Nat) c6, .int .i64 (p : Int)] V fun e w' => e = .returned (.int .i64 ((a : Nat) : Int)) ∧ Below V.heap.size V w') := fun V hV => by
            have := HSb.out k p A6 c6 V hlt hlp (HP6.out.later (HBi.out.trans (hV.mono HBi.out.size)))
            rw [Ha.out] at this
            exact this
          have hb2w : b2 < wr.heap.size := Nat.lt_of_lt_of_le hb2l HB7.out.size
          have Hcx := Lib.hid hcx
          have Hb2w := Lib.hid hb2w
          by_cases hsa : s < a
          · have HE : Hid (rstS n ss = false) := rstS_no (i := k) (by rw [Hm.out]; exact hlt) (rstI_fail Hs.out hlp (by rw [Ha.out]; exact hsa))
            clear hb2l hb2w
            go_wp2
            go_region_held3 (fun w' => w'.cell? ⟨b2, o2 + k, none⟩ = some (.int .i64 ((s : Nat) : Int)))
              (first
                | go_keep
                | exact (hb8.cell (p := ⟨b2, o2 + k, none⟩) Hb2w.out).trans Hcx.out)
              (first
                | (go_at_call 56
                   refine (Hsb.out _ (by first | exact Below.refl _ _ | exact (Below.refl _ _).drew)).mono ?_
                   rintro e w8 ⟨rfl, hb8'⟩
                   have hb8 : Below wr.heap.size wr w8 := (by first | exact hb8' | exact (Below.refl wr.heap.size wr).drew.trans hb8')))
            go_wp2
            go_ret
            exact ⟨ret_bool HE.out.symm, HB2.out.trans ((HB7.out.trans (hb8.mono HB7.out.size)).mono HB2.out.size)⟩
          · have HI2 : Hid (∀ q, q < p + 1 → adS n (otS ss k) q ≤ s) := fun q hq => by
              by_cases e : q = p
              · subst e; rw [Ha.out]; omega
              · exact HI.out q (by omega)
            clear hb2l hb2w
            go_wp2
            go_region_held3 (fun w' => w'.cell? ⟨b2, o2 + k, none⟩ = some (.int .i64 ((s : Nat) : Int)))
              (first
                | go_keep
                | exact (hb8.cell (p := ⟨b2, o2 + k, none⟩) Hb2w.out).trans Hcx.out)
              (first
                | (go_at_call 56
                   refine (Hsb.out _ (by first | exact Below.refl _ _ | exact (Below.refl _ _).drew)).mono ?_
                   rintro e w8 ⟨rfl, hb8'⟩
                   have hb8 : Below wr.heap.size wr w8 := (by first | exact hb8' | exact (Below.refl wr.heap.size wr).drew.trans hb8')))
            have HB8 : Hid (Below w6.heap.size w6 w8) := HBi.out.trans (hb8.mono HBi.out.size)
            go_wp2
            go_roundw
            case rel => exact ⟨p + 1, by omega, by go_num, HI2, HB8⟩
            case measure => simp [intOf]; omega
        · obtain rfl : p = n := by omega
          have HR2 : Hid (∀ j, j < k + 1 → rstI p ss j = true) := fun j hj => by
            by_cases e : j = k
            · subst e; exact rstI_all Hs.out HI.out
            · exact HR.out j (by omega)
          have HB7 : Hid (Below w2.heap.size w2 wr) := HB6.out.trans (HBi.out.mono HB6.out.size)
          clear HI HBi
          go_wp2
          go_roundw
          case rel => exact ⟨k + 1, by omega, by go_num, HR2, HB7⟩
          case measure => simp [intOf]; omega
    · obtain rfl : k = m := by omega
      have HE : Hid (rstS n ss = true) := rstS_yes fun i hi => HR.out i (by rw [Hm.out] at hi; exact hi)
      go_wp2
      go_ret
      exact ⟨ret_bool HE.out.symm, HB2.out.trans (HBw.out.mono HB2.out.size)⟩
theorem sIsRest_ok : QBool 31 rtQ := by
  intro n A c m zs w hp
  have HV := Lib.hid (sValidShops_in n A c m zs w hp)
  by_cases hv : vsh n zs = true
  · obtain ⟨n, ss, rfl, rfl, hS⟩ := vsh_get hv
    rw [hv] at HV
    have hm : ss.length = m := by rw [← cI_length]; exact hp.len
    by_cases h2 : m < 2
    · rw [rtQ_no (.inr (by rw [cI_length]; omega))]
      clear hv hS hp hm
      go_enter Try.func31, Try.ntmps31
      go_wp2_with fail
      refine HV.out.mono ?_
      rintro e w1 ⟨rfl, hb1⟩
      go_wp2
      go_ret
      exact ⟨rfl, hb1⟩
    · rw [rtQ_yes hS (by omega)]
      have HR := Lib.hid (fun (W : World) (hW : Below w.heap.size w W) => sRests_any n m c A ss W (hp.later hW) hS (by omega))
      clear hv hS hp hm
      go_enter Try.func31, Try.ntmps31
      go_wp2_with fail
      refine HV.out.mono ?_
      rintro e w1 ⟨rfl, hb1⟩
      have HB1 := Lib.hid hb1
      clear hb1
      go_wp2_with fail
      refine (HR.out w1 HB1.out).mono ?_
      rintro e w2 ⟨rfl, hb2⟩
      go_wp2
      go_ret
      exact ⟨rfl, HB1.out.trans (hb2.mono HB1.out.size)⟩
  · have hv' : vsh n zs = false := by simpa using hv
    rw [hv'] at HV
    rw [rtQ_no (.inl hv')]
    clear hv hv' hp
    go_enter Try.func31, Try.ntmps31
    go_wp2_with fail
    refine HV.out.mono ?_
    rintro e w1 ⟨rfl, hb1⟩
    go_wp2
    go_ret
    exact ⟨rfl, hb1⟩
end Go.Proofs.Ythphboeboiallaa
