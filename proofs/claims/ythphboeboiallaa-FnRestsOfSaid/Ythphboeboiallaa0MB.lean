/-
  shareAt, BestPlace, rests and IsRest of the model, walked.
  Conditions: as each theorem states.
-/
import Derived.Test.Ythphboeboiallaa0MA
import Derived.Test.Ythphboeboiallaa0W
import Derived.Deep.RegionHeld3
namespace Go.Proofs.Ythphboeboiallaa
open Go.ChangeShapes Go.WideShapes Go.ChangeAt Go.RowKit
set_option linter.unusedVariables false
set_option maxRecDepth 4000

theorem partQ_one (w : World) (p : Nat) : PartQ (w.alloc (.cells #[.int .i64 ((p : Nat) : Int)] 3)) (some ⟨w.heap.size, 0, none⟩) 1 1 (cI [p]) :=
  ⟨fun _ => ⟨w.heap.size, 0, rfl, by rw [size_alloc1]; omega, fun i hi => by
    obtain rfl : i = 0 := by simp [cI] at hi; exact hi
    rw [cell_of_row _ _ _ _ _ _ (heap_alloc_new w _)]; rfl⟩, rfl, (fun h => by cases h), fun a ha => ⟨w.heap.size, 0, by injection ha with ha; exact ha.symm⟩⟩
theorem ad_last (n : Nat) (ss : List Nat) (p : Nat) : (shL n (ss ++ [p])).getD ss.length 0 = adS n ss p := by
  rw [shL_getD (by simp), ← adS_end]
  simp [List.getD]
set_option maxHeartbeats 1600000 in
theorem sShareAt_any (n p m c : Nat) (A : Option Addr) (ss : List Nat) (w : World) (hp : PartQ w A m c (cI ss)) (h1 : 1 ≤ m) (h4 : m ≤ 4) (hn9 : n ≤ 9) (hss : ∀ s ∈ ss, s < n) (hpn : p < n) :
    Calls Try.prog 56 #[.int .i64 (n : Int), .slice A m c, .int .i64 (p : Int)] w fun e w' => e = .returned (.int .i64 ((adS n ss p : Nat) : Int)) ∧ Below w.heap.size w w' := by
  obtain ⟨i0, hi0, hz0, hz1, hz2⟩ := info_parts intInfo
  have hm : ss.length = m := by rw [← cI_length]; exact hp.len
  have HO0 : Hid ((w.alloc (.cells #[] 3)).ownsRow w.heap.size 3 1 (.slice (some ⟨w.heap.size, 0, none⟩) 0 0) 0 (([] : List Int).map (Value.int .i64))) := World.ownsRow_lit w #[] 0 (Nat.le_refl _) (by decide) rfl
  have HB0 : Hid (Below w.heap.size w (w.alloc (.cells #[] 3))) := (Below.refl _ _).alloc (Nat.le_refl _) _
  have HP0 := Lib.hid (hp.later HB0.out)
  have hs0 : w.heap.size ≤ (w.alloc (.cells #[] 3)).heap.size := HB0.out.size
  have hne0 : (Value.slice (some ⟨w.heap.size, 0, none⟩) 0 0) ≠ .slice none 0 0 := by intro h; cases h
  have Hne0 := Lib.hid hne0
  have HSh : Hid (∀ (A : Option Addr) (c : Nat) (W : World), RdI W W.heap.size A (cI (ss ++ [p])) → Calls Try.prog 54 #[.int .i64 (n : Int), .slice A (m + 1 : Nat) c] W (RowQ (cI (shL n (ss ++ [p]))) W)) := fun A c W hW =>
    sShares_any n (m + 1) c A (ss ++ [p]) W hW (by simp [hm]) (by omega) (by omega) hn9 (fun s hs => by
      rcases List.mem_append.1 hs with h | h
      · exact hss s h
      · rw [List.mem_singleton.1 h]; exact hpn)
  have HL : Hid ((cI (ss ++ [p])).length = m + 1) := by show _ = _; rw [cI_length]; simp [hm]
  have HL2 : Hid ((cI (shL n (ss ++ [p]))).length = m + 1) := by show _ = _; rw [cI_length, shL_length]; simp [hm]
  have HA : Hid ((cI (shL n (ss ++ [p]))).getD m 0 = ((adS n ss p : Nat) : Int)) := by show _ = _; rw [cI_getD, ← hm, ad_last]
  have Hcat : Hid ([] ++ cI ss ++ cI [p] = cI (ss ++ [p])) := by show _ = _; rw [List.nil_append, cI_append]
  clear hp hm hss hne0
  go_enter Try.func56, Try.ntmps56
  go_wp2_with (first
    | (at_builtin; refine wpList_append_partQ hi0 hz0 hz1 hz2 rfl _ _ rfl w.heap.size _ (0 + m) ([] ++ cI ss) rfl hown1 hne1 (some ⟨w1.heap.size, 0, none⟩) 1 1 (cI [p]) rfl (partQ_one w1 p) (by omega) (by omega) hs1 ?_; intro v2 w2 hown2 hne2 hb2)
    | (at_builtin; refine wpList_append_partQ hi0 hz0 hz1 hz2 rfl _ _ rfl w.heap.size _ 0 [] rfl HO0.out Hne0.out A m c (cI ss) rfl HP0.out (by omega) (by omega) hs0 ?_; intro v1 w1 hown1 hne1 hb1; have hs1 : w.heap.size ≤ (w1.alloc (.cells #[.int .i64 ((p : Nat) : Int)] 3)).heap.size := (by rw [size_alloc1]; have := hb1.size; have := HB0.out.size; omega); have hown1 := World.ownsRow.alloc hown1 (.cells #[.int .i64 ((p : Nat) : Int)] 3)))
  rw [Hcat.out] at hown2
  have HB2 : Hid (Below w.heap.size w w2) := ((HB0.out.trans hb1).alloc (by have := hb1.size; have := HB0.out.size; omega) _).trans hb2
  rw [show 0 + m + 1 = m + 1 by omega] at hown2
  obtain ⟨A2, c2, rfl, -, -, hr2⟩ := own_slice hown2 HL.out
  have Hr2 := Lib.hid hr2
  clear hown1 hne1 hb1 hs1 hown2 hne2 hb2 hr2
  go_wp2_with fail
  refine (HSh.out _ _ _ Hr2.out).mono ?_
  rintro e w4 ⟨A4, c4, rfl, ho4, hb4⟩
  rw [HL2.out] at ho4 ⊢
  obtain ⟨A5, c5, he, -, -, hrd⟩ := own_slice ho4.out HL2.out
  injection he with he1 _ he3
  subst he1 he3
  obtain ⟨b4, o4, x, rfl, -, Hx, hcx⟩ := hrd.x (k := m) (by rw [HL2.out]; omega)
  have Hxe : Hid (x = ((adS n ss p : Nat) : Int)) := Hx.out.symm.trans HA.out
  have HB4 : Hid (Below w.heap.size w w4) := HB2.out.trans (hb4.out.mono HB2.out.size)
  clear ho4 hb4 hrd Hx
  go_wp2
  go_ret
  exact ⟨ret_int Hxe.out, HB4.out⟩
def BpMRel (f : Nat → Nat) (n : Nat) (w : World) (a i : Value) (wr : World) : Prop :=
  ∃ k : Nat, 1 ≤ k ∧ k ≤ n ∧ i = .int .i64 ((k : Nat) : Int) ∧ a = .int .i64 ((bpK f k : Nat) : Int) ∧ Hid (Below w.heap.size w wr)
set_option maxHeartbeats 800000 in
theorem sBestPlace_ok : QNum 27 bpQ := by
  intro n A c m zs w hp
  have HV := Lib.hid (sValidShops_in n A c m zs w hp)
  by_cases hv : vsh n zs = true
  · obtain ⟨n, ss, rfl, rfl, hS⟩ := vsh_get hv
    rw [hv] at HV
    have hm : ss.length = m := by rw [← cI_length]; exact hp.len
    have hl4 := hS.l4
    have hl1 := hS.l1
    by_cases h4 : 4 ≤ m
    · have ht : (m : Int) ≥ 4 := by omega
      rw [bpQ_no (.inr (by rw [cI_length]; omega))]
      clear hv hS hp hm hl4 h4
      go_enter Try.func27, Try.ntmps27
      go_wp2_with fail
      refine HV.out.mono ?_
      rintro e w1 ⟨rfl, hb1⟩
      go_wp2
      go_ret
      exact ⟨rfl, hb1⟩
    · have ht : ¬ (m : Int) ≥ 4 := by omega
      have ht2 : decide ((m : Int) ≥ 4) = false := by simp; omega
      rw [bpQ_yes hS (by omega)]
      obtain ⟨b, off, -, hA, hbl, -⟩ := hp.rd.q (k := 0) (by omega)
      subst hA
      have hpart : PartQ w (some ⟨b, off, none⟩) m c (cI ss) := ⟨hp.rd, hp.len, (fun h => by cases h), fun a ha => ⟨b, off, by injection ha with ha; exact ha.symm⟩⟩
      have HSb : Hid (∀ (p : Nat) (W : World), p < n → Below w.heap.size w W → Calls Try.prog 56 #[.int .i64 (n : Int), .slice (some ⟨b, off, none⟩) m c, .int .i64 (p : Int)] W fun e w' => e = .returned (.int .i64 ((adS n ss p : Nat) : Int)) ∧ Below W.heap.size W w') :=
        fun p W h1 h2 => sShareAt_any n p m c _ ss W (hpart.later h2) (by omega) (by omega) hS.n9 hS.lt h1
      have hn1 := hS.n1
      have hn9 := hS.n9
      show Calls _ _ _ _ fun e w' => e = .returned (.int .i64 ((bpK (adS n ss) n : Nat) : Int)) ∧ _
      generalize adS n ss = f at HSb ⊢
      have H1 := Lib.hid (bpK_one f)
      have Hlt := Lib.hid (fun k (hk : 0 < k) => bpK_lt f hk)
      clear hv hS hp hm hl4 h4 hpart
      go_enter Try.func27, Try.ntmps27
      go_wp2_with fail
      refine HV.out.mono ?_
      rintro e w1 ⟨rfl, hb1⟩
      have HB1 := Lib.hid hb1
      clear hb1
      go_wp2
      go_loopw [5, 6] (fun a i wr => BpMRel f n w a i wr) (fun _ i _ => n - (intOf i).toNat)
      case atStart => exact ⟨1, Nat.le_refl _, hn1, rfl, by rw [H1.out]; rfl, HB1⟩
      case round =>
        obtain ⟨k, hk1, hk, rfl, rfl, HB⟩ := hrel
        by_cases hlt : k < n
        · obtain ⟨z, Hz⟩ : ∃ z, Hid (bpK f k = z) := ⟨_, rfl⟩
          have hzk := Hlt.out k (by omega)
          rw [Hz.out] at hzk ⊢
          obtain ⟨s, Hs⟩ : ∃ s, Hid (f k = s) := ⟨_, rfl⟩
          obtain ⟨t, Ht⟩ : ∃ t, Hid (f z = t) := ⟨_, rfl⟩
          have Hc := Lib.hid (HSb.out k wr hlt HB.out)
          have Hd := Lib.hid (fun W hW => HSb.out z W (by omega) hW)
          rw [Hs.out] at Hc
          rw [Ht.out] at Hd
          have HN : Hid (bpK f (k + 1) = if t < s then k else z) := by show _ = _; rw [bpK, Hz.out, Hs.out, Ht.out]
          go_wp2_with fail
          refine Hc.out.mono ?_
          rintro e w2 ⟨rfl, hb2⟩
          have HB2 := Lib.hid (HB.out.trans (hb2.mono HB.out.size))
          clear hb2 Hc
          go_wp2_with fail
          refine (Hd.out w2 HB2.out).mono ?_
          rintro e w3 ⟨rfl, hb3⟩
          have HB3 := Lib.hid (HB2.out.trans (hb3.mono HB2.out.size))
          clear hb3 Hd HB HB2
          by_cases hst : t < s
          · rw [if_pos hst] at HN
            go_wp2
            go_roundw
            case rel => exact ⟨k + 1, by omega, by omega, by go_num, by rw [HN.out], HB3⟩
            case measure => simp [intOf]; omega
          · rw [if_neg hst] at HN
            go_wp2
            go_roundw
            case rel => exact ⟨k + 1, by omega, by omega, by go_num, by rw [HN.out], HB3⟩
            case measure => simp [intOf]; omega
        · obtain rfl : k = n := by omega
          go_wp2
          go_ret
          exact ⟨rfl, HB.out⟩
  · have hv' : vsh n zs = false := by simpa using hv
    rw [hv'] at HV
    rw [bpQ_no (.inl hv')]
    clear hv hv' hp
    go_enter Try.func27, Try.ntmps27
    go_wp2_with fail
    refine HV.out.mono ?_
    rintro e w1 ⟨rfl, hb1⟩
    go_wp2
    go_ret
    exact ⟨rfl, hb1⟩
end Go.Proofs.Ythphboeboiallaa
