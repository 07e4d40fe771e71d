/-
  The law FnWardsOfOne of chapter 8, walked: one district is all.
  Conditions: none.
-/
import Derived.Test.YtoappopbjnlbdaaZW
namespace Go.Proofs.Ytoappopbjnlbdaa
open Go.ChangeShapes Go.WideShapes Go.ChangeAt Go.RowKit
set_option linter.unusedVariables false
set_option maxRecDepth 4000

theorem gM_mem {zs : List Int} (hz : Ge0 zs) : zs ≠ [] → gM zs ∈ zs := by
  intro hne
  have h1 : ∀ zs : List Int, Ge0 zs → gM zs = 0 ∨ gM zs ∈ zs := by
    intro zs
    refine snoc_ind (P := fun zs => Ge0 zs → gM zs = 0 ∨ gM zs ∈ zs) (fun _ => .inl rfl) (fun z x ih h => ?_) zs
    rw [gM_snoc]
    have hx := h x (by simp)
    rcases Int.le_total (gM z) x with hh | hh
    · right; rw [Int.max_eq_right hh]; simp
    · rw [Int.max_eq_left hh]
      rcases ih (h.sub fun y hy => by simp [hy]) with h0 | h0
      · exact .inl h0
      · right; simp [h0]
  rcases h1 zs hz with h | h
  · cases zs with
    | nil => exact absurd rfl hne
    | cons x r =>
      have h2 := gM_ge (ds := x :: r) x (by simp)
      have h3 := hz x (by simp)
      rw [h] at h2 ⊢
      have : x = 0 := by omega
      simp [this]
  · exact h
theorem gN_mem {zs : List Int} (hz : ∀ x, x ∈ zs → x ≤ 100000) : zs ≠ [] → gN zs ∈ zs := by
  intro hne
  have h1 : ∀ zs : List Int, gN zs = 100000 ∨ gN zs ∈ zs := by
    refine snoc_ind (P := fun zs => gN zs = 100000 ∨ gN zs ∈ zs) (.inl rfl) (fun z x ih => ?_)
    rw [gN_snoc]
    rcases Int.le_total (gN z) x with hh | hh
    · rw [Int.min_eq_left hh]
      rcases ih with h0 | h0
      · exact .inl h0
      · right; simp [h0]
    · right; rw [Int.min_eq_right hh]; simp
  rcases h1 zs with h | h
  · cases zs with
    | nil => exact absurd rfl hne
    | cons x r =>
      have h2 := gN_le (ds := x :: r) x (by simp)
      have h3 := hz x (by simp)
      rw [h] at h2 ⊢
      have : x = 100000 := by omega
      simp [this]
  · exact h
theorem one_facts {zs : List Int} (hw : Wd zs) : lgA zs 1 = sm zs ∧ glA zs 1 = sm zs := by
  have hn := hw.n1
  have hv : vk zs 1 = true := vk_iff.2 ⟨hw, by omega, by omega⟩
  exact ⟨(lg_least hv).eq (isLeast_one hw.ne), (gl_most hv (by omega)).eq (isMost_one hw.ne)⟩
theorem all_facts {zs : List Int} {n : Nat} (hw : Wd zs) (hn : zs.length = n) (h4 : n ≤ 4) : lgA zs n = gM zs ∧ glA zs n = gN zs := by
  have h1 := hw.n1
  have hv : vk zs n = true := vk_iff.2 ⟨hw, by omega, by omega⟩
  have hL := lg_least hv
  have hM := gl_most hv (by omega)
  rw [Int.toNat_natCast, ← hn] at hL hM
  rw [← hn]
  exact ⟨hL.eq (isLeast_all hw.ge0 (gM_mem hw.ge0 hw.ne) gM_ge), hM.eq (isMost_all (gN_mem (fun x hx => by have := hw.ok x hx; omega) hw.ne) gN_le)⟩

set_option maxHeartbeats 1600000 in
theorem lawWardsOfOne_walk (A : Option Addr) (c : Nat) (bs : List Int) (w : World) (hr : RdB w w.heap.size A bs) (hcap : bs.length ≤ c) (hm : c ≤ maxLen) :
    Calls Try.prog 9 #[.slice A bs.length c] w fun e w' => e = .returned (.bool true) ∧ Below w.heap.size w w' := by
  unfold maxLen at hm
  by_cases hb : 1048576 < bs.length
  · go_enter Try.func9, Try.ntmps9
    go_wp2
    go_ret
    exact ⟨rfl, Below.refl _ _⟩
  · have HD := Lib.hid (drawGreatestByParts_any A c bs.length bs w hr rfl hcap hm)
    have HI := Lib.hid iGreatestByParts_ok
    have HS := Lib.hid sGreatestByParts_ok
    have HL := Lib.hid iLeastGreatest_ok
    have HG := Lib.hid iGreatestLeast_ok
    go_enter Try.func9, Try.ntmps9
    go_wp2_with fail
    refine HD.out.mono ?_
    rintro e w1 ⟨A1, c1, m, zs, k, rfl, hm10, hk0, hk1, N1, B1⟩
    clear HD hr hb hcap hm
    have hbe : ∀ x : Int, (x == x) = true := fun x => by simp
    have hbn : ∀ x : Int, (x != x) = false := fun x => by simp
    have hbb : ∀ x : Bool, (x == x) = true := fun x => by simp
    have hbx : ∀ x : Bool, (x != x) = false := fun x => by simp
    obtain ⟨v, Hv⟩ : ∃ v, Hid (lgA zs k = v) := ⟨_, rfl⟩
    go_wp2_with fail
    refine (HI.out _ _ _ zs k w1 N1.out).mono ?_
    rintro e w2 ⟨rfl, hq⟩
    rw [Hv.out]
    have N2 := Lib.hid (N1.out.later hq)
    have B2 := Lib.hid (B1.out.trans (hq.mono B1.out.size))
    clear hq
    go_wp2_with fail
    refine (HS.out _ _ _ zs k w2 N2.out).mono ?_
    rintro e w3 ⟨rfl, hq⟩
    rw [Hv.out]
    have N3 := Lib.hid (N2.out.later hq)
    have B3 := Lib.hid (B2.out.trans (hq.mono B2.out.size))
    clear hq
    go_wp2_with fail
    refine (HI.out _ _ _ zs k w3 N3.out).mono ?_
    rintro e w4 ⟨rfl, hq⟩
    rw [Hv.out]
    have N4 := Lib.hid (N3.out.later hq)
    have B4 := Lib.hid (B3.out.trans (hq.mono B3.out.size))
    clear hq
    by_cases hneg : v < 0
    · skip
      go_wp2
      go_ret
      exact ⟨rfl, B4.out⟩
    · skip
      have hn : ¬ lgA zs k < 0 := by rw [Hv.out]; exact hneg
      have hw := (vk_iff.1 (lgA_in hn)).1
      obtain ⟨ho1, ho2⟩ := one_facts hw
      have HO1 := Lib.hid ho1
      have HO2 := Lib.hid ho2
      have hlen := N4.out.len
      have HA := Lib.hid (fun h4 : m ≤ 4 => all_facts hw hlen h4)
      have HW := Lib.hid hw
      have HP := Lib.hid (show P20 zs from fun x hx => hw.ok x hx)
      have hm1 := hw.n1
      have hm20 : m ≤ 1048576 := by omega
      rw [hlen] at hm1
      have HlenZ := Lib.hid hlen
      have HE : Hid (gN (zs.take m) = gN zs) := by show _ = _; rw [← hlen, List.take_length]
      obtain ⟨b, off, y0, rfl, -, Hy0, hc0⟩ := N4.out.rd.x (k := 0) hw.n1
      rw [Nat.add_zero] at hc0
      have hy0 := HW.out.at_ (k := 0) hw.n1
      rw [Hy0.out] at hy0
      have HSt : Hid (gN (zs.take 1) = y0) := by show _ = _; rw [take_snoc (k := 0) hw.n1, gN_snoc, Hy0.out]; simp [gN]; omega
      obtain ⟨t, Ht⟩ : ∃ t, Hid (sm zs = t) := ⟨_, rfl⟩
      rw [Ht.out] at HO1 HO2
      have hm1I : (0 : Int) < (m : Int) := by omega
      clear hn hw ho1 ho2 hlen hy0
      go_wp2
      go_loop [6, 7] (fun a i => ∃ j : Nat, ∃ g : Int, 1 ≤ j ∧ j ≤ m ∧ a = .int .i64 g ∧ Hid (gN (zs.take j) = g) ∧ i = .int .i64 (j : Int)) (fun _ i => m - (intOf i).toNat)
      case atStart => exact ⟨1, y0, by omega, hm1, rfl, HSt, rfl⟩
      case round =>
        obtain ⟨j, g, hj1, hj, rfl, Hg, rfl⟩ := hrel
        by_cases hlt : j < m
        · obtain ⟨b', off', y, he, -, Hy, hcy⟩ := N4.out.rd.x (k := j) (by rw [HlenZ.out]; exact hlt)
          injection he with he
          injection he with he1 he2
          subst he1 he2
          have Hs : Hid (gN (zs.take (j + 1)) = if y < g then y else g) := by show _ = _; rw [take_snoc (by rw [HlenZ.out]; exact hlt), gN_snoc, Hg.out, Hy.out]; split <;> omega
          go_wp2
          all_goals
            go_round
            case rel => exact ⟨j + 1, _, by omega, by omega, rfl, by show _ = _; rw [Hs.out]; try (split <;> omega), by go_num⟩
            case measure => simp [intOf]; omega
        · obtain rfl : j = m := by omega
          have HGN : Hid (gN zs = g) := HE.out.symm.trans Hg.out
          go_wp2_with fail
          refine (HL.out _ _ _ zs 1 w4 N4.out).mono ?_
          rintro e w5 ⟨rfl, hq⟩
          rw [HO1.out]
          have N5 := Lib.hid (N4.out.later hq)
          have B5 := Lib.hid (B4.out.trans (hq.mono B4.out.size))
          clear hq
          go_wp2_with fail
          refine (lTotal_any (some ⟨b, off, none⟩) c1 j zs w5 _ N5.out.rd N5.out.len hm10 HP.out).mono ?_
          rintro e w9 ⟨rfl, rfl⟩
          rw [Ht.out]
          go_wp2_with fail
          refine (HG.out _ _ _ zs 1 w5 N5.out).mono ?_
          rintro e w6 ⟨rfl, hq⟩
          rw [HO2.out]
          have N6 := Lib.hid (N5.out.later hq)
          have B6 := Lib.hid (B5.out.trans (hq.mono B5.out.size))
          clear hq
          go_wp2_with fail
          refine (lTotal_any (some ⟨b, off, none⟩) c1 j zs w6 _ N6.out.rd N6.out.len hm10 HP.out).mono ?_
          rintro e w9 ⟨rfl, rfl⟩
          rw [Ht.out]
          by_cases h4 : j ≤ 4
          · obtain ⟨ha1, ha2⟩ := HA.out h4
            have hn4 : ¬ (4 : Int) < (j : Int) := by omega
            obtain ⟨x, Hx⟩ : ∃ x, Hid (gM zs = x) := ⟨_, rfl⟩
            rw [Hx.out] at ha1
            rw [HGN.out] at ha2
            have Ha1 := Lib.hid ha1
            have Ha2 := Lib.hid ha2
            clear ha1 ha2 HA
            go_wp2_with fail
            refine (HL.out _ _ _ zs (j : Int) w6 N6.out).mono ?_
            rintro e w7 ⟨rfl, hq⟩
            rw [Ha1.out]
            have N7 := Lib.hid (N6.out.later hq)
            have B7 := Lib.hid (B6.out.trans (hq.mono B6.out.size))
            clear hq
            go_wp2_with fail
            refine (greatestOf_any (some ⟨b, off, none⟩) c1 j zs w7 _ N7.out.rd N7.out.len hm20).mono ?_
            rintro e w9 ⟨rfl, rfl⟩
            rw [Hx.out]
            go_wp2_with fail
            refine (HG.out _ _ _ zs (j : Int) w7 N7.out).mono ?_
            rintro e w8 ⟨rfl, hq⟩
            rw [Ha2.out]
            have N8 := Lib.hid (N7.out.later hq)
            have B8 := Lib.hid (B7.out.trans (hq.mono B7.out.size))
            clear hq
            go_wp2
            go_ret
            exact ⟨rfl, B8.out⟩
          · have hn4 : (4 : Int) < (j : Int) := by omega
            go_wp2
            go_ret
            exact ⟨rfl, B6.out⟩
end Go.Proofs.Ytoappopbjnlbdaa
