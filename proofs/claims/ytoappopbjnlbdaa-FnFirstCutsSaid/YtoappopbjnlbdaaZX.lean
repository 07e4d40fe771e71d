/-
  The law FnFirstCuts of chapter 8, walked: between two cuts there are at most so many people, and with the next street more.
  Conditions: none.
-/
import Derived.Test.YtoappopbjnlbdaaZV
import Derived.Test.YtoappopbjnlbdaaEL
namespace Go.Proofs.Ytoappopbjnlbdaa
open Go.ChangeShapes Go.WideShapes Go.ChangeAt Go.RowKit
set_option linter.unusedVariables false
set_option maxRecDepth 4000

theorem sg_snoc {zs : List Int} {a k : Nat} (ha : a ≤ k) (hk : k < zs.length) : sg zs a (k + 1) = sg zs a k + zs.getD k 0 := by
  unfold sg
  rw [take_snoc hk, List.drop_append_of_le_length (by rw [List.length_take]; omega), sm_app, sm_one]
def PartsTo (m : Int) (zs : List Int) (k : Nat) (p : Nat → Nat) : Prop :=
  p 0 = 0 ∧ (∀ i, i < (ctT m zs k).length → (ctT m zs k).getD i 0 = p (i + 1)) ∧
  (∀ i, i < (ctT m zs k).length → p i < p (i + 1) ∧ p (i + 1) < k ∧ sg zs (p i) (p (i + 1)) ≤ m ∧ m < sg zs (p i) (p (i + 1)) + zs.getD (p (i + 1)) 0) ∧
  p (ctT m zs k).length < k ∧ sg zs (p (ctT m zs k).length) k = nwT m zs k
theorem parts_made {m : Int} {zs : List Int} (hw : Wd zs) (h0 : 0 ≤ m) (hm : ∀ x, x ∈ zs → x ≤ m) : ∀ k, k + 1 ≤ zs.length → ∃ p, PartsTo m zs (k + 1) p
  | 0, hk => by
    have hx := hm _ (getD_mem (zs := zs) (k := 0) (by omega))
    have h : ¬ m < nwT m zs 0 + zs.getD 0 0 := by simp only [nwT]; omega
    have e : ctT m zs 1 = [] := by rw [ctT_go h]; rfl
    refine ⟨fun _ => 0, rfl, fun i hi => ?_, fun i hi => ?_, Nat.zero_lt_succ _, ?_⟩
    · rw [e] at hi; simp at hi
    · rw [e] at hi; simp at hi
    · show sg zs 0 (0 + 1) = _
      rw [nwT_go h, sg_snoc (Nat.le_refl _) (by omega), sg_end]; simp [nwT]
  | k + 1, hk => by
    obtain ⟨p, hp0, hp1, hp2, hp3, hp4⟩ := parts_made hw h0 hm k (by omega)
    by_cases h : m < nwT m zs (k + 1) + zs.getD (k + 1) 0
    · have hnle := nwT_le h0 hm (k + 1) (by omega)
      obtain ⟨L, hL⟩ : ∃ L, (ctT m zs (k + 1)).length = L := ⟨_, rfl⟩
      rw [hL] at hp1 hp2 hp3 hp4
      have hL2 : (ctT m zs (k + 2)).length = L + 1 := by rw [ctT_cut h, List.length_append, hL]; rfl
      obtain ⟨r, hr1, hr2⟩ : ∃ r : Nat → Nat, r (L + 1) = k + 1 ∧ ∀ i, i ≤ L → r i = p i := ⟨fun i => if i = L + 1 then k + 1 else p i, if_pos rfl, fun i hi => if_neg (by omega)⟩
      refine ⟨r, by rw [hr2 0 (by omega)]; exact hp0, ?_, ?_, ?_, ?_⟩
      · rw [hL2]
        intro i hi
        rw [ctT_cut h]
        by_cases hi2 : i < L
        · rw [hr2 (i + 1) (by omega), ← hp1 i hi2]
          simp only [List.getD]
          rw [List.getElem?_append_left (by omega)]
        · have : i = L := by omega
          subst this
          rw [hr1]
          simp only [List.getD]
          rw [List.getElem?_append_right (by omega), hL, Nat.sub_self]; rfl
      · rw [hL2]
        intro i hi
        by_cases hi2 : i < L
        · rw [hr2 (i + 1) (by omega), hr2 i (by omega)]
          have := hp2 i hi2
          exact ⟨this.1, by omega, this.2.2⟩
        · have : i = L := by omega
          subst this
          rw [hr1, hr2 i (by omega), hp4]
          exact ⟨hp3, by omega, hnle, h⟩
      · rw [hL2, hr1]; omega
      · rw [hL2, hr1, nwT_cut h, sg_snoc (Nat.le_refl _) (by omega), sg_end]; simp
    · refine ⟨p, hp0, ?_, ?_, ?_, ?_⟩
      · rw [ctT_go h]; exact hp1
      · rw [ctT_go h]
        intro i hi
        have := hp2 i hi
        exact ⟨this.1, by omega, this.2.2⟩
      · rw [ctT_go h]; omega
      · rw [ctT_go h, nwT_go h, sg_snoc (by omega) (by omega), hp4]
/-- Where the districts begin, and that they are as long as they can be. -/
theorem parts_all {m : Int} {zs xs : List Int} {L n : Nat} (hw : Wd zs) (h0 : 0 ≤ m) (hm : ∀ x, x ∈ zs → x ≤ m) (hx : ctT m zs zs.length = xs) (hL : xs.length = L) (hn : zs.length = n) :
    ∃ p : Nat → Nat, p 0 = 0 ∧ (∀ i, i < L → xs.getD i 0 = p (i + 1) ∧ p i < p (i + 1) ∧ p (i + 1) < n ∧ sg zs (p i) (p (i + 1)) ≤ m ∧ m < sg zs (p i) (p (i + 1)) + zs.getD (p (i + 1)) 0) ∧
      p L < n ∧ sg zs (p L) n ≤ m := by
  have h1 := hw.n1
  obtain ⟨p, hp0, hp1, hp2, hp3, hp4⟩ := parts_made hw h0 hm (zs.length - 1) (by omega)
  rw [show zs.length - 1 + 1 = zs.length by omega, hx] at hp1 hp2 hp3 hp4
  rw [hL] at hp1 hp2 hp3 hp4
  rw [hn] at hp2 hp3 hp4
  exact ⟨p, hp0, fun i hi => ⟨hp1 i hi, hp2 i hi⟩, hp3, by rw [hp4]; exact nwT_le h0 hm n (by omega)⟩

set_option maxHeartbeats 1600000 in
theorem lawFirstCuts_walk (A : Option Addr) (c : Nat) (bs : List Int) (w : World) (hr : RdB w w.heap.size A bs) (hcap : bs.length ≤ c) (hm : c ≤ maxLen) :
    Calls Try.prog 8 #[.slice A bs.length c] w fun e w' => e = .returned (.bool true) ∧ Below w.heap.size w w' := by
  unfold maxLen at hm
  by_cases hb : 1048576 < bs.length
  · go_enter Try.func8, Try.ntmps8
    go_wp2
    go_ret
    exact ⟨rfl, Below.refl _ _⟩
  · have HD := Lib.hid (drawFirstCuts_any A c bs.length bs w hr rfl hcap hm)
    have HI := Lib.hid iFirstCuts_ok
    have HS := Lib.hid sFirstCuts_ok
    go_enter Try.func8, Try.ntmps8
    go_wp2_with fail
    refine HD.out.mono ?_
    rintro e w1 ⟨A1, c1, m, zs, k, rfl, hm10, hk0, hk1, N1, B1⟩
    clear HD hr hb hcap hm
    have hbe : ∀ x : Int, (x == x) = true := fun x => by simp
    have hbn : ∀ x : Int, (x != x) = false := fun x => by simp
    have hbb : ∀ x : Bool, (x == x) = true := fun x => by simp
    have hbx : ∀ x : Bool, (x != x) = false := fun x => by simp
    have hcl := cutRow_len zs k
    obtain ⟨xs, Hx⟩ : ∃ xs, Hid (cutRow zs k = xs) := ⟨_, rfl⟩
    rw [Hx.out] at hcl
    obtain ⟨L, HL⟩ : ∃ L, Hid (xs.length = L) := ⟨_, rfl⟩
    rw [HL.out] at hcl
    obtain ⟨bo, Hbo⟩ : ∃ bo, Hid (cbc zs k = bo) := ⟨_, rfl⟩
    have HC2 : Hid (∀ A c W, LIn W A c m zs → Calls Try.prog 23 #[.slice A m c, .int .i64 k] W fun e w' => ∃ A' c', e = .returned (.tuple #[.slice A' L c', .bool bo]) ∧ Hid (LIn w' A' c' L xs) ∧ Hid (Below W.heap.size W w')) := fun A c W h =>
      (HI.out A c m zs k W h).mono fun e w' hh => by
        obtain ⟨A', c', rfl, ho, hB⟩ := cutsAre_row Hx.out HL.out Hbo.out hh
        obtain ⟨A2, c2, he, hl, -⟩ := lIn_own ho.out HL.out (by omega)
        injection he with he1 he2 he3
        subst he1 he3
        exact ⟨A', c', rfl, hl, hB⟩
    have HS2 : Hid (∀ A c W, LIn W A c m zs → Calls Try.prog 36 #[.slice A m c, .int .i64 k] W fun e w' => ∃ A' c', e = .returned (.tuple #[.slice A' L c', .bool bo]) ∧ Hid (LIn w' A' c' L xs) ∧ Hid (Below W.heap.size W w')) := fun A c W h =>
      (HS.out A c m zs k W h).mono fun e w' hh => by
        obtain ⟨A', c', rfl, ho, hB⟩ := cutsAre_row Hx.out HL.out Hbo.out hh
        obtain ⟨A2, c2, he, hl, -⟩ := lIn_own ho.out HL.out (by omega)
        injection he with he1 he2 he3
        subst he1 he3
        exact ⟨A', c', rfl, hl, hB⟩
    clear HI HS
    go_wp2_with fail
    refine (HC2.out _ _ w1 N1.out).mono ?_
    rintro e w2 ⟨A2, c2, rfl, G2, hq⟩
    have N2 := Lib.hid (N1.out.later hq.out)
    have B2 := Lib.hid (B1.out.trans (hq.out.mono B1.out.size))
    clear hq
    go_wp2_with fail
    refine (HS2.out _ _ w2 N2.out).mono ?_
    rintro e w3 ⟨A3, c3, rfl, S3, hq⟩
    have N3 := Lib.hid (N2.out.later hq.out)
    have G3 := Lib.hid (G2.out.later hq.out)
    have B3 := Lib.hid (B2.out.trans (hq.out.mono B2.out.size))
    clear hq
    go_wp2_with fail
    refine (calls_drawn (eqLi_same A2 A3 c2 c3 L L xs w3 _ _ G3.out.rd G3.out.len S3.out.rd S3.out.len (by omega))).mono ?_
    rintro e w4 ⟨rfl, hq⟩
    have N4 := Lib.hid (N3.out.later hq)
    have G4 := Lib.hid (G3.out.later hq)
    have S4 := Lib.hid (S3.out.later hq)
    have B4 := Lib.hid (B3.out.trans (hq.mono B3.out.size))
    clear hq
    cases bo with
    | false =>
      go_wp2_with fail
      refine (calls_drawn (eqLi_same A2 A3 c2 c3 L L xs w4 _ _ G4.out.rd G4.out.len S4.out.rd S4.out.len (by omega))).mono ?_
      rintro e w5 ⟨rfl, hq⟩
      have N5 := Lib.hid (N4.out.later hq)
      have G5 := Lib.hid (G4.out.later hq)
      have S5 := Lib.hid (S4.out.later hq)
      have B5 := Lib.hid (B4.out.trans (hq.mono B4.out.size))
      clear hq
      go_wp2
      go_ret
      exact ⟨rfl, B5.out⟩
    | true =>
      obtain ⟨hw, hall, hk1000⟩ := cbc_iff.1 Hbo.out
      have hk00 : 0 ≤ k := by have h1 := hall _ (getD_mem (zs := zs) (k := 0) hw.n1); have h2 := hw.at_ hw.n1; omega
      have hct : ctT k zs zs.length = xs := by have := Hx.out; unfold cutRow at this; rw [if_pos Hbo.out] at this; exact this
      obtain ⟨p, hp0, hp1, hp2, hp3⟩ := parts_all hw hk00 hall hct HL.out N4.out.len
      have Hp0 := Lib.hid hp0
      have Hp1 := Lib.hid hp1
      have Hp2 := Lib.hid hp2
      have Hp3 := Lib.hid hp3
      have HW := Lib.hid hw
      have HPz := Lib.hid (show P20 zs from fun x hx => hw.ok x hx)
      have Hlen := Lib.hid N4.out.len
      have hmc := N4.out.cap
      have hmc1 := hmc.1
      have hmc2 := hmc.2
      obtain ⟨b, off, x0, rfl, -, -, -⟩ := N4.out.rd.x (k := 0) hw.n1
      clear hw hall hct hp0 hp1 hp2 hp3 hmc
      go_wp2
      go_loop [9, 10] (fun f i => ∃ j : Nat, j ≤ L + 1 ∧ i = .int .i64 (j : Int) ∧ ((j ≤ L ∧ f = .int .i64 (p j : Nat)) ∨ (j = L + 1 ∧ ∃ g : Int, f = .int .i64 g))) (fun _ i => L + 1 - (intOf i).toNat)
      case atStart => exact ⟨0, by omega, rfl, .inl ⟨by omega, by rw [Hp0.out]; rfl⟩⟩
      case round =>
        obtain ⟨j, hj, rfl, hcase⟩ := hrel
        by_cases hjL : j < L
        · obtain ⟨-, rfl⟩ | ⟨he, -⟩ := hcase
          · obtain ⟨h1, h2, h3, h4, h5⟩ := Hp1.out j hjL
            obtain ⟨f, Hf⟩ : ∃ f, Hid (p j = f) := ⟨_, rfl⟩
            obtain ⟨t, Ht⟩ : ∃ t, Hid (p (j + 1) = t) := ⟨_, rfl⟩
            rw [Hf.out] at h2 h4 h5 ⊢
            rw [Ht.out] at h1 h2 h3 h4 h5
            obtain ⟨s, Hs⟩ : ∃ s, Hid (sg zs f t = s) := ⟨_, rfl⟩
            rw [Hs.out] at h4 h5
            obtain ⟨b2, off2, x2, he2, -, Hx2, hcx2⟩ := G4.out.rd.x (k := j) (by rw [HL.out]; exact hjL)
            rw [h1] at Hx2
            have hx2 : x2 = (t : Int) := Hx2.out.symm
            subst hx2
            subst he2
            obtain ⟨b3, off3, z, he3, -, Hz, hcz⟩ := N4.out.rd.x (k := t) (by rw [Hlen.out]; exact h3)
            injection he3 with he3
            injection he3 with he31 he32
            subst he31 he32
            have hzb := HW.out.at_ (k := t) (by rw [Hlen.out]; exact h3)
            rw [Hz.out] at hzb h5
            have hlt2 : ((zs.take t).drop f).length = t - f := by rw [List.length_drop, List.length_take, Hlen.out]; omega
            have hsb := ((HPz.out.take t).drop f).bd (by omega)
            have HT := Lib.hid (lTotal_any (some ⟨b, off + f, none⟩) (c1 - f) (t - f) ((zs.take t).drop f) w4 _ (rdI_dropZ (rdI_takeZ N4.out.rd t) f) hlt2 (by omega) ((HPz.out.take t).drop f))
            have hss : sm ((zs.take t).drop f) = s := Hs.out
            rw [hss] at HT hsb
            have hwz : IntKind.i64.wrap (s + z) = s + z := IntWalk.i64_in _ (by omega)
            have hft : f ≤ t := by omega
            have htc : t ≤ c1 := by omega
            have hcf : ¬ c1 = f := by omega
            have hnf : ¬ (t : Int) ≤ (f : Int) := by omega
            have htn : (t : Int) < (m : Int) := by omega
            have hno : ¬ s + z ≤ k := by omega
            have Hj1 : Hid (p (j + 1) = t) := Ht
            clear h1 h2 h3 hlt2 hss hzb hsb
            go_wp2_with fail
            refine HT.out.mono ?_
            rintro e w9 ⟨rfl, rfl⟩
            go_wp2
            go_round
            case rel => exact ⟨j + 1, by omega, by go_num, .inl ⟨by omega, by rw [Hj1.out]⟩⟩
            case measure => simp [intOf]; omega
          · omega
        · by_cases hjE : j = L
          · subst hjE
            obtain ⟨-, rfl⟩ | ⟨he, -⟩ := hcase
            · have h2 := Hp2.out
              have h4 := Hp3.out
              obtain ⟨f, Hf⟩ : ∃ f, Hid (p j = f) := ⟨_, rfl⟩
              rw [Hf.out] at h2 h4 ⊢
              obtain ⟨s, Hs⟩ : ∃ s, Hid (sg zs f m = s) := ⟨_, rfl⟩
              rw [Hs.out] at h4
              have hlt2 : ((zs.take m).drop f).length = m - f := by rw [List.length_drop, List.length_take, Hlen.out]; omega
              have HT := Lib.hid (lTotal_any (some ⟨b, off + f, none⟩) (c1 - f) (m - f) ((zs.take m).drop f) w4 _ (rdI_dropZ (rdI_takeZ N4.out.rd m) f) hlt2 (by omega) ((HPz.out.take m).drop f))
              have hss : sm ((zs.take m).drop f) = s := Hs.out
              rw [hss] at HT
              have hft : f ≤ m := by omega
              have hcf : ¬ c1 = f := by omega
              have hnf : ¬ (m : Int) ≤ (f : Int) := by omega
              clear hlt2 hss
              go_wp2_with fail
              refine HT.out.mono ?_
              rintro e w9 ⟨rfl, rfl⟩
              go_wp2
              go_round
              case rel => exact ⟨j + 1, by omega, by go_num, .inr ⟨rfl, _, rfl⟩⟩
              case measure => first | (simp [intOf]; done) | (simp [intOf]; omega)
            · omega
          · obtain rfl : j = L + 1 := by omega
            obtain ⟨he, -⟩ | ⟨-, g, rfl⟩ := hcase
            · omega
            · go_wp2
              go_ret
              exact ⟨rfl, B4.out⟩
end Go.Proofs.Ytoappopbjnlbdaa
