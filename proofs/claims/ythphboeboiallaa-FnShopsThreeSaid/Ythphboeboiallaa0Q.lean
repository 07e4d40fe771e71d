/-
  shareBeside and BestPlace of the program, walked.
  Conditions: fewer than 2^20 numbers.
-/
import Derived.Test.Ythphboeboiallaa0P
import Derived.Test.Ythphboeboiallaa0S
namespace Go.Proofs.Ythphboeboiallaa
open Go.ChangeShapes Go.WideShapes Go.ChangeAt Go.RowKit
set_option linter.unusedVariables false
set_option maxRecDepth 4000

theorem shL_getD {n : Nat} {ss : List Nat} {i : Nat} (hi : i < ss.length) : (shL n ss).getD i 0 = shK ss (ss.getD i 0) n := by
  simp [shL, List.getD, hi]
theorem shL_length (n : Nat) (ss : List Nat) : (shL n ss).length = ss.length := by simp [shL]
theorem kS_lt_ins (ss : List Nat) (p : Nat) : kS ss p < (insS ss p).length := by rw [insS_length]; have := kS_le ss p; omega
theorem ad_at (n : Nat) (ss : List Nat) (p : Nat) : (shL n (insS ss p)).getD (kS ss p) 0 = adS n ss p := by
  rw [shL_getD (kS_lt_ins ss p), insS_at]; rfl
set_option maxHeartbeats 800000 in
theorem shareBeside_any (n p c m : Nat) (ss : List Nat) (A : Option Addr) (w : World) (h : PIn w A c m (cI ss)) (hS : Sh n ss) (h4 : ss.length ≠ 4) (hp : p < n) :
    Calls Try.prog 55 #[.int .i64 (n : Int), .slice A m c, .int .i64 (p : Int)] w fun e w' => e = .returned (.int .i64 ((adS n ss p : Nat) : Int)) ∧ Below w.heap.size w w' := by
  have hm : ss.length = m := by rw [← cI_length]; exact h.len
  have hl4 := hS.l4
  have hl1 := hS.l1
  have hn9 := hS.n9
  have HB := Lib.hid (bsearch_any A c m p ss w _ h.rd hm (by omega) hS.asc (by omega))
  obtain ⟨b, off, -, hA, hbl, -⟩ := h.rd.q (k := 0) (by omega)
  have HC : Hid (Calls Try.prog 72 #[.slice A m c] w (RowQ (cI ss) w)) := by
    have h2 := h.rd
    rw [hA] at h2 ⊢
    refine cloneQ_any b off c m (cI ss) w h.len (by omega) hbl fun i hi => ?_
    obtain ⟨b', o', e', -, hc⟩ := h2.at_ (k := i) (by rw [h.len]; exact hi)
    injection e' with e'
    injection e' with e1 e2
    subst e1 e2
    exact hc
  obtain ⟨hI, -⟩ := hS.ins h4 hp
  have HSh : Hid (∀ (A : Option Addr) (c : Nat) (W : World), PIn W A c (m + 1) (cI (insS ss p)) → Calls Try.prog 20 #[.int .i64 (n : Int), .slice A (m + 1 : Nat) c] W (RowQ (cI (shL n (insS ss p))) W)) := fun A c W hW => by
    have := iSharesOf_ok (n : Int) A c (m + 1) (cI (insS ss p)) W hW
    rw [shQ_yes hI] at this
    exact this
  have HL : Hid ((cI (insS ss p)).length = m + 1) := by show _ = _; rw [cI_length, insS_length, hm]
  have HL2 : Hid ((cI (shL n (insS ss p))).length = m + 1) := by show _ = _; rw [cI_length, shL_length, insS_length, hm]
  have HIn : Hid (∀ (g c vb vc : Nat) (W : World), W.ownsRow w.heap.size 3 1 (.slice (some ⟨g, 0, none⟩) m c) m ((cI ss).map (Value.int .i64)) → W.heap[vb]? = some (.cells #[.int .i64 (p : Int)] 3 (0, 0)) → w.heap.size ≤ vb → vb ≠ g →
      Calls Try.prog 71 #[.slice (some ⟨g, 0, none⟩) m c, .int .i64 ((kS ss p : Nat) : Int), .slice (some ⟨vb, 0, none⟩) 1 vc] W (InsPost w.heap.size (cI (insS ss p)) W)) :=
    fun g c vb vc W h1 h2 h3 h5 => insertQ_any g c m p vb vc ss W w.heap.size hm (by omega) (by omega) h1 h2 h3 h5
  have HA : Hid ((cI (shL n (insS ss p))).getD (kS ss p) 0 = ((adS n ss p : Nat) : Int)) := by show _ = _; rw [cI_getD, ad_at]
  have hk := kS_le ss p
  rw [hm] at hk
  have Hlc : Hid ((cI ss).length = m) := h.len
  have hm1 : 1 ≤ m := by omega
  have hm4 : m ≤ 4 := by omega
  obtain ⟨K, HK⟩ : ∃ K, Hid (kS ss p = K) := ⟨_, rfl⟩
  rw [HK.out] at HB HIn HA hk
  clear h hS h4 hl4 hl1 hA hbl hI hm
  go_enter Try.func55, Try.ntmps55
  go_wp2_with fail
  refine HB.out.mono ?_
  rintro e w1 ⟨bb, rfl, rfl⟩
  go_wp2_with fail
  refine HC.out.mono ?_
  rintro e w2 ⟨A2, c2, rfl, ho2, hb2⟩
  rw [Hlc.out] at ho2 ⊢
  obtain ⟨g, hg⟩ : ∃ g, A2 = some ⟨g, 0, none⟩ := by
    obtain ⟨A6, c6, e6, -, -, h6⟩ := own_sliceN ho2.out
    injection e6 with e6 _ _
    subst e6
    obtain ⟨nb, e7, -⟩ := h6 hm1
    exact ⟨nb, e7⟩
  subst hg
  have hg2 := ho2.out.lt g rfl
  have HIn2 := Lib.hid (HIn.out g c2 w2.heap.size 1 (w2.alloc (.cells #[.int .i64 (p : Int)] 3)) (ho2.out.alloc _) (heap_alloc_new _ _) hb2.out.size (by omega))
  have HB2 : Hid (Below w.heap.size w (w2.alloc (.cells #[.int .i64 (p : Int)] 3))) := hb2.out.alloc hb2.out.size _
  clear ho2 hb2 hg2
  go_wp2_with fail
  refine HIn2.out.mono ?_
  rintro e w3 ⟨g3, c3, rfl, hc3, hc33, hr3, hb3⟩
  rw [HL.out] at hc3 ⊢
  have HB3 := Lib.hid (HB2.out.trans hb3.out)
  have HP3 : Hid (PIn w3 (some ⟨g3, 0, none⟩) c3 (m + 1) (cI (insS ss p))) := ⟨hr3.out, HL.out, ⟨hc3, hc33⟩, by omega⟩
  clear hr3 hb3
  go_wp2_with fail
  refine (HSh.out _ _ _ HP3.out).mono ?_
  rintro e w4 ⟨A4, c4, rfl, ho4, hb4⟩
  rw [HL2.out] at ho4 ⊢
  obtain ⟨A5, c5, he, -, -, hrd⟩ := own_slice ho4.out HL2.out
  injection he with he1 _ he3
  subst he1 he3
  obtain ⟨b4, o4, x, rfl, -, Hx, hcx⟩ := hrd.x (k := K) (by rw [HL2.out]; omega)
  have hxe : x = ((adS n ss p : Nat) : Int) := Hx.out.symm.trans HA.out
  have HB4 : Hid (Below w.heap.size w w4) := HB3.out.trans (hb4.out.mono HB3.out.size)
  have Hxe := Lib.hid hxe
  clear ho4 hb4 hrd hxe
  go_wp2
  go_ret
  exact ⟨ret_int Hxe.out, HB4.out⟩
def BpRel (f : Nat → Nat) (n : Nat) (w : World) (a b i : Value) (wr : World) : Prop :=
  ∃ (k t : Nat) (z : Int), k ≤ n ∧ a = .int .i64 z ∧ b = .int .i64 (t : Int) ∧ i = .int .i64 k ∧ Hid ((k = 0 ∧ z = -1 ∧ t = 0) ∨ (0 < k ∧ z = ((bpK f k : Nat) : Int) ∧ t = f (bpK f k))) ∧ Hid (Below w.heap.size w wr)
set_option maxHeartbeats 800000 in
theorem iBestPlace_ok : QNum 26 bpQ := by
  intro n A c m zs w hp
  have HV := Lib.hid (iValidShops_any n A c m zs w hp)
  by_cases hv : vsh n zs = true
  · obtain ⟨n, ss, rfl, rfl, hS⟩ := vsh_get hv
    rw [hv] at HV
    have hm : ss.length = m := by rw [← cI_length]; exact hp.len
    have hl4 := hS.l4
    by_cases h4 : m = 4
    · have ht : ((m : Int) == 4) = true := by rw [beq_iff_eq]; omega
      rw [bpQ_no (.inr (by rw [cI_length]; omega))]
      clear hv hS hp hm hl4 h4
      go_enter Try.func26, Try.ntmps26
      go_wp2_with fail
      refine HV.out.mono ?_
      rintro e w1 ⟨rfl, rfl⟩
      go_wp2
      go_ret
      exact ⟨rfl, Below.refl _ _⟩
    · have ht : ((m : Int) == 4) = false := by rw [beq_eq_false_iff_ne]; omega
      rw [bpQ_yes hS (by omega)]
      have HSb : Hid (∀ (p : Nat) (W : World), p < n → Below w.heap.size w W → Calls Try.prog 55 #[.int .i64 (n : Int), .slice A m c, .int .i64 (p : Int)] W fun e w' => e = .returned (.int .i64 ((adS n ss p : Nat) : Int)) ∧ Below W.heap.size W w') :=
        fun p W h1 h2 => shareBeside_any n p c m ss A W (hp.later h2) hS (by omega) h1
      have HPos : Hid (∀ p, p < n → 0 < adS n ss p) := fun p h1 => (hS.ins (by omega) h1).2
      have hn1 := hS.n1
      have hn9 := hS.n9
      show Calls _ _ _ _ fun e w' => e = .returned (.int .i64 ((bpK (adS n ss) n : Nat) : Int)) ∧ _
      have Hle : Hid (∀ p, adS n ss p ≤ 108) := fun p => by have := adS_le n ss p; omega
      generalize adS n ss = f at HSb HPos Hle ⊢
      clear hv hS hp hm hl4 h4
      go_enter Try.func26, Try.ntmps26
      go_wp2_with fail
      refine HV.out.mono ?_
      rintro e w1 ⟨rfl, rfl⟩
      go_wp2
      go_loopw [5, 6, 19] (fun a b i wr => BpRel f n w a b i wr) (fun _ _ i _ => n - (intOf i).toNat)
      case atStart => exact ⟨0, 0, -1, Nat.zero_le _, rfl, rfl, rfl, .inl ⟨rfl, rfl, rfl⟩, Below.refl _ _⟩
      case round =>
        obtain ⟨k, t, z, hk, rfl, rfl, rfl, HI, HB⟩ := hrel
        by_cases hlt : k < n
        · obtain ⟨s, Hs⟩ : ∃ s, Hid (f k = s) := ⟨_, rfl⟩
          have Hc := Lib.hid (HSb.out k wr hlt HB.out)
          rw [Hs.out] at Hc
          have hs0 := HPos.out k hlt
          have hs1 := Hle.out k
          rw [Hs.out] at hs0 hs1
          by_cases hst : t < s
          · have HI2 : Hid ((k + 1 = 0 ∧ ((k : Nat) : Int) = -1 ∧ s = 0) ∨ (0 < k + 1 ∧ ((k : Nat) : Int) = ((bpK f (k + 1) : Nat) : Int) ∧ s = f (bpK f (k + 1)))) := by
              right
              refine ⟨by omega, ?_⟩
              rw [bpK]
              rcases HI.out with ⟨h0, -, -⟩ | ⟨h1, -, h3⟩
              · subst h0
                have : ¬ f (bpK f 0) < f 0 := by simp [bpK]
                rw [if_neg this]
                exact ⟨rfl, Hs.out.symm⟩
              · rw [if_pos (by rw [Hs.out, ← h3]; exact hst)]
                exact ⟨rfl, Hs.out.symm⟩
            clear HI
            go_wp2_with fail
            refine Hc.out.mono ?_
            rintro e w2 ⟨rfl, hb2⟩
            have HB2 := Lib.hid (HB.out.trans (hb2.mono HB.out.size))
            clear hb2 HB Hc
            go_wp2
            go_roundw
            case rel => exact ⟨k + 1, s, _, by omega, rfl, rfl, by go_num, HI2, HB2⟩
            case measure => simp [intOf]; omega
          · have HI2 : Hid ((k + 1 = 0 ∧ z = -1 ∧ t = 0) ∨ (0 < k + 1 ∧ z = ((bpK f (k + 1) : Nat) : Int) ∧ t = f (bpK f (k + 1)))) := by
              right
              refine ⟨by omega, ?_⟩
              rw [bpK]
              rcases HI.out with ⟨h0, h1, h2⟩ | ⟨h1, h2, h3⟩
              · omega
              · rw [if_neg (by rw [Hs.out, ← h3]; exact hst)]
                exact ⟨h2, h3⟩
            clear HI
            go_wp2_with fail
            refine Hc.out.mono ?_
            rintro e w2 ⟨rfl, hb2⟩
            have HB2 := Lib.hid (HB.out.trans (hb2.mono HB.out.size))
            clear hb2 HB Hc
            go_wp2
            go_roundw
            case rel => exact ⟨k + 1, t, z, by omega, rfl, rfl, by go_num, HI2, HB2⟩
            case measure => simp [intOf]; omega
        · obtain rfl : k = n := by omega
          have Hz : Hid (z = ((bpK f k : Nat) : Int)) := by
            rcases HI.out with ⟨h0, -, -⟩ | ⟨-, h2, -⟩
            · omega
            · exact h2
          clear HI
          go_wp2
          go_ret
          exact ⟨ret_int Hz.out, HB.out⟩
  · have hv' : vsh n zs = false := by simpa using hv
    rw [hv'] at HV
    rw [bpQ_no (.inl hv')]
    clear hv hv' hp
    go_enter Try.func26, Try.ntmps26
    go_wp2_with fail
    refine HV.out.mono ?_
    rintro e w1 ⟨rfl, rfl⟩
    go_wp2
    go_ret
    exact ⟨rfl, Below.refl _ _⟩
end Go.Proofs.Ythphboeboiallaa
