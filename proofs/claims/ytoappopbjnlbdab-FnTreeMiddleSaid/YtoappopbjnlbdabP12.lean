/-
  The law FnTreeMiddle: the middle is nearest.
  Conditions: none.
-/
import Derived.Test.YtoappopbjnlbdabD4
import Derived.Test.YtoappopbjnlbdabF8
import Derived.Test.YtoappopbjnlbdabR4
namespace Go.Proofs.Ytoappopbjnlbdab
open Go.ChangeShapes Go.WideShapes Go.ChangeAt Go.RowKit
set_option linter.unusedVariables false
set_option maxRecDepth 4000

theorem midv_is {t : List (Int × Int)} {fs : List Int} (h : 0 ≤ midv t fs) : vt t = true ∧ fk t.length fs = true ∧ ∃ k, k < t.length ∧ midv t fs = k ∧ midOk t fs t.length k = true := by
  unfold midv at h ⊢
  split at h
  · rename_i hv
    rw [if_pos hv]
    refine ⟨hv.1, hv.2, ?_⟩
    rcases fstI_is (q := midOk t fs t.length) t.length 0 with h' | ⟨k, h1, h2, h3, h4⟩
    · omega
    · exact ⟨k, by omega, h4, h3⟩
  · omega
theorem mid_least {t : List (Int × Int)} {fs : List Int} {m : Nat} (hv : vt t = true) (hf : fk t.length fs = true) (hm : m < t.length) (hq : midOk t fs t.length m = true) : ∀ v, v < t.length → tsm t fs t.length m t.length ≤ tsm t fs t.length v t.length := by
  have ht := vt_ahead hv
  have hn0 := fk_nonneg hf
  have h0 := (tot_bd (fk_iff hf).2 t.length (Nat.le_refl _)).1
  rw [← mfin_mid ht rfl hm hn0 h0, mfin_true] at hq
  obtain ⟨h1, h2⟩ := hq
  exact middle_nearest ht hn0 rfl hm (fun _ => h1) (fun c hc1 hc2 hc3 => by have := h2 c hc1 hc2 hc3; omega)
theorem tsv_at {t : List (Int × Int)} {fs : List Int} {k : Nat} (hv : vt t = true) (hf : fk t.length fs = true) (hk : k < t.length) : tsv t fs (k : Int) = tsm t fs t.length k t.length := by
  unfold tsv; rw [if_pos ⟨hv, hf, by omega, by omega⟩]; rfl

set_option maxHeartbeats 1600000 in
theorem lawTreeMiddle_walk (A : Option Addr) (c : Nat) (bs : List Int) (w : World) (hr : RdB w w.heap.size A bs) (hcap : bs.length ≤ c) (hm : c ≤ maxLen) :
    Calls Try.prog 5 #[.slice A bs.length c] w fun e w' => e = .returned (.bool true) ∧ Below w.heap.size w w' := by
  unfold maxLen at hm
  by_cases hb : 1048576 < bs.length
  · go_enter Try.func5, Try.ntmps5
    go_wp2
    go_ret
    exact ⟨rfl, Below.refl _ _⟩
  · have H := Lib.hid (drawTreeMiddle_any A c bs.length bs w hr rfl hcap hm)
    go_enter Try.func5, Try.ntmps5
    go_wp2_with fail
    refine H.out.mono ?_
    rintro e w1 ⟨A', c', Af, cf, ts, fs, rfl, hl, hlf, hcc, hrd, hrf, hnx1⟩
    go_wp2_with fail
    refine (iTreeMiddle_any A' Af c' ts.length cf fs.length ts fs w1 hrd rfl hcc (by omega) hrf rfl (by omega)).mono ?_
    rintro e w2 ⟨rfl, hnx2⟩
    have h12 := hnx1.trans (hnx2.mono hnx1.size)
    have hrd2 := (hrd.below hnx2).more hnx2.size
    have hrf2 := (hrf.below hnx2).more hnx2.size
    go_wp2_with fail
    refine (sTreeMiddle_any A' Af c' ts.length cf fs.length ts fs w2 hrd2 rfl (by omega) hrf2 rfl (by omega)).mono ?_
    rintro e w3 ⟨rfl, hnx3⟩
    have h13 := h12.trans (hnx3.mono h12.size)
    have hrd3 := (hrd2.below hnx3).more hnx3.size
    have hrf3 := (hrf2.below hnx3).more hnx3.size
    have hbn : ∀ x : Int, (x != x) = false := fun x => by simp
    have hbe : ∀ x : Int, (x == x) = true := fun x => by simp
    obtain ⟨T, HT⟩ : ∃ T, Hid (midv ts fs = T) := ⟨_, rfl⟩
    rw [HT.out]
    by_cases hT : T < 0
    · go_wp2_with fail
      refine (sTreeMiddle_any A' Af c' ts.length cf fs.length ts fs w3 hrd3 rfl (by omega) hrf3 rfl (by omega)).mono ?_
      rintro e w4 ⟨rfl, hnx4⟩
      have h14 := h13.trans (hnx4.mono h13.size)
      rw [HT.out]
      go_wp2
      go_ret
      exact ⟨ret_bool (by simp), h14⟩
    · obtain ⟨hv, hf, k, hk, hTk, hq⟩ := midv_is (t := ts) (fs := fs) (by rw [HT.out]; omega)
      rw [HT.out] at hTk
      subst hTk
      have HL := Lib.hid (mid_least hv hf hk hq)
      have HTB := Lib.hid (fun j (hj : j < ts.length) => tsm_bd (fs := fs) (vt_ahead hv) (n := ts.length) (a := j) (Nat.le_refl _) hl hj (fk_iff hf).2 ts.length (Nat.le_refl _))
      have HTV := Lib.hid (fun j (hj : j < ts.length) => tsv_at (fs := fs) hv hf hj)
      have hwf : ∀ j : Nat, j < ts.length → (Lit.int .i64 (j : Int)).wf = true := fun j hj => by simp [Lit.wf, IntKind.min, IntKind.max, IntKind.signed, IntKind.bits]; omega
      have Hwf := Lib.hid hwf
      have Hk := Lib.hid hk
      clear hv hf hq hwf hk
      go_wp2_with fail
      refine (iTreeSum_any A' Af c' ts.length cf fs.length ts fs (k : Int) w3 hrd3 rfl hcc (by omega) hrf3 rfl (by omega) (Hwf.out k Hk.out)).mono ?_
      rintro e w4 ⟨rfl, hnx4⟩
      have H14 := Lib.hid (h13.trans (hnx4.mono h13.size))
      have HR4 := Lib.hid ((hrd3.below hnx4).more hnx4.size)
      have HF4 := Lib.hid ((hrf3.below hnx4).more hnx4.size)
      rw [HTV.out k Hk.out]
      obtain ⟨n, Hn⟩ : ∃ n, Hid (ts.length = n) := ⟨_, rfl⟩
      rw [Hn.out] at HL HTB HTV Hwf Hk hcc ⊢
      have hn7 : n ≤ 7 := by rw [← Hn.out]; exact hl
      obtain ⟨U, HU⟩ : ∃ U, Hid (tsm ts fs n k n = U) := ⟨_, rfl⟩
      have hu := HTB.out k Hk.out
      rw [HU.out] at HL hu ⊢
      clear hnx1 hnx2 hnx3 hnx4 h12 h13 hrd hrd2 hrd3 hrf hrf2 hrf3 hl
      go_wp2
      go_loopw [7] (fun i wr => ∃ m : Nat, m ≤ n ∧ i = .int .i64 m ∧ Below w.heap.size w wr ∧ Below w4.heap.size w4 wr) (fun i _ => n - (intOf i).toNat)
      case atStart => exact ⟨0, Nat.zero_le _, rfl, H14.out, Below.refl _ _⟩
      case round =>
        obtain ⟨m, hmn, rfl, hnw, hn4⟩ := hrel
        by_cases hlt : m < n
        · have Hc := Lib.hid (iTreeSum_any A' Af c' n cf fs.length ts fs (m : Int) wr ((HR4.out.below hn4).more hn4.size) Hn.out hcc (by omega) ((HF4.out.below hn4).more hn4.size) rfl (by omega) (Hwf.out m hlt))
          have hlv := HL.out m hlt
          have hmb := HTB.out m hlt
          have Hv := Lib.hid (HTV.out m hlt)
          have Hnw := Lib.hid hnw
          have Hn4 := Lib.hid hn4
          clear hnw hn4
          go_wp2_with fail
          refine Hc.out.mono ?_
          rintro e w5 ⟨rfl, hnx5⟩
          have hw5 := Lib.hid (Hnw.out.trans (hnx5.mono Hnw.out.size))
          have h45 := Lib.hid (Hn4.out.trans (hnx5.mono Hn4.out.size))
          rw [Hv.out]
          have hnl : ¬ tsm ts fs n m n < U := by omega
          clear hnx5
          go_wp2
          go_roundw
          case rel => exact ⟨m + 1, by omega, by go_num, hw5.out, h45.out⟩
          case measure => simp [intOf]; omega
        · go_wp2
          go_ret
          exact ⟨ret_bool (by simp), hnw⟩
end Go.Proofs.Ytoappopbjnlbdab
