/-
  ValidRound of the model, walked.
  Conditions: fewer than 2^20 times.
-/
import Derived.Test.YtdkonaaoanggiaaYG
import Derived.Test.YtdkonaaoanggiaaLR
namespace Go.Proofs.Ytdkonaaoanggiaa
open Go.ChangeShapes Go.WideShapes Go.ChangeAt Go.RowKit
set_option linter.unusedVariables false
set_option maxRecDepth 4000

def InY (n : Int) (zs : List Int) (k : Nat) : Prop := ∀ i, i < k → 0 ≤ zs.getD i 0 ∧ zs.getD i 0 < n
theorem inY_step {n : Int} {zs : List Int} {k : Nat} (h : InY n zs k) (h1 : 0 ≤ zs.getD k 0) (h2 : zs.getD k 0 < n) : InY n zs (k + 1) := by
  intro i hi
  by_cases e : i = k
  · subst e; exact ⟨h1, h2⟩
  · exact h i (by omega)
def AdY (zs : List Int) (m k : Nat) : Prop := ∀ i, i < k → gapI (zs.getD i 0) (zs.getD ((i + 1) % m) 0) ≤ 1
theorem adY_step {zs : List Int} {m k : Nat} (h : AdY zs m k) (h1 : gapI (zs.getD k 0) (zs.getD ((k + 1) % m) 0) ≤ 1) : AdY zs m (k + 1) := by
  intro i hi
  by_cases e : i = k
  · subst e; exact h1
  · exact h i (by omega)

set_option maxHeartbeats 1600000 in
theorem sValidRound_in : YBool 48 := by
  intro n A c m zs w h
  have Hn := Lib.hid h.len
  have hmost := h.most
  have HR := Lib.hid h.rd
  clear h
  by_cases hn : 1 ≤ n ∧ n ≤ 8
  · have H1 := Lib.hid (fun W => inRange_yes n 1 8 W hn.1 hn.2)
    have hn1 := hn.1
    have hn8 := hn.2
    clear hn
    by_cases hm : 1 ≤ m ∧ m ≤ 20
    · have H2 := Lib.hid (fun W => inRange_yes (m : Int) 1 20 W (by omega) (by omega))
      have hm1 := hm.1
      have hm2 := hm.2
      clear hm
      have HI0 : Hid (InY n zs 0) := fun i hi => by omega
      go_enter Try.func48, Try.ntmps48
      go_wp2_with fail
      refine (H1.out w).mono ?_
      rintro e w' ⟨rfl, rfl⟩
      go_wp2_with fail
      refine (H2.out w).mono ?_
      rintro e w' ⟨rfl, rfl⟩
      go_wp2
      go_loop [5] (fun i => ∃ k : Nat, k ≤ m ∧ i = .int .i64 k ∧ Hid (InY n zs k)) (fun i => m - (intOf i).toNat)
      case atStart => exact ⟨0, by omega, rfl, HI0⟩
      case round =>
        clear HI0
        obtain ⟨k, hk, rfl, HI⟩ := hrel
        by_cases hlt : k < m
        · obtain ⟨b, off, x, rfl, hbw, Hx, hcx⟩ := HR.out.x (k := k) (by rw [Hn.out]; exact hlt)
          by_cases hx : 0 ≤ x ∧ x ≤ n - 1
          · have HI2 : Hid (InY n zs (k + 1)) := inY_step HI.out (by rw [Hx.out]; omega) (by rw [Hx.out]; omega)
            have H3 := Lib.hid (inRange_yes x 0 (n - 1) w hx.1 hx.2)
            clear hx
            go_wp2_with fail
            refine H3.out.mono ?_
            rintro e w' ⟨rfl, rfl⟩
            go_wp2
            go_round
            case rel => exact ⟨k + 1, by omega, by go_num, HI2⟩
            case measure => simp [intOf]; omega
          · have HE : Hid (vrY n zs = false) := vrY_no fun hR => by have := hR.inn (i := k) (by rw [Hn.out]; exact hlt); rw [Hx.out] at this; omega
            have H3 := Lib.hid (inRange_no x 0 (n - 1) w (by omega))
            clear hx
            go_wp2_with fail
            refine H3.out.mono ?_
            rintro e w' ⟨rfl, rfl⟩
            go_wp2
            go_ret
            exact ⟨ret_bool HE.out.symm, Below.refl _ _⟩
        · obtain rfl : k = m := by omega
          have HA0 : Hid (AdY zs k 0) := fun i hi => by omega
          go_wp2
          go_loopw [6] (fun i wr => ∃ j q : Nat, j ≤ k ∧ i = .int .i64 j ∧ Hid (AdY zs k j) ∧ wr = w.drewN q) (fun i _ => k - (intOf i).toNat)
          case atStart => exact ⟨0, 0, by omega, rfl, HA0, rfl⟩
          case round =>
            clear HA0
            obtain ⟨j, q, hj, rfl, HA, rfl⟩ := hrel
            by_cases hjl : j < k
            · obtain ⟨i2, Hi2⟩ : ∃ i2, Hid ((j + 1) % k = i2) := ⟨_, rfl⟩
              have hi2 : i2 < k := by rw [← Hi2.out]; exact Nat.mod_lt _ (by omega)
              have t1 : ((j : Int) + 1).tmod (k : Int) = (i2 : Int) := by rw [← Hi2.out, show (j : Int) + 1 = ((j + 1 : Nat) : Int) by omega]; exact (Int.ofNat_tmod _ k).symm
              obtain ⟨b, off, x, rfl, hbw, Hx, hcx⟩ := HR.out.x (k := j) (by rw [Hn.out]; exact hjl)
              obtain ⟨b', off', y, he, -, Hy, hcy⟩ := HR.out.x (k := i2) (by rw [Hn.out]; exact hi2)
              injection he with he
              injection he with he1 he2
              subst he1 he2
              have hxi := HI.out j hjl
              have hyi := HI.out i2 hi2
              rw [Hx.out] at hxi
              rw [Hy.out] at hyi
              obtain ⟨d, Hd⟩ : ∃ d, Hid (gapI x y = d) := ⟨_, rfl⟩
              have HG : Hid (∀ W, Calls Try.prog 57 #[.int .i64 x, .int .i64 y] W fun e w' => e = .returned (.int .i64 d) ∧ W = w') := fun W => by
                have := gap_any x y W (by omega) (by omega) (by omega) (by omega)
                rw [Hd.out] at this
                exact this
              have Hgg : Hid (gapI (zs.getD j 0) (zs.getD ((j + 1) % k) 0) = d) := by show _ = _; rw [Hi2.out, Hx.out, Hy.out, Hd.out]
              by_cases hd : 1 < d
              · have HE : Hid (vrY n zs = false) := vrY_no fun hR => by have h := hR.adj (i := j) (by rw [Hn.out]; exact hjl); rw [Hn.out, Hgg.out] at h; omega
                go_wp2
                go_quiet (exact Calls.mono (HG.out _) (fun _ _ h => ⟨h.1, _, h.2.symm⟩))
                go_wp2
                go_ret
                exact ⟨ret_bool HE.out.symm, below_drewN (below_drewN (Below.refl _ _) _) _⟩
              · have HA2 : Hid (AdY zs k (j + 1)) := adY_step HA.out (by rw [Hgg.out]; omega)
                go_wp2
                go_quiet (exact Calls.mono (HG.out _) (fun _ _ h => ⟨h.1, _, h.2.symm⟩))
                go_wp2
                go_roundw
                case rel => exact ⟨j + 1, _, by omega, by go_num, HA2, rfl⟩
                case measure => simp [intOf]; omega
            · obtain rfl : j = k := by omega
              have HE : Hid (vrY n zs = true) := vrY_yes ⟨hn1, hn8, by rw [Hn.out]; omega, by rw [Hn.out]; omega, by rw [Hn.out]; exact HI.out, by rw [Hn.out]; exact HA.out⟩
              go_wp2
              go_ret
              exact ⟨ret_bool HE.out.symm, below_drewN (Below.refl _ _) _⟩
    · have H2 := Lib.hid (fun W => inRange_no (m : Int) 1 20 W (by omega))
      have HE : Hid (vrY n zs = false) := vrY_no fun hR => by have := hR.l1; have := hR.l20; have := Hn.out; omega
      clear hm
      go_enter Try.func48, Try.ntmps48
      go_wp2_with fail
      refine (H1.out w).mono ?_
      rintro e w' ⟨rfl, rfl⟩
      go_wp2_with fail
      refine (H2.out w).mono ?_
      rintro e w' ⟨rfl, rfl⟩
      go_wp2
      go_ret
      exact ⟨ret_bool HE.out.symm, Below.refl _ _⟩
  · have H1 := Lib.hid (fun W => inRange_no n 1 8 W (by omega))
    have HE : Hid (vrY n zs = false) := vrY_no fun hR => hn ⟨hR.n1, hR.n8⟩
    clear hn
    go_enter Try.func48, Try.ntmps48
    go_wp2_with fail
    refine (H1.out w).mono ?_
    rintro e w' ⟨rfl, rfl⟩
    go_wp2
    go_ret
    exact ⟨ret_bool HE.out.symm, Below.refl _ _⟩
theorem sValidRound_ok : YBool 19 := by
  intro n A c m zs w h
  have H := Lib.hid (sValidRound_in n A c m zs w h)
  clear h
  go_enter Try.func19, Try.ntmps19
  go_wp2_with fail
  refine H.out.mono ?_
  rintro e w1 ⟨rfl, hb⟩
  go_wp2
  go_ret
  exact ⟨rfl, hb⟩
end Go.Proofs.Ytdkonaaoanggiaa
