/-
  The model's sets: powers, bits; the most nodes no two of which are near one node, over all sets.
  Conditions: at most seven nodes.
-/
import Derived.Test.YtiblcmeoneolcaaT8
import Derived.Test.YtiblcmeoneolcaaB6
namespace Go.Proofs.Ytiblcmeoneolcaa
open Go.ChangeShapes Go.WideShapes Go.ChangeAt Go.RowKit
set_option linter.unusedVariables false
set_option maxRecDepth 4000

theorem power_any (n : Nat) (w : World) (hn : n ≤ 7) : Calls Try.prog 64 #[.int .i64 n] w fun e w' => e = .returned (.int .i64 ((2 ^ n : Nat) : Int)) ∧ w = w' := by
  go_enter Try.func64, Try.ntmps64
  go_wp2
  go_loop [0, 3] (fun a o => ∃ k m : Nat, k + m = n ∧ a = .int .i64 m ∧ o = .int .i64 ((2 ^ k : Nat) : Int)) (fun a _ => (intOf a).toNat)
  case atStart => exact ⟨0, n, by omega, rfl, rfl⟩
  case round =>
    obtain ⟨k, m, hkm, rfl, rfl⟩ := hrel
    by_cases hm : 0 < m
    · have hp : 2 ^ k ≤ 2 ^ 7 := Nat.pow_le_pow_right (by omega) (by omega)
      have hs : Hid (2 ^ (k + 1) = 2 * 2 ^ k) := by show _ = _; rw [Nat.pow_succ]; omega
      obtain ⟨P, HP⟩ : ∃ P : Nat, Hid (2 ^ k = P) := ⟨2 ^ k, rfl⟩
      rw [HP.out] at hp hs ⊢
      go_wp2
      go_round
      case rel => exact ⟨k + 1, m - 1, by omega, by go_num, by rw [hs.out]; go_num⟩
      case measure => simp [intOf]; omega
    · have hkn : k = n := by omega
      subst hkn
      go_wp2
      go_ret
      exact ⟨rfl, rfl⟩
theorem bit_num : ∀ s : Fin 128, ∀ i : Fin 7, ((s.val : Int).tdiv ((2 ^ i.val : Nat) : Int)).tmod 2 = if s.val.testBit i.val = true then 1 else 0 := by decide +kernel
theorem bit_is (s i : Nat) (w : World) (hs : s < 128) (hi : i < 7) {z : Int} (hz : (if s.testBit i = true then (1 : Int) else 0) = z) : Calls Try.prog 65 #[.int .i64 s, .int .i64 i] w fun e w' => e = .returned (.int .i64 z) ∧ w = w' := by
  have hb := bit_num ⟨s, hs⟩ ⟨i, hi⟩
  simp only at hb
  rw [hz] at hb
  have hp : 0 < 2 ^ i := Nat.two_pow_pos i
  have Hp := Lib.hid (power_any i w (by omega))
  obtain ⟨P, HP⟩ : ∃ P : Nat, Hid (2 ^ i = P) := ⟨2 ^ i, rfl⟩
  have hd : s / P ≤ s := Nat.div_le_self _ _
  rw [HP.out] at hp hb Hp
  have hdv : (s : Int).tdiv (P : Int) = ((s / P : Nat) : Int) := (Int.ofNat_tdiv s P).symm
  have hdv2 : (s : Int) / (P : Int) = ((s / P : Nat) : Int) := (Int.natCast_ediv s P).symm
  rw [hdv] at hb
  obtain ⟨D, HD⟩ : ∃ D : Nat, Hid (s / P = D) := ⟨s / P, rfl⟩
  rw [HD.out] at hb hdv hdv2 hd
  have Hb := Lib.hid hb
  clear hb hz
  have hne : ¬ (P : Int) = 0 := by omega
  go_enter Try.func65, Try.ntmps65
  go_wp2_with fail
  refine Hp.out.mono ?_
  rintro e w' ⟨rfl, rfl⟩
  go_wp2
  go_ret
  exact ⟨ret_int Hb.out, rfl⟩
theorem bit_any (s i : Nat) (w : World) (hs : s < 128) (hi : i < 7) : Calls Try.prog 65 #[.int .i64 s, .int .i64 i] w fun e w' => e = .returned (.int .i64 (if s.testBit i = true then 1 else 0)) ∧ w = w' := bit_is s i w hs hi rfl
theorem bits_num : ∀ s : Fin 128, bc 7 s.val = s.val % 2 + bc 7 (s.val / 2) := by decide +kernel
theorem bits_any (s : Nat) (w : World) (hs : s < 128) : Calls Try.prog 66 #[.int .i64 s] w fun e w' => e = .returned (.int .i64 ((bc 7 s : Nat) : Int)) ∧ w = w' := by
  go_enter Try.func66, Try.ntmps66
  go_wp2
  go_loop [0, 3] (fun a o => ∃ r k : Nat, Hid (k + bc 7 r = bc 7 s) ∧ r ≤ s ∧ k ≤ 1000 - r ∧ a = .int .i64 r ∧ o = .int .i64 k) (fun a _ => (intOf a).toNat)
  case atStart => exact ⟨s, 0, Nat.zero_add _, Nat.le_refl _, Nat.zero_le _, rfl, rfl⟩
  case round =>
    obtain ⟨r, k, Hr, hrs, hk, rfl, rfl⟩ := hrel
    by_cases hr0 : 0 < r
    · have hn := bits_num ⟨r, by omega⟩
      simp only at hn
      have H2 : Hid (k + r % 2 + bc 7 (r / 2) = bc 7 s) := by show _ = _; rw [← Hr.out, hn]; omega
      clear hn
      have hm2 : r % 2 ≤ 1 := by omega
      have hd2 : r / 2 < r := by omega
      have e1 : (r : Int).tmod 2 = ((r % 2 : Nat) : Int) := (Int.ofNat_tmod r 2).symm
      have e2 : (r : Int).tdiv 2 = ((r / 2 : Nat) : Int) := (Int.ofNat_tdiv r 2).symm
      obtain ⟨a, Ha⟩ : ∃ a, Hid (r % 2 = a) := ⟨_, rfl⟩
      obtain ⟨b, Hb⟩ : ∃ b, Hid (r / 2 = b) := ⟨_, rfl⟩
      rw [Ha.out] at H2 hm2 e1
      rw [Hb.out] at H2 hd2 e2
      go_wp2
      go_round
      case rel => exact ⟨b, k + a, H2, by omega, by omega, by first | rfl | (congr 1; omega), by first | go_num | (congr 1; omega)⟩
      case measure => simp [intOf]; omega
    · have h0 : r = 0 := by omega
      subst h0
      have H2 : Hid (k = bc 7 s) := Hr.out
      go_wp2
      go_ret
      exact ⟨ret_int (by rw [← H2.out]), rfl⟩
theorem fnB_false {d : Nat → Nat → Int} {far : Int} {s n v : Nat} (h : fnB d far s n v = false) : ∀ m, v ≤ m → fnB d far s n m = false := by
  intro m hm
  induction m with
  | zero => have : v = 0 := by omega
            subst this; exact h
  | succ m ih =>
    by_cases e : v = m + 1
    · subst e; exact h
    · simp only [fnB, ih (by omega)]; rfl
theorem nrB_bd (d : Nat → Nat → Int) (far : Int) (s v : Nat) : ∀ m, nrB d far s v m ≤ m
  | 0 => Nat.le_refl _
  | m + 1 => by have := nrB_bd d far s v m; simp only [nrB]; split <;> omega
theorem bc_bd : ∀ f s, bc f s ≤ f
  | 0, _ => Nat.le_refl _
  | f + 1, s => by have := bc_bd f (s / 2); simp only [bc]; omega
theorem pkB_bd (d : Nat → Nat → Int) (far : Int) (n : Nat) : ∀ S, pkB d far n S ≤ 7
  | 0 => Nat.zero_le _
  | S + 1 => by
    have := pkB_bd d far n S
    have := bc_bd 7 S
    simp only [pkB]; split <;> omega

set_option maxHeartbeats 2000000 in
theorem packX_any (w : World) (B n g0 c : Nat) (far : Int) (VR : Nat → Value) (X : Nat → Nat → Int) (hn1 : 1 ≤ n) (hn7 : n ≤ 7) (hO : Outer w B n (.slice (some ⟨g0, 0, none⟩) n c) VR) (hT : TT w B n VR (rowX X n)) :
    Calls Try.prog 71 #[.slice (some ⟨g0, 0, none⟩) n c, .int .i64 far] w fun e w' => e = .returned (.int .i64 ((pkB X far n (2 ^ n) : Nat) : Int)) ∧ w = w' := by
  have HO := Lib.hid hO
  have HT := Lib.hid hT
  have HPW := Lib.hid (power_any n w hn7)
  have hP7 : 2 ^ n ≤ 128 := (Nat.pow_le_pow_right (by omega) hn7 : 2 ^ n ≤ 2 ^ 7)
  obtain ⟨P, HP⟩ : ∃ P : Nat, Hid (2 ^ n = P) := ⟨2 ^ n, rfl⟩
  rw [HP.out] at HPW hP7 ⊢
  clear hO hT
  go_enter Try.func71, Try.ntmps71
  go_wp2
  go_loop [5, 6] (fun b s => ∃ S : Nat, S ≤ P ∧ s = .int .i64 S ∧ b = .int .i64 ((pkB X far n S : Nat) : Int)) (fun _ s => P - (intOf s).toNat)
  case atStart => exact ⟨0, Nat.zero_le _, rfl, rfl⟩
  case round =>
    obtain ⟨S, hS, rfl, rfl⟩ := hrel
    by_cases hlt : S < P
    · have hS128 : S < 128 := by omega
      obtain ⟨K, HK⟩ : ∃ K, Hid (pkB X far n S = K) := ⟨_, rfl⟩
      have hK7 := pkB_bd X far n S
      rw [HK.out] at hK7 ⊢
      go_wp2_with fail
      refine HPW.out.mono ?_
      rintro e w' ⟨rfl, rfl⟩
      go_wp2
      go_loop [7, 8] (fun f v => ∃ k : Nat, k ≤ n ∧ v = .int .i64 k ∧ f = .bool (fnB X far S n k)) (fun _ v => n - (intOf v).toNat)
      case atStart => exact ⟨0, Nat.zero_le _, rfl, rfl⟩
      case round =>
        obtain ⟨v, hv, rfl, rfl⟩ := hrel
        obtain ⟨F, HF⟩ : ∃ F, Hid (fnB X far S n v = F) := ⟨_, rfl⟩
        rw [HF.out]
        by_cases hvn : v < n
        · cases F with
          | true =>
            obtain ⟨Av, cv, ev, hrv⟩ := HT.out.row hvn
            have cc := Outer.cell HO.out hvn
            rw [ev, rowX_len] at cc
            have HRV := Lib.hid hrv
            clear ev hrv
            go_wp2
            go_loop [9, 10] (fun a i => ∃ m : Nat, m ≤ n ∧ i = .int .i64 m ∧ a = .int .i64 ((nrB X far S v m : Nat) : Int)) (fun _ i => n - (intOf i).toNat)
            case atStart => exact ⟨0, Nat.zero_le _, rfl, rfl⟩
            case round =>
              obtain ⟨m, hm, rfl, rfl⟩ := hrel
              obtain ⟨R, HR⟩ : ∃ R, Hid (nrB X far S v m = R) := ⟨_, rfl⟩
              have hR7 := nrB_bd X far S v m
              rw [HR.out] at hR7 ⊢
              by_cases hmn : m < n
              · obtain ⟨b, off, x, rfl, -, Hx, hcx⟩ := HRV.out.x (k := m) (by rw [rowX_len]; exact hmn)
                have hx := Hx.out
                rw [rowX_get X hmn] at hx
                have Hbit := Lib.hid (bit_any S m w hS128 (by omega))
                by_cases hb : S.testBit m = true
                · rw [if_pos hb] at Hbit
                  by_cases hx0 : 0 ≤ x
                  · by_cases hf : x ≤ far
                    · have hnx : Hid (nrB X far S v (m + 1) = R + 1) := by show _ = _; simp only [nrB]; rw [HR.out, if_pos ⟨hb, by rw [hx]; exact hx0, by rw [hx]; exact hf⟩]
                      clear hb hx
                      go_wp2_with fail
                      refine Hbit.out.mono ?_
                      rintro e w' ⟨rfl, rfl⟩
                      go_wp2
                      go_round
                      case rel => exact ⟨m + 1, by omega, by go_num, by rw [hnx.out]; go_num⟩
                      case measure => simp [intOf]; omega
                    · have hnx : Hid (nrB X far S v (m + 1) = R) := by show _ = _; simp only [nrB]; rw [HR.out, if_neg (by rintro ⟨_, _, h⟩; rw [hx] at h; exact hf h)]; rfl
                      clear hb hx
                      go_wp2_with fail
                      refine Hbit.out.mono ?_
                      rintro e w' ⟨rfl, rfl⟩
                      go_wp2
                      go_round
                      case rel => exact ⟨m + 1, by omega, by go_num, by rw [hnx.out]⟩
                      case measure => simp [intOf]; omega
                  · have hx0' : x < 0 := by omega
                    have hnx : Hid (nrB X far S v (m + 1) = R) := by show _ = _; simp only [nrB]; rw [HR.out, if_neg (by rintro ⟨_, h, _⟩; rw [hx] at h; exact hx0 h)]; rfl
                    clear hb hx
                    go_wp2_with fail
                    refine Hbit.out.mono ?_
                    rintro e w' ⟨rfl, rfl⟩
                    go_wp2
                    go_round
                    case rel => exact ⟨m + 1, by omega, by go_num, by rw [hnx.out]⟩
                    case measure => simp [intOf]; omega
                · rw [if_neg hb] at Hbit
                  have hnx : Hid (nrB X far S v (m + 1) = R) := by show _ = _; simp only [nrB]; rw [HR.out, if_neg (by rintro ⟨h, _⟩; exact hb h)]; rfl
                  clear hb hx
                  go_wp2_with fail
                  refine Hbit.out.mono ?_
                  rintro e w' ⟨rfl, rfl⟩
                  go_wp2
                  go_round
                  case rel => exact ⟨m + 1, by omega, by go_num, by rw [hnx.out]⟩
                  case measure => simp [intOf]; omega
              · have hmn2 : m = n := by omega
                subst hmn2
                have hnf : Hid (fnB X far S m (v + 1) = decide ((R : Int) ≤ 1)) := by
                  show _ = _
                  simp only [fnB]
                  rw [HF.out, HR.out]
                  by_cases h : R ≤ 1
                  · have : (R : Int) ≤ 1 := by omega
                    simp [h, this]
                  · have : ¬ (R : Int) ≤ 1 := by omega
                    simp [h, this]
                go_wp2
                go_round
                case rel => exact ⟨v + 1, by omega, by go_num, by rw [hnf.out]⟩
                case measure => simp [intOf]; omega
          | false =>
            have hff := Lib.hid (fnB_false HF.out n hv)
            have hpk : Hid (pkB X far n (S + 1) = K) := by show _ = _; simp only [pkB]; rw [if_neg (by rw [hff.out]; simp), HK.out]
            go_wp2
            go_round
            case rel => exact ⟨S + 1, by omega, by go_num, by rw [hpk.out]⟩
            case measure => simp [intOf]; omega
        · have hvn2 : v = n := by omega
          subst hvn2
          cases F with
          | true =>
            have Hbs := Lib.hid (bits_any S w hS128)
            have hpk : Hid (pkB X far v (S + 1) = max K (bc 7 S)) := by show _ = _; simp only [pkB]; rw [if_pos HF.out, HK.out]
            obtain ⟨C, HC⟩ : ∃ C, Hid (bc 7 S = C) := ⟨_, rfl⟩
            rw [HC.out] at Hbs hpk
            by_cases hKC : K < C
            · have hpk2 : Hid (pkB X far v (S + 1) = C) := by show _ = _; rw [hpk.out]; omega
              have hKC' : (K : Int) < (C : Int) := by omega
              go_wp2_with fail
              refine Hbs.out.mono ?_
              rintro e w' ⟨rfl, rfl⟩
              go_wp2
              go_round
              case rel => exact ⟨S + 1, by omega, by go_num, by rw [hpk2.out]⟩
              case measure => simp [intOf]; omega
            · have hpk2 : Hid (pkB X far v (S + 1) = K) := by show _ = _; rw [hpk.out]; omega
              have hKC' : ¬ (K : Int) < (C : Int) := by omega
              go_wp2_with fail
              refine Hbs.out.mono ?_
              rintro e w' ⟨rfl, rfl⟩
              go_wp2
              go_round
              case rel => exact ⟨S + 1, by omega, by go_num, by rw [hpk2.out]⟩
              case measure => simp [intOf]; omega
          | false =>
            have hpk : Hid (pkB X far v (S + 1) = K) := by show _ = _; simp only [pkB]; rw [if_neg (by rw [HF.out]; simp), HK.out]
            go_wp2
            go_round
            case rel => exact ⟨S + 1, by omega, by go_num, by rw [hpk.out]⟩
            case measure => simp [intOf]; omega
    · have hSP : S = P := by omega
      subst hSP
      go_wp2_with fail
      refine HPW.out.mono ?_
      rintro e w' ⟨rfl, rfl⟩
      go_wp2
      go_ret
      exact ⟨rfl, rfl⟩
end Go.Proofs.Ytiblcmeoneolcaa
