/-
  The model's sets: powers, bits; the most nodes no two of which are near one node, over all sets.
  Conditions: at most seven nodes.
  The model's powers of two, bits and sets, as for seven.
  Conditions: at most ten nodes, sets below 1024.
  Nets: the table of shortest ways node by node, each one more a node in the middle.
  Conditions: as each theorem states.
  Words for tables of nets: what a table must answer, a table in memory while it is made shorter.
  Conditions: as each theorem states.
  The model's table of steps and GridApart, walked.
  Conditions: small grids.
  The search for the fewest cells near all, as mathematics: what a search with a bound answers.
  Conditions: as each theorem states.
-/
import Derived.Test.YtkgomgfhhhdnjaaZ6
import Derived.Test.YtkgomgfhhhdnjaaZ4
import Derived.Test.YtkgomgfhhhdnjaaZ1
import Derived.Test.YtkgomgfhhhdnjaaZ2
import Derived.Test.YtkgomgfhhhdnjaaZ3
import Derived.Deep.LoopGhost
import Derived.BigRegion
import Derived.OneCell
import Derived.Maps.AppendAt
namespace Go.Proofs.Ytkgomgfhhhdnjaa
open Go.ChangeShapes Go.WideShapes Go.ChangeAt Go.RowKit
set_option linter.unusedVariables false
set_option maxRecDepth 4000

theorem fnB_false {d : Nat → Nat → Int} {far : Int} {s n v : Nat} (h : fnB d far s n v = false) : ∀ m, v ≤ m → fnB d far s n m = false := by
  intro m hm
  induction m with
  | zero => have : v = 0 := by omega
            subst this; exact h
  | succ m ih =>
    by_cases e : v = m + 1
    · subst e; exact h
    · simp only [fnB, ih (by omega)]; rfl
theorem nrB_bd (d : Nat → Nat → Int) (far : Int) (s v : Nat) : ∀ m, nrB d far s v m ≤ m
  | 0 => Nat.le_refl _
  | m + 1 => by have := nrB_bd d far s v m; simp only [nrB]; split <;> omega
theorem bc_bd : ∀ f s, bc f s ≤ f
  | 0, _ => Nat.le_refl _
  | f + 1, s => by have := bc_bd f (s / 2); simp only [bc]; omega
theorem pkB_bd (d : Nat → Nat → Int) (far : Int) (n : Nat) : ∀ S, pkB d far n S ≤ 7
  | 0 => Nat.zero_le _
  | S + 1 => by
    have := pkB_bd d far n S
    have := bc_bd 7 S
    simp only [pkB]; split <;> omega

set_option maxHeartbeats 2000000 in
theorem packX_any (w : World) (B n g0 c : Nat) (far : Int) (VR : Nat → Value) (X : Nat → Nat → Int) (hn1 : 1 ≤ n) (hn7 : n ≤ 7) (hO : Outer w B n (.slice (some ⟨g0, 0, none⟩) n c) VR) (hT : TT w B n VR (rowX X n)) :
    Calls Try.prog 57 #[.slice (some ⟨g0, 0, none⟩) n c, .int .i64 far] w fun e w' => e = .returned (.int .i64 ((pkB X far n (2 ^ n) : Nat) : Int)) ∧ w = w' := by
  have HO := Lib.hid hO
  have HT := Lib.hid hT
  have HPW := Lib.hid (power_any n w hn7)
  have hP7 : 2 ^ n ≤ 128 := (Nat.pow_le_pow_right (by omega) hn7 : 2 ^ n ≤ 2 ^ 7)
  obtain ⟨P, HP⟩ : ∃ P : Nat, Hid (2 ^ n = P) := ⟨2 ^ n, rfl⟩
  rw [HP.out] at HPW hP7 ⊢
  clear hO hT
  go_enter Try.func57, Try.ntmps57
  go_wp2
  go_loop [5, 6] (fun b s => ∃ S : Nat, S ≤ P ∧ s = .int .i64 S ∧ b = .int .i64 ((pkB X far n S : Nat) : Int)) (fun _ s => P - (intOf s).toNat)
  case atStart => exact ⟨0, Nat.zero_le _, rfl, rfl⟩
  case round =>
    obtain ⟨S, hS, rfl, rfl⟩ := hrel
    by_cases hlt : S < P
    · have hS128 : S < 128 := by omega
      obtain ⟨K, HK⟩ : ∃ K, Hid (pkB X far n S = K) := ⟨_, rfl⟩
      have hK7 := pkB_bd X far n S
      rw [HK.out] at hK7 ⊢
      go_wp2_with fail
      refine HPW.out.mono ?_
      rintro e w' ⟨rfl, rfl⟩
      go_wp2
      go_loop [7, 8] (fun f v => ∃ k : Nat, k ≤ n ∧ v = .int .i64 k ∧ f = .bool (fnB X far S n k)) (fun _ v => n - (intOf v).toNat)
      case atStart => exact ⟨0, Nat.zero_le _, rfl, rfl⟩
      case round =>
        obtain ⟨v, hv, rfl, rfl⟩ := hrel
        obtain ⟨F, HF⟩ : ∃ F, Hid (fnB X far S n v = F) := ⟨_, rfl⟩
        rw [HF.out]
        by_cases hvn : v < n
        · cases F with
          | true =>
            obtain ⟨Av, cv, ev, hrv⟩ := HT.out.row hvn
            have cc := Outer.cell HO.out hvn
            rw [ev, rowX_len] at cc
            have HRV := Lib.hid hrv
            clear ev hrv
            go_wp2
            go_loop [9, 10] (fun a i => ∃ m : Nat, m ≤ n ∧ i = .int .i64 m ∧ a = .int .i64 ((nrB X far S v m : Nat) : Int)) (fun _ i => n - (intOf i).toNat)
            case atStart => exact ⟨0, Nat.zero_le _, rfl, rfl⟩
            case round =>
              obtain ⟨m, hm, rfl, rfl⟩ := hrel
              obtain ⟨R, HR⟩ : ∃ R, Hid (nrB X far S v m = R) := ⟨_, rfl⟩
              have hR7 := nrB_bd X far S v m
              rw [HR.out] at hR7 ⊢
              by_cases hmn : m < n
              · obtain ⟨b, off, x, rfl, -, Hx, hcx⟩ := HRV.out.x (k := m) (by rw [rowX_len]; exact hmn)
                have hx := Hx.out
                rw [rowX_get X hmn] at hx
                have Hbit := Lib.hid (bit_any S m w hS128 (by omega))
                by_cases hb : S.testBit m = true
                · rw [if_pos hb] at Hbit
                  by_cases hx0 : 0 ≤ x
                  · by_cases hf : x ≤ far
                    · have hnx : Hid (nrB X far S v (m + 1) = R + 1) := by show _ = _; simp only [nrB]; rw [HR.out, if_pos ⟨hb, by rw [hx]; exact hx0, by rw [hx]; exact hf⟩]
                      clear hb hx
                      go_wp2_with fail
                      refine Hbit.out.mono ?_
                      rintro e w' ⟨rfl, rfl⟩
                      go_wp2
                      go_round
                      case rel => exact ⟨m + 1, by omega, by go_num, by rw [hnx.out]; go_num⟩
                      case measure => simp [intOf]; omega
                    · have hnx : Hid (nrB X far S v (m + 1) = R) := by show _ = _; simp only [nrB]; rw [HR.out, if_neg (by rintro ⟨_, _, h⟩; rw [hx] at h; exact hf h)]; rfl
                      clear hb hx
                      go_wp2_with fail
                      refine Hbit.out.mono ?_
                      rintro e w' ⟨rfl, rfl⟩
                      go_wp2
                      go_round
                      case rel => exact ⟨m + 1, by omega, by go_num, by rw [hnx.out]⟩
                      case measure => simp [intOf]; omega
                  · have hx0' : x < 0 := by omega
                    have hnx : Hid (nrB X far S v (m + 1) = R) := by show _ = _; simp only [nrB]; rw [HR.out, if_neg (by rintro ⟨_, h, _⟩; rw [hx] at h; exact hx0 h)]; rfl
                    clear hb hx
                    go_wp2_with fail
                    refine Hbit.out.mono ?_
                    rintro e w' ⟨rfl, rfl⟩
                    go_wp2
                    go_round
                    case rel => exact ⟨m + 1, by omega, by go_num, by rw [hnx.out]⟩
                    case measure => simp [intOf]; omega
                · rw [if_neg hb] at Hbit
                  have hnx : Hid (nrB X far S v (m + 1) = R) := by show _ = _; simp only [nrB]; rw [HR.out, if_neg (by rintro ⟨h, _⟩; exact hb h)]; rfl
                  clear hb hx
                  go_wp2_with fail
                  refine Hbit.out.mono ?_
                  rintro e w' ⟨rfl, rfl⟩
                  go_wp2
                  go_round
                  case rel => exact ⟨m + 1, by omega, by go_num, by rw [hnx.out]⟩
                  case measure => simp [intOf]; omega
              · have hmn2 : m = n := by omega
                subst hmn2
                have hnf : Hid (fnB X far S m (v + 1) = decide ((R : Int) ≤ 1)) := by
                  show _ = _
                  simp only [fnB]
                  rw [HF.out, HR.out]
                  by_cases h : R ≤ 1
                  · have : (R : Int) ≤ 1 := by omega
                    simp [h, this]
                  · have : ¬ (R : Int) ≤ 1 := by omega
                    simp [h, this]
                go_wp2
                go_round
                case rel => exact ⟨v + 1, by omega, by go_num, by rw [hnf.out]⟩
                case measure => simp [intOf]; omega
          | false =>
            have hff := Lib.hid (fnB_false HF.out n hv)
            have hpk : Hid (pkB X far n (S + 1) = K) := by show _ = _; simp only [pkB]; rw [if_neg (by rw [hff.out]; simp), HK.out]
            go_wp2
            go_round
            case rel => exact ⟨S + 1, by omega, by go_num, by rw [hpk.out]⟩
            case measure => simp [intOf]; omega
        · have hvn2 : v = n := by omega
          subst hvn2
          cases F with
          | true =>
            have Hbs := Lib.hid (bits_any S w hS128)
            have hpk : Hid (pkB X far v (S + 1) = max K (bc 7 S)) := by show _ = _; simp only [pkB]; rw [if_pos HF.out, HK.out]
            obtain ⟨C, HC⟩ : ∃ C, Hid (bc 7 S = C) := ⟨_, rfl⟩
            rw [HC.out] at Hbs hpk
            by_cases hKC : K < C
            · have hpk2 : Hid (pkB X far v (S + 1) = C) := by show _ = _; rw [hpk.out]; omega
              have hKC' : (K : Int) < (C : Int) := by omega
              go_wp2_with fail
              refine Hbs.out.mono ?_
              rintro e w' ⟨rfl, rfl⟩
              go_wp2
              go_round
              case rel => exact ⟨S + 1, by omega, by go_num, by rw [hpk2.out]⟩
              case measure => simp [intOf]; omega
            · have hpk2 : Hid (pkB X far v (S + 1) = K) := by show _ = _; rw [hpk.out]; omega
              have hKC' : ¬ (K : Int) < (C : Int) := by omega
              go_wp2_with fail
              refine Hbs.out.mono ?_
              rintro e w' ⟨rfl, rfl⟩
              go_wp2
              go_round
              case rel => exact ⟨S + 1, by omega, by go_num, by rw [hpk2.out]⟩
              case measure => simp [intOf]; omega
          | false =>
            have hpk : Hid (pkB X far v (S + 1) = K) := by show _ = _; simp only [pkB]; rw [if_neg (by rw [HF.out]; simp), HK.out]
            go_wp2
            go_round
            case rel => exact ⟨S + 1, by omega, by go_num, by rw [hpk.out]⟩
            case measure => simp [intOf]; omega
    · have hSP : S = P := by omega
      subst hSP
      go_wp2_with fail
      refine HPW.out.mono ?_
      rintro e w' ⟨rfl, rfl⟩
      go_wp2
      go_ret
      exact ⟨rfl, rfl⟩
end Go.Proofs.Ytkgomgfhhhdnjaa
namespace Go.Proofs.Ytkgomgfhhhdnjaa
open Go.ChangeShapes Go.WideShapes Go.ChangeAt Go.RowKit
set_option linter.unusedVariables false
set_option maxRecDepth 4000

theorem power_anyT (n : Nat) (w : World) (hn : n ≤ 10) : Calls Try.prog 76 #[.int .i64 n] w fun e w' => e = .returned (.int .i64 ((2 ^ n : Nat) : Int)) ∧ w = w' := by
  go_enter Try.func76, Try.ntmps76
  go_wp2
  go_loop [0, 3] (fun a o => ∃ k m : Nat, k + m = n ∧ a = .int .i64 m ∧ o = .int .i64 ((2 ^ k : Nat) : Int)) (fun a _ => (intOf a).toNat)
  case atStart => exact ⟨0, n, by omega, rfl, rfl⟩
  case round =>
    obtain ⟨k, m, hkm, rfl, rfl⟩ := hrel
    by_cases hm : 0 < m
    · have hp : 2 ^ k ≤ 2 ^ 10 := Nat.pow_le_pow_right (by omega) (by omega)
      have hs : Hid (2 ^ (k + 1) = 2 * 2 ^ k) := by show _ = _; rw [Nat.pow_succ]; omega
      obtain ⟨P, HP⟩ : ∃ P : Nat, Hid (2 ^ k = P) := ⟨2 ^ k, rfl⟩
      rw [HP.out] at hp hs ⊢
      go_wp2
      go_round
      case rel => exact ⟨k + 1, m - 1, by omega, by go_num, by rw [hs.out]; go_num⟩
      case measure => simp [intOf]; omega
    · have hkn : k = n := by omega
      subst hkn
      go_wp2
      go_ret
      exact ⟨rfl, rfl⟩
theorem bit_numT : ∀ s : Fin 1024, ∀ i : Fin 10, ((s.val : Int).tdiv ((2 ^ i.val : Nat) : Int)).tmod 2 = if s.val.testBit i.val = true then 1 else 0 := by decide +kernel
theorem bit_isT (s i : Nat) (w : World) (hs : s < 1024) (hi : i < 10) {z : Int} (hz : (if s.testBit i = true then (1 : Int) else 0) = z) : Calls Try.prog 77 #[.int .i64 s, .int .i64 i] w fun e w' => e = .returned (.int .i64 z) ∧ w = w' := by
  have hb := bit_numT ⟨s, hs⟩ ⟨i, hi⟩
  simp only at hb
  rw [hz] at hb
  have hp : 0 < 2 ^ i := Nat.two_pow_pos i
  have Hp := Lib.hid (power_anyT i w (by omega))
  obtain ⟨P, HP⟩ : ∃ P : Nat, Hid (2 ^ i = P) := ⟨2 ^ i, rfl⟩
  have hd : s / P ≤ s := Nat.div_le_self _ _
  rw [HP.out] at hp hb Hp
  have hdv : (s : Int).tdiv (P : Int) = ((s / P : Nat) : Int) := (Int.ofNat_tdiv s P).symm
  have hdv2 : (s : Int) / (P : Int) = ((s / P : Nat) : Int) := (Int.natCast_ediv s P).symm
  rw [hdv] at hb
  obtain ⟨D, HD⟩ : ∃ D : Nat, Hid (s / P = D) := ⟨s / P, rfl⟩
  rw [HD.out] at hb hdv hdv2 hd
  have Hb := Lib.hid hb
  clear hb hz
  have hne : ¬ (P : Int) = 0 := by omega
  go_enter Try.func77, Try.ntmps77
  go_wp2_with fail
  refine Hp.out.mono ?_
  rintro e w' ⟨rfl, rfl⟩
  go_wp2
  go_ret
  exact ⟨ret_int Hb.out, rfl⟩
theorem bit_anyT (s i : Nat) (w : World) (hs : s < 1024) (hi : i < 10) : Calls Try.prog 77 #[.int .i64 s, .int .i64 i] w fun e w' => e = .returned (.int .i64 (if s.testBit i = true then 1 else 0)) ∧ w = w' := bit_isT s i w hs hi rfl
theorem bits_numT : ∀ s : Fin 1024, bc 10 s.val = s.val % 2 + bc 10 (s.val / 2) := by decide +kernel
theorem bits_anyT (s : Nat) (w : World) (hs : s < 1024) : Calls Try.prog 78 #[.int .i64 s] w fun e w' => e = .returned (.int .i64 ((bc 10 s : Nat) : Int)) ∧ w = w' := by
  go_enter Try.func78, Try.ntmps78
  go_wp2
  go_loop [0, 3] (fun a o => ∃ r k : Nat, Hid (k + bc 10 r = bc 10 s) ∧ r ≤ s ∧ k ≤ 100000 - r ∧ a = .int .i64 r ∧ o = .int .i64 k) (fun a _ => (intOf a).toNat)
  case atStart => exact ⟨s, 0, Nat.zero_add _, Nat.le_refl _, Nat.zero_le _, rfl, rfl⟩
  case round =>
    obtain ⟨r, k, Hr, hrs, hk, rfl, rfl⟩ := hrel
    by_cases hr0 : 0 < r
    · have hn := bits_numT ⟨r, by omega⟩
      simp only at hn
      have H2 : Hid (k + r % 2 + bc 10 (r / 2) = bc 10 s) := by show _ = _; rw [← Hr.out, hn]; omega
      clear hn
      have hm2 : r % 2 ≤ 1 := by omega
      have hd2 : r / 2 < r := by omega
      have e1 : (r : Int).tmod 2 = ((r % 2 : Nat) : Int) := (Int.ofNat_tmod r 2).symm
      have e2 : (r : Int).tdiv 2 = ((r / 2 : Nat) : Int) := (Int.ofNat_tdiv r 2).symm
      obtain ⟨a, Ha⟩ : ∃ a, Hid (r % 2 = a) := ⟨_, rfl⟩
      obtain ⟨b, Hb⟩ : ∃ b, Hid (r / 2 = b) := ⟨_, rfl⟩
      rw [Ha.out] at H2 hm2 e1
      rw [Hb.out] at H2 hd2 e2
      go_wp2
      go_round
      case rel => exact ⟨b, k + a, H2, by omega, by omega, by first | rfl | (congr 1; omega), by first | go_num | (congr 1; omega)⟩
      case measure => simp [intOf]; omega
    · have h0 : r = 0 := by omega
      subst h0
      have H2 : Hid (k = bc 10 s) := Hr.out
      go_wp2
      go_ret
      exact ⟨ret_int (by rw [← H2.out]), rfl⟩
theorem pkB_bdT (d : Nat → Nat → Int) (far : Int) (n : Nat) : ∀ S, pkBT d far n S ≤ 10
  | 0 => Nat.zero_le _
  | S + 1 => by
    have := pkB_bdT d far n S
    have := bc_bd 10 S
    simp only [pkBT]; split <;> omega
set_option maxHeartbeats 2000000 in
theorem packX_anyT (w : World) (B n g0 c : Nat) (far : Int) (VR : Nat → Value) (X : Nat → Nat → Int) (hn1 : 1 ≤ n) (hn7 : n ≤ 10) (hO : Outer w B n (.slice (some ⟨g0, 0, none⟩) n c) VR) (hT : TT w B n VR (rowX X n)) :
    Calls Try.prog 57 #[.slice (some ⟨g0, 0, none⟩) n c, .int .i64 far] w fun e w' => e = .returned (.int .i64 ((pkBT X far n (2 ^ n) : Nat) : Int)) ∧ w = w' := by
  have HO := Lib.hid hO
  have HT := Lib.hid hT
  have HPW := Lib.hid (power_anyT n w hn7)
  have hP7 : 2 ^ n ≤ 1024 := (Nat.pow_le_pow_right (by omega) hn7 : 2 ^ n ≤ 2 ^ 10)
  obtain ⟨P, HP⟩ : ∃ P : Nat, Hid (2 ^ n = P) := ⟨2 ^ n, rfl⟩
  rw [HP.out] at HPW hP7 ⊢
  clear hO hT
  go_enter Try.func57, Try.ntmps57
  go_wp2
  go_loop [5, 6] (fun b s => ∃ S : Nat, S ≤ P ∧ s = .int .i64 S ∧ b = .int .i64 ((pkBT X far n S : Nat) : Int)) (fun _ s => P - (intOf s).toNat)
  case atStart => exact ⟨0, Nat.zero_le _, rfl, rfl⟩
  case round =>
    obtain ⟨S, hS, rfl, rfl⟩ := hrel
    by_cases hlt : S < P
    · have hS128 : S < 1024 := by omega
      obtain ⟨K, HK⟩ : ∃ K, Hid (pkBT X far n S = K) := ⟨_, rfl⟩
      have hK7 := pkB_bdT X far n S
      rw [HK.out] at hK7 ⊢
      go_wp2_with fail
      refine HPW.out.mono ?_
      rintro e w' ⟨rfl, rfl⟩
      go_wp2
      go_loop [7, 8] (fun f v => ∃ k : Nat, k ≤ n ∧ v = .int .i64 k ∧ f = .bool (fnB X far S n k)) (fun _ v => n - (intOf v).toNat)
      case atStart => exact ⟨0, Nat.zero_le _, rfl, rfl⟩
      case round =>
        obtain ⟨v, hv, rfl, rfl⟩ := hrel
        obtain ⟨F, HF⟩ : ∃ F, Hid (fnB X far S n v = F) := ⟨_, rfl⟩
        rw [HF.out]
        by_cases hvn : v < n
        · cases F with
          | true =>
            obtain ⟨Av, cv, ev, hrv⟩ := HT.out.row hvn
            have cc := Outer.cell HO.out hvn
            rw [ev, rowX_len] at cc
            have HRV := Lib.hid hrv
            clear ev hrv
            go_wp2
            go_loop [9, 10] (fun a i => ∃ m : Nat, m ≤ n ∧ i = .int .i64 m ∧ a = .int .i64 ((nrB X far S v m : Nat) : Int)) (fun _ i => n - (intOf i).toNat)
            case atStart => exact ⟨0, Nat.zero_le _, rfl, rfl⟩
            case round =>
              obtain ⟨m, hm, rfl, rfl⟩ := hrel
              obtain ⟨R, HR⟩ : ∃ R, Hid (nrB X far S v m = R) := ⟨_, rfl⟩
              have hR7 := nrB_bd X far S v m
              rw [HR.out] at hR7 ⊢
              by_cases hmn : m < n
              · obtain ⟨b, off, x, rfl, -, Hx, hcx⟩ := HRV.out.x (k := m) (by rw [rowX_len]; exact hmn)
                have hx := Hx.out
                rw [rowX_get X hmn] at hx
                have Hbit := Lib.hid (bit_anyT S m w hS128 (by omega))
                by_cases hb : S.testBit m = true
                · rw [if_pos hb] at Hbit
                  by_cases hx0 : 0 ≤ x
                  · by_cases hf : x ≤ far
                    · have hnx : Hid (nrB X far S v (m + 1) = R + 1) := by show _ = _; simp only [nrB]; rw [HR.out, if_pos ⟨hb, by rw [hx]; exact hx0, by rw [hx]; exact hf⟩]
                      clear hb hx
                      go_wp2_with fail
                      refine Hbit.out.mono ?_
                      rintro e w' ⟨rfl, rfl⟩
                      go_wp2
                      go_round
                      case rel => exact ⟨m + 1, by omega, by go_num, by rw [hnx.out]; go_num⟩
                      case measure => simp [intOf]; omega
                    · have hnx : Hid (nrB X far S v (m + 1) = R) := by show _ = _; simp only [nrB]; rw [HR.out, if_neg (by rintro ⟨_, _, h⟩; rw [hx] at h; exact hf h)]; rfl
                      clear hb hx
                      go_wp2_with fail
                      refine Hbit.out.mono ?_
                      rintro e w' ⟨rfl, rfl⟩
                      go_wp2
                      go_round
                      case rel => exact ⟨m + 1, by omega, by go_num, by rw [hnx.out]⟩
                      case measure => simp [intOf]; omega
                  · have hx0' : x < 0 := by omega
                    have hnx : Hid (nrB X far S v (m + 1) = R) := by show _ = _; simp only [nrB]; rw [HR.out, if_neg (by rintro ⟨_, h, _⟩; rw [hx] at h; exact hx0 h)]; rfl
                    clear hb hx
                    go_wp2_with fail
                    refine Hbit.out.mono ?_
                    rintro e w' ⟨rfl, rfl⟩
                    go_wp2
                    go_round
                    case rel => exact ⟨m + 1, by omega, by go_num, by rw [hnx.out]⟩
                    case measure => simp [intOf]; omega
                · rw [if_neg hb] at Hbit
                  have hnx : Hid (nrB X far S v (m + 1) = R) := by show _ = _; simp only [nrB]; rw [HR.out, if_neg (by rintro ⟨h, _⟩; exact hb h)]; rfl
                  clear hb hx
                  go_wp2_with fail
                  refine Hbit.out.mono ?_
                  rintro e w' ⟨rfl, rfl⟩
                  go_wp2
                  go_round
                  case rel => exact ⟨m + 1, by omega, by go_num, by rw [hnx.out]⟩
                  case measure => simp [intOf]; omega
              · have hmn2 : m = n := by omega
                subst hmn2
                have hnf : Hid (fnB X far S m (v + 1) = decide ((R : Int) ≤ 1)) := by
                  show _ = _
                  simp only [fnB]
                  rw [HF.out, HR.out]
                  by_cases h : R ≤ 1
                  · have : (R : Int) ≤ 1 := by omega
                    simp [h, this]
                  · have : ¬ (R : Int) ≤ 1 := by omega
                    simp [h, this]
                go_wp2
                go_round
                case rel => exact ⟨v + 1, by omega, by go_num, by rw [hnf.out]⟩
                case measure => simp [intOf]; omega
          | false =>
            have hff := Lib.hid (fnB_false HF.out n hv)
            have hpk : Hid (pkBT X far n (S + 1) = K) := by show _ = _; simp only [pkBT]; rw [if_neg (by rw [hff.out]; simp), HK.out]
            go_wp2
            go_round
            case rel => exact ⟨S + 1, by omega, by go_num, by rw [hpk.out]⟩
            case measure => simp [intOf]; omega
        · have hvn2 : v = n := by omega
          subst hvn2
          cases F with
          | true =>
            have Hbs := Lib.hid (bits_anyT S w hS128)
            have hpk : Hid (pkBT X far v (S + 1) = max K (bc 10 S)) := by show _ = _; simp only [pkBT]; rw [if_pos HF.out, HK.out]
            obtain ⟨C, HC⟩ : ∃ C, Hid (bc 10 S = C) := ⟨_, rfl⟩
            rw [HC.out] at Hbs hpk
            by_cases hKC : K < C
            · have hpk2 : Hid (pkBT X far v (S + 1) = C) := by show _ = _; rw [hpk.out]; omega
              have hKC' : (K : Int) < (C : Int) := by omega
              go_wp2_with fail
              refine Hbs.out.mono ?_
              rintro e w' ⟨rfl, rfl⟩
              go_wp2
              go_round
              case rel => exact ⟨S + 1, by omega, by go_num, by rw [hpk2.out]⟩
              case measure => simp [intOf]; omega
            · have hpk2 : Hid (pkBT X far v (S + 1) = K) := by show _ = _; rw [hpk.out]; omega
              have hKC' : ¬ (K : Int) < (C : Int) := by omega
              go_wp2_with fail
              refine Hbs.out.mono ?_
              rintro e w' ⟨rfl, rfl⟩
              go_wp2
              go_round
              case rel => exact ⟨S + 1, by omega, by go_num, by rw [hpk2.out]⟩
              case measure => simp [intOf]; omega
          | false =>
            have hpk : Hid (pkBT X far v (S + 1) = K) := by show _ = _; simp only [pkBT]; rw [if_neg (by rw [HF.out]; simp), HK.out]
            go_wp2
            go_round
            case rel => exact ⟨S + 1, by omega, by go_num, by rw [hpk.out]⟩
            case measure => simp [intOf]; omega
    · have hSP : S = P := by omega
      subst hSP
      go_wp2_with fail
      refine HPW.out.mono ?_
      rintro e w' ⟨rfl, rfl⟩
      go_wp2
      go_ret
      exact ⟨rfl, rfl⟩
end Go.Proofs.Ytkgomgfhhhdnjaa
namespace Go.Proofs.Ytkgomgfhhhdnjaa
open Go.ChangeShapes Go.WideShapes Go.ChangeAt Go.RowKit
set_option linter.unusedVariables false

/-- The table with the first k streets alone. -/
structure Nb1 (ss : List Str) (n k : Nat) (X : Nat → Nat → Int) : Prop where
  zero : ∀ a, a < n → X a a = 0
  symm : ∀ a b, X a b = X b a
  way : ∀ a b, a < n → b < n → X a b = -1 ∨ (0 ≤ X a b ∧ Wk (SE ss) n a b (X a b))
  bd : ∀ a b, a < n → b < n → X a b ≤ 9
  cl : ∀ i, i < k → ∀ u v : Nat, (ss.getD i str0).1 = u → (ss.getD i str0).2.1 = v → 0 ≤ X u v ∧ X u v ≤ (ss.getD i str0).2.2
theorem nb1_start (ss : List Str) (n : Nat) : Nb1 ss n 0 ownX where
  zero a _ := by simp [ownX]
  symm a b := by unfold ownX; by_cases h : a = b <;> simp [h, eq_comm]
  way := (rlx_start ss n).way
  bd a b _ _ := by unfold ownX; split <;> omega
  cl i hi := by omega
theorem nb1_skip {ss : List Str} {n k u v : Nat} {L : Int} {X : Nat → Nat → Int} (h : Nb1 ss n k X) (hp : ss.getD k str0 = ((u : Int), (v : Int), L)) (hc : ¬ (X u v < 0 ∨ L < X u v)) : Nb1 ss n (k + 1) X :=
  ⟨h.zero, h.symm, h.way, h.bd, fun i hi u' v' h1 h2 => by
    by_cases e : i = k
    · subst e
      rw [hp] at h1 h2 ⊢
      simp only at h1 h2 ⊢
      have e1 : u' = u := by omega
      have e2 : v' = v := by omega
      subst e1 e2
      omega
    · exact h.cl i (by omega) u' v' h1 h2⟩
theorem nb1_step {ss : List Str} {n k u v : Nat} {L : Int} {X : Nat → Nat → Int} (h : Nb1 ss n k X) (hk : k < ss.length) (hp : ss.getD k str0 = ((u : Int), (v : Int), L)) (hu : u < n) (hv : v < n) (hL : 1 ≤ L ∧ L ≤ 9) (hc : X u v < 0 ∨ L < X u v) : Nb1 ss n (k + 1) (up2 (up2 X u v L) v u L) := by
  have hne : u ≠ v := fun e => by subst e; rw [h.zero u hu] at hc; omega
  have hmem : (((u : Int), (v : Int), L) : Str) ∈ ss := by rw [← hp]; exact getD_mem3 hk
  have e1 : ∀ a b, (a = u ∧ b = v) ∨ (a = v ∧ b = u) → up2 (up2 X u v L) v u L a b = L := fun a b h => by
    unfold up2
    rcases h with ⟨rfl, rfl⟩ | ⟨rfl, rfl⟩
    · rw [if_neg (fun e => hne e.1), if_pos ⟨rfl, rfl⟩]
    · rw [if_pos ⟨rfl, rfl⟩]
  have e2 : ∀ a b, ¬ ((a = u ∧ b = v) ∨ (a = v ∧ b = u)) → up2 (up2 X u v L) v u L a b = X a b := fun a b h => by
    unfold up2
    rw [if_neg (fun e => h (.inr e)), if_neg (fun e => h (.inl e))]
  refine ⟨fun a ha => ?_, fun a b => ?_, fun a b ha hb => ?_, fun a b ha hb => ?_, fun i hi u' v' h1 h2 => ?_⟩
  · rw [e2 a a (by omega)]; exact h.zero a ha
  · by_cases e : (a = u ∧ b = v) ∨ (a = v ∧ b = u)
    · rw [e1 a b e, e1 b a (by omega)]
    · rw [e2 a b e, e2 b a (by omega)]; exact h.symm a b
  · by_cases e : (a = u ∧ b = v) ∨ (a = v ∧ b = u)
    · rw [e1 a b e]
      refine .inr ⟨by omega, ?_⟩
      have := Wk.snoc a b 0 L (Wk.nil ha) (show SE ss a b L from ⟨_, hmem, rfl, by
        rcases e with ⟨rfl, rfl⟩ | ⟨rfl, rfl⟩
        · exact .inl ⟨rfl, rfl⟩
        · exact .inr ⟨rfl, rfl⟩⟩) hb
      rw [Int.zero_add] at this
      exact this
    · rw [e2 a b e]; exact h.way a b ha hb
  · by_cases e : (a = u ∧ b = v) ∨ (a = v ∧ b = u)
    · rw [e1 a b e]; exact hL.2
    · rw [e2 a b e]; exact h.bd a b ha hb
  · by_cases ei : i = k
    · subst ei
      rw [hp] at h1 h2 ⊢
      simp only at h1 h2 ⊢
      have e1' : u' = u := by omega
      have e2' : v' = v := by omega
      subst e1' e2'
      rw [e1 _ _ (.inl ⟨rfl, rfl⟩)]
      omega
    · have := h.cl i (by omega) u' v' h1 h2
      by_cases e : (u' = u ∧ v' = v) ∨ (u' = v ∧ v' = u)
      · rw [e1 _ _ e]
        have hX : X u' v' = X u v := by
          rcases e with ⟨rfl, rfl⟩ | ⟨rfl, rfl⟩
          · rfl
          · exact h.symm _ _
        omega
      · rw [e2 _ _ e]; exact this
/-- The table with the first m nodes in the middle. -/
structure Nb2 (ss : List Str) (n m : Nat) (X : Nat → Nat → Int) : Prop where
  zero : ∀ a, a < n → X a a = 0
  way : ∀ a b, a < n → b < n → X a b = -1 ∨ (0 ≤ X a b ∧ Wk (SE ss) n a b (X a b))
  bd : ∀ a b, a < n → b < n → X a b ≤ ((9 * 2 ^ m : Nat) : Int)
  cl : ∀ u v L, SE ss u v L → 0 ≤ X u v ∧ X u v ≤ L
  tri : ∀ a b c, a < n → b < n → c < m → big (X a b) ≤ big (X a c) + big (X c b)
theorem nb2_start {ss : List Str} {n : Nat} {X : Nat → Nat → Int} (h : Nb1 ss n ss.length X) : Nb2 ss n 0 X where
  zero := h.zero
  way := h.way
  bd a b ha hb := h.bd a b ha hb
  cl u v L he := by
    obtain ⟨p, hp, rfl, h1⟩ := he
    obtain ⟨i, hi, e⟩ := mem_getD3 hp
    rcases h1 with ⟨h1, h2⟩ | ⟨h1, h2⟩
    · have := h.cl i hi u v (by rw [e]; exact h1) (by rw [e]; exact h2)
      rw [e] at this; exact this
    · have := h.cl i hi v u (by rw [e]; exact h1) (by rw [e]; exact h2)
      rw [e, h.symm v u] at this; exact this
  tri a b c _ _ hc := by omega
/-- One node more in the middle. -/
def fwX (X : Nat → Nat → Int) (m i j : Nat) : Int := if 0 ≤ X i m ∧ 0 ≤ X m j ∧ (X i j < 0 ∨ X i m + X m j < X i j) then X i m + X m j else X i j
theorem fw_col {X : Nat → Nat → Int} {m : Nat} (h : X m m = 0) (i : Nat) : fwX X m i m = X i m := by
  unfold fwX
  rw [h, if_neg (by omega)]
theorem fw_row {X : Nat → Nat → Int} {m : Nat} (h : X m m = 0) (j : Nat) : fwX X m m j = X m j := by
  unfold fwX
  rw [h, if_neg (by omega)]
theorem pow_le_128 {m : Nat} (h : m ≤ 7) : 9 * 2 ^ m ≤ 1152 := by
  have := Nat.pow_le_pow_right (show 2 > 0 by omega) h
  omega
theorem Nb2.le {ss : List Str} {n m : Nat} {X : Nat → Nat → Int} (h : Nb2 ss n m X) (hm : m ≤ 7) {a b : Nat} (ha : a < n) (hb : b < n) : -1 ≤ X a b ∧ X a b ≤ 1152 := by
  have h1 := h.bd a b ha hb
  have h2 := pow_le_128 hm
  rcases h.way a b ha hb with h3 | ⟨h3, -⟩ <;> omega
theorem fw_big {x y z : Int} (h1 : -1 ≤ x) (h2 : -1 ≤ y) (h3 : -1 ≤ z) (h4 : x ≤ 1152) (h5 : y ≤ 1152) (h6 : z ≤ 1152) :
    big (if 0 ≤ y ∧ 0 ≤ z ∧ (x < 0 ∨ y + z < x) then y + z else x) = min (big x) (min 1000000 (big y + big z)) := by
  unfold big
  by_cases c : 0 ≤ y ∧ 0 ≤ z ∧ (x < 0 ∨ y + z < x)
  · rw [if_pos c, if_neg (show ¬ y + z < 0 by omega), if_neg (show ¬ y < 0 by omega), if_neg (show ¬ z < 0 by omega)]
    by_cases hx : x < 0
    · rw [if_pos hx]; omega
    · rw [if_neg hx]; omega
  · rw [if_neg c]
    by_cases hx : x < 0 <;> by_cases hy : y < 0 <;> by_cases hz : z < 0 <;> simp only [hx, hy, hz, if_true, if_false] <;> omega
theorem nb2_step {ss : List Str} {n m : Nat} {X : Nat → Nat → Int} (h : Nb2 ss n m X) (hm : m < n) (h7 : n ≤ 7) : Nb2 ss n (m + 1) (fwX X m) where
  zero a ha := by
    unfold fwX
    rw [h.zero a ha, if_neg (by omega)]
  way a b ha hb := by
    unfold fwX
    split
    · rename_i hc
      rcases h.way a m ha hm with h1 | ⟨h1, w1⟩
      · omega
      · rcases h.way m b hm hb with h2 | ⟨h2, w2⟩
        · omega
        · exact .inr ⟨by omega, w1.join w2⟩
    · exact h.way a b ha hb
  bd a b ha hb := by
    have h1 := h.bd a b ha hb
    have h2 := h.bd a m ha hm
    have h3 := h.bd m b hm hb
    have e : 9 * 2 ^ (m + 1) = 9 * 2 ^ m + 9 * 2 ^ m := by rw [Nat.pow_succ]; omega
    rw [e]
    unfold fwX
    split <;> omega
  cl u v L he := by
    have := h.cl u v L he
    unfold fwX
    split <;> omega
  tri := by
    refine middles_step (X := X) (Y := fwX X m) (fun a b ha hb => ?_) hm (h.zero m hm) (fun a b ha hb => ?_) h.tri
    · have := h.le (by omega) ha hb; omega
    · have h1 := h.le (by omega) ha hb
      have h2 := h.le (by omega) ha hm
      have h3 := h.le (by omega) hm hb
      exact fw_big h1.1 h2.1 h3.1 h1.2 h2.2 h3.2
theorem nb2_end {ss : List Str} {n : Nat} {X : Nat → Nat → Int} (hv : vnet n ss = true) (h7 : n ≤ 7) (h : Nb2 ss n n X) : Short (SE ss) n X where
  zero := h.zero
  step a u v L ha he hv' h0 := by
    have hu := (se_lt hv u v L he).1
    have h1 := h.cl u v L he
    have h2 := h.tri a v u ha hv' hu
    have h3 := h.le h7 ha hu
    have h4 := h.le h7 hu hv'
    have h5 := h.le h7 ha hv'
    unfold big at h2
    rw [if_neg (show ¬ X a u < 0 by omega), if_neg (show ¬ X u v < 0 by omega)] at h2
    split at h2 <;> omega
  way := h.way
/-- In the middle of a round. -/
def fwM (X : Nat → Nat → Int) (m a b : Nat) : Nat → Nat → Int := fun i j => if i < a ∨ (i = a ∧ j < b) then fwX X m i j else X i j
end Go.Proofs.Ytkgomgfhhhdnjaa
namespace Go.Proofs.Ytkgomgfhhhdnjaa
open Go.ChangeShapes Go.WideShapes Go.ChangeAt Go.RowKit
set_option linter.unusedVariables false
set_option maxRecDepth 4000

/-- What a net's table's call answers: nil for what is no net, else the rows. -/
def NetAns (w : World) (n : Int) (ss : List Str) (e : Ending) (w' : World) : Prop :=
  (vnet n ss = false ∧ e = .returned (.slice none 0 0) ∧ Below w.heap.size w w') ∨ (vnet n ss = true ∧ NTab w n.toNat (sht n.toNat ss) e w')
theorem vnet_nat {n : Int} {ss : List Str} (h : vnet n ss = true) : ∃ k : Nat, n = k ∧ 1 ≤ k ∧ k ≤ 7 := by
  obtain ⟨h1, -⟩ := (vnet_iff n ss).1 h
  exact ⟨n.toNat, by omega, by omega, by omega⟩
/-- Without streets. -/
theorem vnet_empty {n : Int} {ss : List Str} (h : vnet n ss = true) : vnet n [] = true := by
  obtain ⟨h1, -⟩ := (vnet_iff n ss).1 h
  exact (vnet_iff _ _).2 ⟨h1, by simp, fun p hp => by cases hp⟩
theorem sht_empty {n : Nat} (hv : vnet n [] = true) {a b : Nat} (ha : a < n) (hb : b < n) : sht n [] a b = ownX a b := by
  refine (sht_is hv ⟨(rlx_start [] n).zero, fun a u v L _ he => ?_, (rlx_start [] n).way⟩ ha hb).symm
  obtain ⟨p, hp, _⟩ := he
  cases hp
theorem fwM_col {X : Nat → Nat → Int} {m a b : Nat} (h0 : X m m = 0) : fwM X m a b a m = X a m := by
  unfold fwM; split
  · exact fw_col h0 a
  · rfl
theorem fwM_row {X : Nat → Nat → Int} {m a b j : Nat} (h0 : X m m = 0) : fwM X m a b m j = X m j := by
  unfold fwM; split
  · exact fw_row h0 j
  · rfl
theorem fwM_at {X : Nat → Nat → Int} {m a b : Nat} : fwM X m a b a b = X a b := by
  unfold fwM; rw [if_neg (by omega)]
theorem fwM_next {X : Nat → Nat → Int} {m a b : Nat} {v : Int} (h : fwX X m a b = v) (i j : Nat) : up2 (fwM X m a b) a b v i j = fwM X m a (b + 1) i j := by
  unfold up2 fwM
  by_cases e : i = a ∧ j = b
  · obtain ⟨rfl, rfl⟩ := e
    rw [if_pos ⟨rfl, rfl⟩, if_pos (by omega), h]
  · rw [if_neg e]
    by_cases h1 : i < a ∨ (i = a ∧ j < b)
    · rw [if_pos h1, if_pos (by omega)]
    · rw [if_neg h1, if_neg (by omega)]
theorem fwM_same {X : Nat → Nat → Int} {m a b : Nat} (h : fwX X m a b = X a b) (i j : Nat) : fwM X m a b i j = fwM X m a (b + 1) i j := by
  unfold fwM
  by_cases h1 : i < a ∨ (i = a ∧ j < b)
  · rw [if_pos h1, if_pos (by omega)]
  · rw [if_neg h1]
    by_cases e : i = a ∧ j = b
    · obtain ⟨rfl, rfl⟩ := e
      rw [if_pos (by omega), h]
    · rw [if_neg (by omega)]
theorem fwM_line {X : Nat → Nat → Int} {n m a i j : Nat} (hj : j < n) : fwM X m a n i j = fwM X m (a + 1) 0 i j := by
  unfold fwM
  by_cases h1 : i < a ∨ (i = a ∧ j < n)
  · rw [if_pos h1, if_pos (by omega)]
  · rw [if_neg h1, if_neg (by omega)]
theorem fwM_zero {X : Nat → Nat → Int} {m i j : Nat} : fwM X m 0 0 i j = X i j := by
  unfold fwM; rw [if_neg (by omega)]
theorem fwM_end {X : Nat → Nat → Int} {n m i j : Nat} (hi : i < n) : fwM X m n 0 i j = fwX X m i j := by
  unfold fwM; rw [if_pos (by omega)]
theorem fwX_yes {X : Nat → Nat → Int} {m a b : Nat} {x y z : Int} (h1 : X a m = x) (h2 : X m b = y) (h3 : X a b = z) (hx : 0 ≤ x) (hy : 0 ≤ y) (hz : z < 0 ∨ x + y < z) : fwX X m a b = x + y := by
  unfold fwX; rw [h1, h2, h3, if_pos ⟨hx, hy, hz⟩]
theorem fwX_no {X : Nat → Nat → Int} {m a b : Nat} {x y z : Int} (h1 : X a m = x) (h2 : X m b = y) (h3 : X a b = z) (h : ¬ (0 ≤ x ∧ 0 ≤ y ∧ (z < 0 ∨ x + y < z))) : fwX X m a b = X a b := by
  unfold fwX; rw [h1, h2, h3, if_neg h]
/-- A table in memory. -/
structure TabX (w wr : World) (n g cA : Nat) (VR : Nat → Value) (X : Nat → Nat → Int) : Prop where
  out : Outer wr w.heap.size n (.slice (some ⟨g, 0, none⟩) n cA) VR
  row : TT wr w.heap.size n VR (rowX X n)
  bel : Below w.heap.size w wr
theorem TabX.congr {w wr : World} {n g cA : Nat} {VR : Nat → Value} {X Y : Nat → Nat → Int} (h : TabX w wr n g cA VR X) (he : ∀ i j, i < n → j < n → X i j = Y i j) : TabX w wr n g cA VR Y :=
  ⟨h.out, h.row.congr fun i hi => rowX_congr fun j hj => he i j hi hj, h.bel⟩
theorem TabX.drewN {w wr : World} {n g cA : Nat} {VR : Nat → Value} {X : Nat → Nat → Int} (h : TabX w wr n g cA VR X) (q : Nat) : TabX w (wr.drewN q) n g cA VR X :=
  ⟨h.out.drewN q, h.row.drewN q, below_drewN h.bel q⟩
theorem TabX.set {w wr : World} {n g cA a b gr cr : Nat} {VR : Nat → Value} {X : Nat → Nat → Int} (v : Int) (h : TabX w wr n g cA VR X) (ha : a < n) (hb : b < n) (he : VR a = .slice (some ⟨gr, 0, none⟩) n cr) :
    TabX w (wr.setCell ⟨gr, b, none⟩ (.int .i64 v)) n g cA VR (up2 X a b v) := by
  obtain ⟨h1, h2, h3⟩ := tab_set v h.out h.row ha hb he
  exact ⟨h1, h2, h.bel.setCell (p := ⟨gr, b, none⟩) h3 _⟩
theorem TabX.cells {w wr : World} {n g cA a b : Nat} {VR : Nat → Value} {X : Nat → Nat → Int} (h : TabX w wr n g cA VR X) (ha : a < n) (hb : b < n) :
    ∃ gr cr, VR a = .slice (some ⟨gr, 0, none⟩) n cr ∧ wr.cell? ⟨g, a, none⟩ = some (.slice (some ⟨gr, 0, none⟩) n cr) ∧ wr.cell? ⟨gr, b, none⟩ = some (.int .i64 (X a b)) ∧ wr.frozen? ⟨gr, b, none⟩ = false := tab_cells h.out h.row ha hb
theorem TabX.cell {w wr : World} {n g cA a b gr cr : Nat} {VR : Nat → Value} {X : Nat → Nat → Int} (h : TabX w wr n g cA VR X) (ha : a < n) (hb : b < n) (he : VR a = .slice (some ⟨gr, 0, none⟩) n cr) :
    wr.cell? ⟨g, a, none⟩ = some (.slice (some ⟨gr, 0, none⟩) n cr) ∧ wr.cell? ⟨gr, b, none⟩ = some (.int .i64 (X a b)) ∧ wr.frozen? ⟨gr, b, none⟩ = false := by
  obtain ⟨gr', cr', e, h1, h2, h3⟩ := h.cells ha hb
  have e2 := he.symm.trans e
  injection e2 with e3 _ e5
  injection e3 with e3
  injection e3 with e3
  subst e3 e5
  exact ⟨h1, h2, h3⟩
theorem TabX.rowAt {w wr : World} {n g cA a : Nat} {VR : Nat → Value} {X : Nat → Nat → Int} (h : TabX w wr n g cA VR X) (ha : a < n) : ∃ gr cr, VR a = .slice (some ⟨gr, 0, none⟩) n cr := by
  obtain ⟨gr, cr, e, _⟩ := h.cells ha ha
  exact ⟨gr, cr, e⟩
end Go.Proofs.Ytkgomgfhhhdnjaa
namespace Go.Proofs.Ytkgomgfhhhdnjaa
open Go.ChangeShapes Go.WideShapes Go.ChangeAt Go.RowKit
set_option linter.unusedVariables false
set_option maxRecDepth 4000

def RowsG (X : Nat → Nat → Int) (w : World) (n : Nat) (v i : Value) (wr : World) : Prop :=
  ∃ m : Nat, ∃ VR g cA, m ≤ n ∧ i = .int .i64 m ∧ v = .slice (some ⟨g, 0, none⟩) m cA ∧ Outer wr w.heap.size m v VR ∧ TT wr w.heap.size m VR (rowX X n) ∧ Below w.heap.size w wr
def RowRG (X : Nat → Nat → Int) (w : World) (n m : Nat) (r k : Value) (wr : World) : Prop :=
  ∃ j : Nat, j ≤ n ∧ k = .int .i64 j ∧ wr.ownsRow w.heap.size 3 1 r j ((rowX X j m).map (Value.int .i64)) ∧ Below w.heap.size w wr
set_option maxHeartbeats 1600000 in
theorem gridTable_any (w : World) (u h n : Nat) (hw1 : 1 ≤ u) (hw : u ≤ 10) (hn : u * h = n) (hn10 : n ≤ 10) (hn1 : 1 ≤ n) :
    Calls Try.prog 55 #[.int .i64 u, .int .i64 h] w (NTab w n (stG u)) := by
  obtain ⟨ii, hii, hzi0, hzi1, hzi2⟩ := info_parts intInfo
  obtain ⟨is, his, hzs0, hzs1, hzs2⟩ := info_parts slInfo2
  have hm : (u : Int) * (h : Int) = (n : Int) := by rw [← hn, Int.natCast_mul]
  have HST := Lib.hid (fun (a b : Nat) (V : World) (ha : a < n) (hb : b < n) => sSteps_any u a b V hw1 hw (by omega) (by omega))
  have hb0 := (Below.refl w.heap.size w).alloc (Nat.le_refl _) (.cells #[] 25)
  have ho0 : Outer (w.alloc (.cells #[] 25)) w.heap.size 0 (.slice (some ⟨w.heap.size, 0, none⟩) 0 0) (fun _ => .nilIface) := World.ownsRow_lit w #[] 0 (Nat.le_refl _) (by decide) rfl
  have ht0 : TT (w.alloc (.cells #[] 25)) w.heap.size 0 (fun _ => .nilIface) (rowX (stG u) n) := ⟨fun j hj => by omega, fun i j g hi => by omega⟩
  have HB0 := Lib.hid hb0
  have HO0 := Lib.hid ho0
  have HT0 := Lib.hid ht0
  clear hb0 ho0 ht0 hn
  go_enter Try.func55, Try.ntmps55
  go_wp2
  go_loopw [5, 6] (fun v i wr => RowsG (stG u) w n v i wr) (fun _ i _ => n - (intOf i).toNat)
  case atStart => exact ⟨0, _, _, _, Nat.zero_le _, rfl, rfl, HO0.out, HT0.out, HB0.out⟩
  case round =>
    clear HO0 HT0 HB0
    obtain ⟨a, VR, g, cA, ha, rfl, rfl, ho, hT, hnx⟩ := hrel
    by_cases hlt : a < n
    · have HO := Lib.hid ho
      have HT := Lib.hid hT
      have HB := Lib.hid hnx
      have HR0 := Lib.hid (show (wr.alloc (.cells #[] 3)).ownsRow wr.heap.size 3 1 (.slice (some ⟨wr.heap.size, 0, none⟩) 0 0) 0 [] from World.ownsRow_lit wr #[] 0 (Nat.le_refl _) (by decide) rfl)
      have HB1 := Lib.hid ((Below.refl wr.heap.size wr).alloc (Nat.le_refl _) (.cells #[] 3))
      clear ho hT hnx
      obtain ⟨W, HW⟩ : ∃ W, Hid (wr = W) := ⟨_, rfl⟩
      go_wp2
      go_loopw [7, 8] (fun r k wi => RowRG (stG u) W n a r k wi) (fun _ k _ => n - (intOf k).toNat)
      case atStart =>
        have := HW.out
        subst this
        exact ⟨0, Nat.zero_le _, rfl, by simpa [rowX] using HR0.out, HB1.out⟩
      case round =>
        clear HR0 HB1
        obtain ⟨j, hj, rfl, hown, hnx⟩ := hrel
        by_cases hjn : j < n
        · have hs1 : j + 1 ≤ maxLen := by unfold maxLen; omega
          have hs2 : (j + 1) * 8 ≤ 140737488355328 := by omega
          have Hown := Lib.hid hown
          have Hnx := Lib.hid hnx
          clear hown hnx
          go_wp2_with fail
          refine (HST.out a j _ hlt hjn).mono ?_
          rintro e w2 ⟨rfl, q, rfl⟩
          have Hown2 : Hid ((wr.drewN q).ownsRow W.heap.size 3 1 _ j ((rowX (stG u) j a).map (Value.int .i64))) := Hown.out
          have Hnx2 := Lib.hid (below_drewN Hnx.out q)
          have hx : Hid (stG u a j = ((stN u a j : Nat) : Int)) := rfl
          obtain ⟨s, Hs⟩ : ∃ s, Hid (stN u a j = s) := ⟨_, rfl⟩
          rw [Hs.out] at hx ⊢
          have hs3 : ∀ o, W.heap.size ≤ ((wr.drewN q).alloc o).heap.size := fun o => by rw [size_alloc1]; have := Hnx2.out.size; omega
          have Hs3 := Lib.hid hs3
          clear hs3
          go_wp2_with (at_builtin; refine wpList_append_own _ rfl _ _ 25 rfl W.heap.size 3 ii _ 1 8 Try.underlying25 hii hzi0 hzi1 hzi2 rfl (by decide) _ _ _ rfl (Hown2.out.alloc _) ⟨_, 0, none⟩ 1 1 [.int .i64 s] rfl rfl (cell_one_new _ _ _) (by intro u hu; simp at hu; subst hu; rfl) hs1 hs2 (Hs3.out _) ?_; intro v' w3 hown' hgrow _)
          have hb3 : Below W.heap.size W w3 := (Hnx2.out.alloc Hnx2.out.size _).grown hgrow (Hs3.out _) (fun g h => (Hown2.out.lt g h).1)
          have Hown' := Lib.hid hown'
          have Hb3 := Lib.hid hb3
          clear hown' hgrow hb3
          go_wp2
          go_roundw
          case rel => exact ⟨j + 1, by omega, by go_num, by rw [rowX_step, hx.out]; simpa using Hown'.out, Hb3.out⟩
          case measure => simp [intOf]; omega
        · obtain rfl : j = n := by omega
          have e := HW.out
          subst e
          obtain ⟨Ar, cr, rfl, -, -, hA⟩ := own_sliceN hown
          obtain ⟨gr, rfl, -, -⟩ := hA (by omega)
          have hT2 := (HT.out.addRow HB.out.size hnx (rowX_len _ _ _) hown).congr (ls' := rowX (stG u) j) (fun i hi => by
            by_cases e : i = a
            · subst e; rw [upd_at]
            · rw [upd_other _ _ e])
          have ho2 := ownN_below HO.out hnx
          have hb2 := HB.out.trans (hnx.mono HB.out.size)
          have HT2 := Lib.hid hT2
          have HO2 := Lib.hid ho2
          have HB2 := Lib.hid hb2
          clear hT2 ho2 hb2 hown hnx hA HW
          have hs1 : a + 1 ≤ maxLen := by unfold maxLen; omega
          have hs2 : (a + 1) * 24 ≤ 140737488355328 := by omega
          have hs3 : ∀ o, w.heap.size ≤ (wr.alloc o).heap.size := fun o => by rw [size_alloc1]; have := HB2.out.size; omega
          have Hs3 := Lib.hid hs3
          clear hs3
          go_wp2_with (at_builtin; refine wpList_append_lies _ rfl _ _ 64 rfl w.heap.size 25 is _ 1 24 Try.underlying64 his hzs0 hzs1 hzs2 rfl (by decide) _ _ _ rfl (World.ownsRow.alloc HO2.out _) ⟨_, 0, none⟩ 1 1 [.slice (some ⟨gr, 0, none⟩) j cr] rfl rfl (cell_one_new _ _ _) (by intro u hu; simp at hu; subst hu; rfl) (by decide) hs1 hs2 (Hs3.out _) _ rfl ?_; intro g3 c3 w3 hown3 hgrow3 hat3 hlt3)
          obtain ⟨ho3, hT3, hb3⟩ := tabX_end HT2.out HO2.out HB2.out hown3 hgrow3 (by rw [size_alloc1])
          have HT3 := Lib.hid hT3
          have HO3 := Lib.hid ho3
          have HB3 := Lib.hid hb3
          clear hown3 hgrow3 hat3 hlt3 hT3 ho3 hb3
          go_wp2
          go_roundw
          case rel => exact ⟨a + 1, _, _, _, by omega, by go_num, rfl, HO3.out, HT3.out, HB3.out⟩
          case measure => simp [intOf]; omega
    · obtain rfl : n = a := by omega
      have HO1 := Lib.hid ho
      have HT1 := Lib.hid hT
      have HB1 := Lib.hid hnx
      clear ho hT hnx
      go_wp2
      go_ret
      exact ⟨_, VR, rfl, HO1.out, HT1.out, HB1.out⟩
set_option maxHeartbeats 800000 in
theorem sGridApart_ok : GNum 27 gpk := by
  intro w h far W
  have HV := Lib.hid (sValid_any w h W)
  by_cases hg : gok w h
  · rw [decide_eq_true hg] at HV
    obtain ⟨a, b, rfl, rfl, g⟩ := gok_nat hg
    by_cases hf : 0 ≤ far ∧ far ≤ 50
    · have HF := Lib.hid (inRange_yes far 0 50 W hf.1 hf.2)
      have Hs := Lib.hid (gpk_yes g hf.1 hf.2)
      obtain ⟨n, Hn⟩ : ∃ n, Hid (a * b = n) := ⟨_, rfl⟩
      have hn10 := g.n10
      have hn1 := g.n1
      rw [Hn.out] at hn10 hn1 Hs
      have HT := Lib.hid (gridTable_any W a b n g.w1 (by have := g.w5; omega) Hn.out hn10 hn1)
      clear hg hf g
      go_enter Try.func27, Try.ntmps27
      go_wp2_with fail
      refine HV.out.mono ?_
      rintro e w' ⟨rfl, rfl⟩
      go_wp2_with fail
      refine HF.out.mono ?_
      rintro e w' ⟨rfl, rfl⟩
      go_wp2_with fail
      refine HT.out.mono ?_
      rintro e w1 ⟨v, VR, rfl, hO, hT, hB⟩
      obtain ⟨Ag, cg, rfl, -, -, hA⟩ := own_sliceN hO
      obtain ⟨g, rfl, -, -⟩ := hA (by omega)
      have HP := Lib.hid (packX_anyT w1 W.heap.size n g cg far VR (stG a) hn1 hn10 hO hT)
      have HB := Lib.hid hB
      clear hO hT hB hA
      go_wp2_with fail
      refine HP.out.mono ?_
      rintro e w2 ⟨rfl, rfl⟩
      go_wp2
      go_ret
      exact ⟨ret_int Hs.out.symm, HB.out⟩
    · have HF := Lib.hid (inRange_no far 0 50 W (by omega))
      have Hs := Lib.hid (gpk_no (w := a) (h := b) (far := far) (.inr (by omega)))
      clear hg hf g
      go_enter Try.func27, Try.ntmps27
      go_wp2_with fail
      refine HV.out.mono ?_
      rintro e w' ⟨rfl, rfl⟩
      go_wp2_with fail
      refine HF.out.mono ?_
      rintro e w' ⟨rfl, rfl⟩
      go_wp2
      go_ret
      exact ⟨ret_int Hs.out.symm, Below.refl _ _⟩
  · rw [decide_eq_false hg] at HV
    have Hs := Lib.hid (gpk_no (far := far) (.inl hg))
    clear hg
    go_enter Try.func27, Try.ntmps27
    go_wp2_with fail
    refine HV.out.mono ?_
    rintro e w' ⟨rfl, rfl⟩
    go_wp2
    go_ret
    exact ⟨ret_int Hs.out.symm, Below.refl _ _⟩
end Go.Proofs.Ytkgomgfhhhdnjaa
namespace Go.Proofs.Ytkgomgfhhhdnjaa
open Go.ChangeShapes Go.WideShapes Go.ChangeAt Go.RowKit
set_option linter.unusedVariables false

/-- So many cells are near all that have none. -/
def CovBy (d : Nat → Nat → Int) (far : Int) (n : Nat) (has : Nat → Bool) (k : Nat) : Prop := ∃ P : List Nat, P.length = k ∧ (∀ i ∈ P, i < n) ∧ ∀ v, v < n → has v = false → ∃ i ∈ P, d v i ≤ far
/-- What a search with a bound answers: the fewest, or one more than the bound. -/
structure IsCF (d : Nat → Nat → Int) (far : Int) (n : Nat) (has : Nat → Bool) (best r : Nat) : Prop where
  le : r ≤ best + 1
  is : r ≤ best → CovBy d far n has r
  least : ∀ k, CovBy d far n has k → r ≤ k
/-- Those that have one, with one more cell. -/
def orN (d : Nat → Nat → Int) (far : Int) (has : Nat → Bool) (c : Nat) : Nat → Bool := fun i => has i || decide (d c i ≤ far)
theorem cf_all {d : Nat → Nat → Int} {far : Int} {n : Nat} {has : Nat → Bool} (best : Nat) (h : ∀ v, v < n → has v = true) : IsCF d far n has best 0 :=
  ⟨by omega, fun _ => ⟨[], rfl, fun i hi => (by cases hi), fun v hv hf => (by rw [h v hv] at hf; cases hf)⟩, fun k _ => Nat.zero_le _⟩
theorem cf_zero {d : Nat → Nat → Int} {far : Int} {n at0 : Nat} {has : Nat → Bool} (ha : at0 < n) (hf : has at0 = false) : IsCF d far n has 0 1 :=
  ⟨by omega, fun h => by omega, fun k ⟨P, hl, _, hc⟩ => by
    obtain ⟨i, hi, _⟩ := hc at0 ha hf
    cases P with
    | nil => cases hi
    | cons _ _ => simp at hl; omega⟩
/-- The search while the cells below c are tried. -/
structure CFs (d : Nat → Nat → Int) (far : Int) (n : Nat) (has : Nat → Bool) (best at0 c r : Nat) : Prop where
  pos : 1 ≤ r
  le : r ≤ best + 1
  is : r ≤ best → CovBy d far n has r
  least : ∀ i, i < c → d at0 i ≤ far → ∀ k, CovBy d far n (orN d far has i) k → r ≤ 1 + k
theorem CFs.start {d : Nat → Nat → Int} {far : Int} {n : Nat} {has : Nat → Bool} (best at0 : Nat) : CFs d far n has best at0 0 (best + 1) := ⟨by omega, by omega, fun h => by omega, fun i hi => by omega⟩
theorem CFs.skip {d : Nat → Nat → Int} {far : Int} {n : Nat} {has : Nat → Bool} {best at0 c r : Nat} (h : CFs d far n has best at0 c r) (hs : far < d at0 c) : CFs d far n has best at0 (c + 1) r :=
  ⟨h.pos, h.le, h.is, fun i hi hd k hk => by
    by_cases e : i = c
    · subst e; omega
    · exact h.least i (by omega) hd k hk⟩
theorem CFs.step {d : Nat → Nat → Int} {far : Int} {n : Nat} {has : Nat → Bool} {best at0 c r s : Nat} (hsym : ∀ a b, d a b = d b a) (hc : c < n) (hb : 1 ≤ best) (h : CFs d far n has best at0 c r) (hs : IsCF d far n (orN d far has c) (min best r - 1) s) : CFs d far n has best at0 (c + 1) (min r (1 + s)) := by
  have h1 := h.pos
  have h2 := h.le
  have h3 := hs.le
  refine ⟨by omega, by omega, fun hle => ?_, fun i hi hd k hk => ?_⟩
  · by_cases e : r ≤ 1 + s
    · rw [Nat.min_eq_left e] at hle ⊢; exact h.is hle
    · rw [Nat.min_eq_right (by omega)] at hle ⊢
      obtain ⟨P, hl, hP, hcov⟩ := hs.is (by omega)
      refine ⟨c :: P, by rw [List.length_cons, hl]; omega, fun i hi => ?_, fun v hv hf => ?_⟩
      · rcases List.mem_cons.1 hi with rfl | hi
        · exact hc
        · exact hP i hi
      · by_cases hn : d c v ≤ far
        · exact ⟨c, by simp, by rw [hsym]; exact hn⟩
        · obtain ⟨i, hi, hd⟩ := hcov v hv (by unfold orN; rw [hf, decide_eq_false hn]; rfl)
          exact ⟨i, by simp [hi], hd⟩
  · by_cases e : i = c
    · subst e
      have := hs.least k hk
      omega
    · have := h.least i (by omega) hd k hk
      omega
theorem CFs.done {d : Nat → Nat → Int} {far : Int} {n : Nat} {has : Nat → Bool} {best at0 r : Nat} (hsym : ∀ a b, d a b = d b a) (ha : at0 < n) (hf : has at0 = false) (h : CFs d far n has best at0 n r) : IsCF d far n has best r :=
  ⟨h.le, h.is, fun k ⟨P, hl, hP, hcov⟩ => by
    obtain ⟨i, hi, hd⟩ := hcov at0 ha hf
    have hlen := List.length_erase_of_mem hi
    have hpos : 1 ≤ P.length := List.length_pos_of_mem hi
    have := h.least i (hP i hi) hd (k - 1) ⟨P.erase i, by rw [hlen, hl], fun j hj => hP j (List.mem_of_mem_erase hj), fun v hv hv2 => by
      unfold orN at hv2
      rw [Bool.or_eq_false_iff, decide_eq_false_iff_not] at hv2
      obtain ⟨j, hj, hjd⟩ := hcov v hv hv2.1
      have hne : j ≠ i := fun e => hv2.2 (by rw [hsym, ← e]; exact hjd)
      exact ⟨j, (List.mem_erase_of_ne hne).2 hj, hjd⟩⟩
    omega⟩
/-- The whole search: the fewest cells near all. -/
theorem cf_few {d : Nat → Nat → Int} {far : Int} {n r : Nat} (h0 : ∀ a, a < n → d a a = 0) (hp : ∀ a b, 0 ≤ d a b) (hf : 0 ≤ far) (h : IsCF d far n (fun _ => false) n r) : FewG d far n r := by
  have hall : CovBy d far n (fun _ => false) n := ⟨List.range n, List.length_range, fun i hi => List.mem_range.1 hi, fun v hv _ => ⟨v, List.mem_range.2 hv, by rw [h0 v hv]; exact hf⟩⟩
  have hrn := h.least n hall
  obtain ⟨P, hl, hP, hc⟩ := h.is hrn
  refine ⟨⟨P, ⟨hP, fun v hv => ?_⟩, hl⟩, fun Q hQ => h.least Q.length ⟨Q, rfl, hQ.1, fun v hv _ => ?_⟩⟩
  · obtain ⟨i, hi, hd⟩ := hc v hv rfl
    exact ⟨i, hi, hp v i, hd⟩
  · obtain ⟨i, hi, _, hd⟩ := hQ.2 v hv
    exact ⟨i, hi, hd⟩
end Go.Proofs.Ytkgomgfhhhdnjaa
