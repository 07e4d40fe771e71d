/-
  LeastBlock of the model, walked: the least over all sets of helpers.
  Conditions: fewer than 2^60 numbers and calls.
-/
import Derived.Test.YtakljcpneghgnaaV6
import Derived.Test.YtakljcpneghgnaaW2
import Derived.Test.YtakljcpneghgnaaPW
namespace Go.Proofs.Ytakljcpneghgnaa
open Go.ChangeShapes Go.WideShapes Go.ChangeAt Go.RowKit
set_option linter.unusedVariables false
set_option maxRecDepth 4000

/-- Whether one of the first k helpers of a list is not in the set. -/
def oK (T : Nat) (l : List Int) : Nat → Bool
  | 0 => false
  | k + 1 => oK T l k || !(T.testBit (l.getD k 0).toNat)
def oW (wish : List (List Int)) (T i : Nat) : Bool := oK T (wish.getD i []) (wish.getD i []).length
/-- Who may take a call. -/
def mayW (wish : List (List Int)) (i h : Nat) : Prop := ∃ k, k < (wish.getD i []).length ∧ (wish.getD i []).getD k 0 = (h : Int)
def rR (room : List Int) (h : Nat) : Int := room.getD h 0
theorem oK_iff {T : Nat} {l : List Int} : ∀ k, oK T l k = true ↔ ∃ j, j < k ∧ ¬ T.testBit (l.getD j 0).toNat = true
  | 0 => by simp [oK]
  | k + 1 => by
    simp only [oK, Bool.or_eq_true, oK_iff k]
    constructor
    · rintro (⟨j, h1, h2⟩ | h)
      · exact ⟨j, by omega, h2⟩
      · exact ⟨k, by omega, by simpa using h⟩
    · rintro ⟨j, h1, h2⟩
      by_cases e : j = k
      · subst e; exact .inr (by simpa using h2)
      · exact .inl ⟨j, by omega, h2⟩
theorem oW_iff {room : List Int} {wish : List (List Int)} (hv : vroom room wish = true) (T i : Nat) (hi : i < wish.length) : oW wish T i = true ↔ Outw (mayW wish) T i := by
  unfold oW Outw mayW
  have ha := ((vroom_iff _ _).1 hv).2.2.2 i hi
  rw [oK_iff]
  constructor
  · rintro ⟨j, h1, h2⟩
    have := ha j h1
    exact ⟨_, ⟨j, h1, by omega⟩, h2⟩
  · rintro ⟨h, ⟨j, h1, h2⟩, h3⟩
    refine ⟨j, h1, ?_⟩
    rw [h2]
    have : ((h : Nat) : Int).toNat = h := by omega
    rw [this]; exact h3
theorem mayW_lt {room : List Int} {wish : List (List Int)} (hv : vroom room wish = true) (i h : Nat) (hi : i < wish.length) (hm : mayW wish i h) : h < room.length := by
  obtain ⟨j, h1, h2⟩ := hm
  have := ((vroom_iff _ _).1 hv).2.2.2 i hi j h1
  rw [h2] at this; omega
/-- LeastBlock's answer, and MostTaken's. -/
def blv (room : List Int) (wish : List (List Int)) : Int := if vroom room wish = true then lbk (rR room) (oW wish) room.length wish.length (2 ^ room.length) else -1
theorem rsm_bd {room : List Int} (T : Nat) : ∀ H, (∀ h, h < H → 0 ≤ rR room h ∧ rR room h ≤ 7) → 0 ≤ rsm (rR room) T H ∧ rsm (rR room) T H ≤ 7 * (H : Int)
  | 0, _ => by simp [rsm]
  | h + 1, hr => by
    have h1 := rsm_bd (room := room) T h fun i hi => hr i (by omega)
    have h2 := hr h (by omega)
    simp only [rsm]
    split <;> omega
theorem lbk_bd {R : Nat → Int} {o : Nat → Nat → Bool} {H n : Nat} (hr : ∀ T, 0 ≤ rsm R T H) : ∀ S, 0 ≤ lbk R o H n S ∧ lbk R o H n S ≤ n
  | 0 => by simp only [lbk]; omega
  | S + 1 => by
    have := lbk_bd (R := R) (o := o) (H := H) (n := n) hr S
    have := hr S
    simp only [lbk]; omega

set_option maxHeartbeats 1600000 in
theorem sLeastBlock_any (A A' : Option Addr) (c c' H n : Nat) (room : List Int) (wish : List (List Int)) (w : World) (B : Nat) (hr : RdI w B A room) (hH : room.length = H) (hw : RdV w B A' wish) (hn : wish.length = n) (hb : H ≤ 1152921504606846976) (hb2 : n ≤ 1152921504606846976) :
    Calls Try.prog 25 #[.slice A H c, .slice A' n c'] w fun e w' => e = .returned (.int .i64 (blv room wish)) ∧ ∃ q, w' = w.drewN q := by
  have H1 := Lib.hid (sRoom_in A A' c c' H n room wish w B hr hH hw hn hb hb2)
  by_cases hv : vroom room wish = true
  · obtain ⟨h4, h7, hR, hW⟩ := (vroom_iff _ _).1 hv
    rw [hH] at h4 hR hW
    rw [hn] at h7 hW
    have hRb : ∀ h, h < H → 0 ≤ rR room h ∧ rR room h ≤ 7 := fun h hh => hR h hh
    have Hs : Hid (blv room wish = lbk (rR room) (oW wish) H n (2 ^ H)) := by show _ = _; unfold blv; rw [if_pos hv, hH, hn]
    have HRb := Lib.hid hRb
    have HWl := Lib.hid hW
    have HH := Lib.hid hH
    have Hn := Lib.hid hn
    rw [hv] at H1
    have HPW := Lib.hid (fun W => power_any H W (by omega))
    have hP : 2 ^ H ≤ 16 := Nat.pow_le_pow_right (show 2 > 0 by omega) h4
    obtain ⟨P, HP⟩ : ∃ P : Nat, Hid (2 ^ H = P) := ⟨_, rfl⟩
    rw [HP.out] at HPW hP Hs
    clear hH hn hR hRb hW hv
    go_enter Try.func25, Try.ntmps25
    go_wp2_with fail
    refine H1.out.mono ?_
    rintro e w1 ⟨rfl, q1, rfl⟩
    have Hrs : Hid (∀ S k, k ≤ H → 0 ≤ rsm (rR room) S k ∧ rsm (rR room) S k ≤ 7 * (k : Int)) := fun S k hk => rsm_bd S k fun h hh => HRb.out h (by omega)
    have Hlb : Hid (∀ S, 0 ≤ lbk (rR room) (oW wish) H n S ∧ lbk (rR room) (oW wish) H n S ≤ n) := fun S => lbk_bd (fun T => (Hrs.out T H (Nat.le_refl _)).1) S
    go_wp2
    go_loopw [5, 6] (fun b s wr => ∃ S q : Nat, S ≤ P ∧ s = .int .i64 S ∧ b = .int .i64 (lbk (rR room) (oW wish) H n S) ∧ wr = w.drewN q) (fun _ s _ => P - (intOf s).toNat)
    case atStart => exact ⟨0, _, Nat.zero_le _, rfl, rfl, rfl⟩
    case round =>
      obtain ⟨S, q, hSP, rfl, rfl, rfl⟩ := hrel
      have hL := Hlb.out S
      obtain ⟨F, HF⟩ : ∃ F, Hid (lbk (rR room) (oW wish) H n S = F) := ⟨_, rfl⟩
      rw [HF.out] at hL ⊢
      by_cases hlt : S < P
      · go_wp2_with fail
        refine (HPW.out _).mono ?_
        rintro e w' ⟨rfl, rfl⟩
        go_wp2
        go_loopw [7, 8] (fun a h wr => ∃ k q : Nat, k ≤ H ∧ h = .int .i64 k ∧ a = .int .i64 (rsm (rR room) S k) ∧ wr = w.drewN q) (fun _ h _ => H - (intOf h).toNat)
        case atStart => exact ⟨0, q, Nat.zero_le _, rfl, rfl, rfl⟩
        case round =>
          obtain ⟨k, q, hk, rfl, rfl, rfl⟩ := hrel
          have hrs := Hrs.out S k hk
          obtain ⟨a, Ha⟩ : ∃ a, Hid (rsm (rR room) S k = a) := ⟨_, rfl⟩
          rw [Ha.out] at hrs ⊢
          by_cases hlk : k < H
          · obtain ⟨b, off, x, rfl, -, Hx, hcx⟩ := hr.x (k := k) (by rw [HH.out]; exact hlk)
            have hxb := HRb.out k hlk
            have hxe : rR room k = x := Hx.out
            rw [hxe] at hxb
            by_cases hbit : S.testBit k = true
            · have Hb := Lib.hid (fun W => bit_is S k W (by omega) (by omega) (z := 1) (if_pos hbit))
              have Hn2 : Hid (rsm (rR room) S (k + 1) = a + x) := by show _ = _; simp only [rsm]; rw [if_pos hbit, Ha.out, hxe]
              have w1 : IntKind.i64.wrap (1 * x) = x := by rw [Int.one_mul]; exact IntWalk.i64_in _ (by omega)
              have w2 : IntKind.i64.wrap x = x := IntWalk.i64_in _ (by omega)
              have w3 : IntKind.i64.wrap (a + x) = a + x := IntWalk.i64_in _ (by omega)
              clear hbit hxe
              go_wp2
              go_quiet ((go_at_call 58; exact quiet_gen (Hb.out _) ⟨_, rfl⟩))
              go_wp2
              go_roundw
              case rel => exact ⟨k + 1, _, by omega, by go_num, by rw [Hn2.out], rfl⟩
              case measure => simp [intOf]; omega
            · have Hb := Lib.hid (fun W => bit_is S k W (by omega) (by omega) (z := 0) (if_neg hbit))
              have Hn2 : Hid (rsm (rR room) S (k + 1) = a) := by show _ = _; simp only [rsm]; rw [if_neg hbit, Ha.out]; omega
              have w1 : IntKind.i64.wrap (0 * x) = 0 := by rw [Int.zero_mul]; rfl
              have w3 : IntKind.i64.wrap a = a := IntWalk.i64_in _ (by omega)
              clear hbit hxe
              go_wp2
              go_quiet ((go_at_call 58; exact quiet_gen (Hb.out _) ⟨_, rfl⟩))
              go_wp2
              go_roundw
              case rel => exact ⟨k + 1, _, by omega, by go_num, by rw [Hn2.out], rfl⟩
              case measure => simp [intOf]; omega
          · obtain rfl : k = H := by omega
            have HA : Hid (rsm (rR room) S k = a) := Ha
            go_wp2
            go_loopw [7, 9] (fun a i wr => ∃ i' q : Nat, i' ≤ n ∧ i = .int .i64 i' ∧ a = .int .i64 (rsm (rR room) S k + (blk (oW wish S) i' : Nat)) ∧ wr = w.drewN q) (fun _ i _ => n - (intOf i).toNat)
            case atStart => exact ⟨0, _, Nat.zero_le _, rfl, by rw [HA.out]; simp [blk], rfl⟩
            case round =>
              obtain ⟨i, q, hi, rfl, rfl, rfl⟩ := hrel
              have hbl := blk_le (oW wish S) i
              obtain ⟨m, Hm⟩ : ∃ m, Hid (blk (oW wish S) i = m) := ⟨_, rfl⟩
              rw [Hm.out] at hbl ⊢
              rw [HA.out]
              by_cases hli : i < n
              · obtain ⟨bw, ow, al, ca, ls, rfl, hbw, Hl, hcl, hca, hcm, hrl⟩ := hw.x (k := i) (by rw [Hn.out]; exact hli)
                have HasL := HWl.out i hli
                rw [Hl.out] at HasL
                obtain ⟨t, Ht⟩ : ∃ t, Hid (ls.length = t) := ⟨_, rfl⟩
                rw [Ht.out] at hcl hca HasL
                have Has := Lib.hid HasL
                have ho : oW wish S i = oK S ls t := by unfold oW; rw [Hl.out, Ht.out]
                have Ho := Lib.hid ho
                clear ho HasL
                go_wp2
                go_loopw [10, 11] (fun o k' wr => ∃ j q : Nat, j ≤ t ∧ k' = .int .i64 j ∧ o = .bool (oK S ls j) ∧ wr = w.drewN q) (fun _ k' _ => t - (intOf k').toNat)
                case atStart => exact ⟨0, q, Nat.zero_le _, rfl, rfl, rfl⟩
                case round =>
                  obtain ⟨j, q, hj, rfl, rfl, rfl⟩ := hrel
                  obtain ⟨O, HO⟩ : ∃ O, Hid (oK S ls j = O) := ⟨_, rfl⟩
                  rw [HO.out]
                  by_cases hlj : j < t
                  · obtain ⟨b, off, x, rfl, -, Hx, hcx⟩ := hrl.x (k := j) (by rw [Ht.out]; exact hlj)
                    have hxa := Has.out j hlj
                    rw [Hx.out] at hxa
                    obtain ⟨y, rfl⟩ := Int.eq_ofNat_of_zero_le hxa.1
                    have hy : y < 7 := by omega
                    cases O with
                    | true =>
                      have Hn2 : Hid (oK S ls (j + 1) = true) := by show _ = _; simp only [oK]; rw [HO.out]; rfl
                      go_wp2
                      go_roundw
                      case rel => exact ⟨j + 1, _, by omega, by go_num, by rw [Hn2.out], rfl⟩
                      case measure => simp [intOf]; omega
                    | false =>
                      have hyn : ((y : Nat) : Int).toNat = y := by omega
                      by_cases hbit : S.testBit y = true
                      · have Hb := Lib.hid (fun W => bit_is S y W (by omega) hy (z := 1) (if_pos hbit))
                        have Hn2 : Hid (oK S ls (j + 1) = false) := by show _ = _; simp only [oK]; rw [HO.out, Hx.out, hyn, hbit]; rfl
                        clear hbit hyn
                        go_wp2_with fail
                        refine (Hb.out _).mono ?_
                        rintro e w' ⟨rfl, rfl⟩
                        go_wp2
                        go_roundw
                        case rel => exact ⟨j + 1, _, by omega, by go_num, by rw [Hn2.out], rfl⟩
                        case measure => simp [intOf]; omega
                      · have hbit2 : S.testBit y = false := by simpa using hbit
                        have Hb := Lib.hid (fun W => bit_is S y W (by omega) hy (z := 0) (if_neg hbit))
                        have Hn2 : Hid (oK S ls (j + 1) = true) := by show _ = _; simp only [oK]; rw [HO.out, Hx.out, hyn, hbit2]; rfl
                        clear hbit hbit2 hyn
                        go_wp2_with fail
                        refine (Hb.out _).mono ?_
                        rintro e w' ⟨rfl, rfl⟩
                        go_wp2
                        go_roundw
                        case rel => exact ⟨j + 1, _, by omega, by go_num, by rw [Hn2.out], rfl⟩
                        case measure => simp [intOf]; omega
                  · obtain rfl : j = t := by omega
                    have hoe : oW wish S i = O := Ho.out.trans HO.out
                    cases O with
                    | true =>
                      have Hn2 : Hid (blk (oW wish S) (i + 1) = m + 1) := by show _ = _; simp only [blk]; rw [if_pos hoe, Hm.out]
                      clear hoe
                      go_wp2
                      go_roundw
                      case rel => exact ⟨i + 1, _, by omega, by go_num, by rw [Hn2.out]; go_num, rfl⟩
                      case measure => simp [intOf]; omega
                    | false =>
                      have Hn2 : Hid (blk (oW wish S) (i + 1) = m) := by show _ = _; simp only [blk]; rw [if_neg (by rw [hoe]; decide), Hm.out]; rfl
                      clear hoe
                      go_wp2
                      go_roundw
                      case rel => exact ⟨i + 1, _, by omega, by go_num, by rw [Hn2.out], rfl⟩
                      case measure => simp [intOf]; omega
              · obtain rfl : i = n := by omega
                have Hn2 : Hid (lbk (rR room) (oW wish) k i (S + 1) = min F (a + (m : Nat))) := by show _ = _; simp only [lbk]; rw [HF.out, HA.out, Hm.out]
                by_cases hmn : F ≤ a + (m : Int)
                · have Hn3 : Hid (lbk (rR room) (oW wish) k i (S + 1) = F) := by show _ = _; rw [Hn2.out]; omega
                  go_wp2
                  go_roundw
                  case rel => exact ⟨S + 1, _, by omega, by go_num, by rw [Hn3.out], rfl⟩
                  case measure => simp [intOf]; omega
                · have hmn2 : a + (m : Int) < F := by omega
                  have Hn3 : Hid (lbk (rR room) (oW wish) k i (S + 1) = a + (m : Nat)) := by show _ = _; rw [Hn2.out]; omega
                  go_wp2
                  go_roundw
                  case rel => exact ⟨S + 1, _, by omega, by go_num, by rw [Hn3.out], rfl⟩
                  case measure => simp [intOf]; omega
      · obtain rfl : S = P := by omega
        have Hs2 := Lib.hid (Hs.out.trans HF.out)
        go_wp2_with fail
        refine (HPW.out _).mono ?_
        rintro e w' ⟨rfl, rfl⟩
        go_wp2
        go_ret
        exact ⟨ret_int Hs2.out.symm, _, rfl⟩
  · have hv' : vroom room wish = false := by simpa using hv
    have Hs : Hid (blv room wish = -1) := by show _ = _; unfold blv; rw [if_neg hv]
    rw [hv'] at H1
    clear hv hv' hH hn
    go_enter Try.func25, Try.ntmps25
    go_wp2_with fail
    refine H1.out.mono ?_
    rintro e w1 ⟨rfl, q1, rfl⟩
    go_wp2
    go_ret
    exact ⟨ret_int Hs.out.symm, q1, rfl⟩
end Go.Proofs.Ytakljcpneghgnaa
