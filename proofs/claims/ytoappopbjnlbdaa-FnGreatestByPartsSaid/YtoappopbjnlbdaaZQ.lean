/-
  FewestWards, LeastGreatest, GreatestByParts and GreatestLeast of the model.
  Conditions: fewer than 2^20 numbers.
-/
import Derived.Test.YtoappopbjnlbdaaZP
namespace Go.Proofs.Ytoappopbjnlbdaa
open Go.ChangeShapes Go.WideShapes Go.ChangeAt Go.RowKit
set_option linter.unusedVariables false
set_option maxRecDepth 4000

theorem quiet_drawnZ {P : Program} {f : FuncId} {args : Array Value} {w : World} {v : Value} {m : Nat}
    (h : Calls P f args (w.drewN m) fun e w' => e = .returned v ∧ ∃ q, w' = (w.drewN m).drewN q) : Calls P f args (w.drewN m) fun e w'' => e = .returned v ∧ ∃ m, w'' = w.drewN m :=
  h.mono fun _ _ ⟨he, q, hq⟩ => ⟨he, m + q, by rw [hq, World.drewN_drewN]⟩
theorem quiet_drawnZ' {P : Program} {f : FuncId} {args : Array Value} {w : World} {v : Value} {a m : Nat}
    (h : Calls P f args (w.drewN (a + m)) fun e w' => e = .returned v ∧ ∃ q, w' = (w.drewN (a + m)).drewN q) : Calls P f args (w.drewN (a + m)) fun e w'' => e = .returned v ∧ ∃ m, w'' = w.drewN (a + m) :=
  h.mono fun _ _ ⟨he, q, hq⟩ => ⟨he, m + q, by rw [hq, World.drewN_drewN, Nat.add_assoc]⟩
theorem rdI_dropZ {w : World} {B b off : Nat} {zs : List Int} (h : RdI w B (some ⟨b, off, none⟩) zs) (k : Nat) : RdI w B (some ⟨b, off + k, none⟩) (zs.drop k) := fun hp => by
  rw [List.length_drop] at hp
  obtain ⟨b', off', e, hb, hc⟩ := h (by omega)
  injection e with e
  injection e with e1 e2
  subst e1 e2
  refine ⟨b, off + k, rfl, hb, fun i hi => ?_⟩
  rw [List.length_drop] at hi
  rw [Nat.add_assoc, hc (k + i) (by omega)]
  simp [List.getD]
theorem bpV_bd {zs : List Int} (hz : P20 zs) (h1 : 1 ≤ zs.length) (h10 : zs.length ≤ 10) (k : Nat) : 0 ≤ bpV k zs ∧ bpV k zs ≤ 200 := by
  have h0 : Ge0 zs := fun x hx => (hz x hx).1
  have hne : zs ≠ [] := List.length_pos_iff.1 h1
  have hL := bpV_least k zs h0 hne
  have hs := hz.bd h10
  refine ⟨leK_pos h0 hne hL.1, ?_⟩
  have := hL.2 (sm zs) ⟨_, cut_whole hne, by simp, by simp⟩
  omega
theorem mlV_bd {zs : List Int} (hz : P20 zs) (k : Nat) (h1 : k + 1 ≤ zs.length) (h10 : zs.length ≤ 10) : 0 ≤ mlV k zs ∧ mlV k zs ≤ 200 := by
  have h0 : Ge0 zs := fun x hx => (hz x hx).1
  have hM := mlV_most k zs h0 h1
  have hs := hz.bd h10
  have hv := isMost_ge0 h0 hM
  refine ⟨hv, ?_⟩
  have := geK_total hM.1
  have h2 : (1 : Int) * mlV k zs ≤ ((k + 1 : Nat) : Int) * mlV k zs := Int.mul_le_mul_of_nonneg_right (by omega) hv
  omega

set_option maxHeartbeats 1600000 in
theorem byParts_any (k : Nat) : ∀ (A : Option Addr) (c n : Nat) (zs : List Int) (kI : Int) (w : World) (B : Nat) (hr : RdI w B A zs) (hn : zs.length = n) (hcap : n ≤ c) (hc63 : c ≤ 9223372036854775807) (h1 : 1 ≤ n) (h10 : n ≤ 10) (hz : P20 zs) (hk : kI = k + 1) (hk3 : k ≤ 3),
    Calls Try.prog 57 #[.slice A n c, .int .i64 kI] w fun e w' => e = .returned (.int .i64 (bpV k zs)) ∧ ∃ q, w' = w.drewN q := by
  induction k with
  | zero =>
    intro A c n zs kI w B hr hn hcap hc63 h1 h10 hz hk hk3
    have HT := Lib.hid (sTotal_any A c n zs w B hr hn h10 hz)
    have hkb : (kI == 1) = true := by rw [beq_iff_eq]; omega
    have Hk := Lib.hid hk
    clear hk hz hn hr
    go_enter Try.func57, Try.ntmps57
    go_wp2_with fail
    refine HT.out.mono ?_
    rintro e w' ⟨rfl, rfl⟩
    go_wp2
    go_ret
    exact ⟨rfl, 0, rfl⟩
  | succ k ih =>
    intro A c n zs kI w B hr hn hcap hc63 h1 h10 hz hk hk3
    have HT := Lib.hid (sTotal_any A c n zs w B hr hn h10 hz)
    have hkb : (kI == 1) = false := by rw [beq_eq_false_iff_ne]; omega
    obtain ⟨b, off, x0, rfl, hbw, _, _⟩ := hr.x (k := 0) (by omega)
    obtain ⟨g, Hg⟩ : ∃ g : Nat → Int, Hid (∀ i, max (bpV k (zs.take i)) (sm (zs.drop i)) = g i) := ⟨_, fun i => rfl⟩
    have HV : Hid (bpV (k + 1) zs = bpF g (sm zs) (n - 1)) := by
      show _ = _
      simp only [bpV]
      rw [hn]
      congr 1
      funext i
      exact Hg.out i
    have hsb := hz.bd (by omega)
    obtain ⟨t0, Ht0⟩ : ∃ t0, Hid (sm zs = t0) := ⟨_, rfl⟩
    rw [Ht0.out] at HT hsb HV
    have Hn := Lib.hid hn
    have Hz := Lib.hid hz
    have Hk := Lib.hid hk
    have IH := Lib.hid ih
    have hki : 2 ≤ kI ∧ kI ≤ 4 := by omega
    have hki1 := hki.1
    have hki2 := hki.2
    clear hki hk hz hn ih
    go_enter Try.func57, Try.ntmps57
    go_wp2_with fail
    refine HT.out.mono ?_
    rintro e w' ⟨rfl, rfl⟩
    go_wp2
    go_loopw [5, 6] (fun a i wr => ∃ j : Nat, ∃ t : Int, ∃ q, j + 1 ≤ n ∧ Hid (bpF g t0 j = t) ∧ 0 ≤ t ∧ t ≤ 200 ∧ a = .int .i64 t ∧ i = .int .i64 ((j + 1 : Nat) : Int) ∧ wr = w.drewN q) (fun _ i _ => n - (intOf i).toNat)
    case atStart => exact ⟨0, t0, 0, by omega, rfl, hsb.1, hsb.2, rfl, rfl, rfl⟩
    case round =>
      obtain ⟨j, t, q1, hj, Ht, ht0, ht1, rfl, rfl, rfl⟩ := hrel
      obtain ⟨s, Hs⟩ : ∃ s, Hid (j + 1 = s) := ⟨_, rfl⟩
      rw [Hs.out] at hj ⊢
      by_cases hlt : s < n
      · have hs1 : 1 ≤ s := by have := Hs.out; omega
        obtain ⟨x, Hx⟩ : ∃ x, Hid (bpV k (zs.take s) = x) := ⟨_, rfl⟩
        obtain ⟨y, Hy⟩ : ∃ y, Hid (sm (zs.drop s) = y) := ⟨_, rfl⟩
        have hlt1 : (zs.take s).length = s := by rw [List.length_take, Hn.out]; omega
        have hlt2 : (zs.drop s).length = n - s := by rw [List.length_drop, Hn.out]
        have hxb := bpV_bd (Hz.out.take s) (by omega) (by omega) k
        have hyb := (Hz.out.drop s).bd (by omega)
        rw [Hx.out] at hxb
        rw [Hy.out] at hyb
        have Hnext : Hid (bpF g t0 s = min t (max x y)) := by
          show _ = _
          rw [← Hs.out]
          simp only [bpF]
          rw [Ht.out, Hs.out, ← Hg.out s, Hx.out, Hy.out]
        have HC1 := Lib.hid (fun W : World => fun h : RdI W B (some ⟨b, off, none⟩) zs => IH.out (some ⟨b, off, none⟩) c s (zs.take s) (kI - 1) W B (rdI_takeZ h s) hlt1 (by omega) hc63 hs1 (by omega) (Hz.out.take s) (by have := Hk.out; omega) (by omega))
        have HC2 := Lib.hid (fun W : World => fun h : RdI W B (some ⟨b, off + s, none⟩) (zs.drop s) => sTotal_any (some ⟨b, off + s, none⟩) (c - s) (n - s) (zs.drop s) W B h hlt2 (by omega) (Hz.out.drop s))
        rw [Hx.out] at HC1
        rw [Hy.out] at HC2
        have hrs := rdI_dropZ hr s
        have w2 : IntKind.i64.wrap (kI - 1) = kI - 1 := IntWalk.i64_in _ (by omega)
        have hjc : s ≤ c := by omega
        have hcj : ¬ c = s := by omega
        have hjn : s ≤ n := by omega
        clear hlt1 hlt2
        go_wp2
        go_quiet ((first
          | (go_at_call 57; first | exact quiet_drawnZ (HC1.out _ hr) | exact quiet_drawnZ' (HC1.out _ hr))
          | (go_at_call 67; exact quiet_gen (HC2.out _ hrs) ⟨_, rfl⟩)))
        generalize hM : (if x < y then y else x) = mx
        generalize hN : (if mx < t then mx else t) = mn
        have HN : Hid (bpF g t0 s = mn) := by show _ = _; rw [Hnext.out, ← hN, ← hM]; split <;> split <;> omega
        have hmn : 0 ≤ mn ∧ mn ≤ 200 := by rw [← hN, ← hM]; split <;> split <;> omega
        have hmn1 := hmn.1
        have hmn2 := hmn.2
        clear hM hN hmn Hnext w2
        go_wp2
        go_roundw
        case rel => exact ⟨s, mn, _, by omega, HN, hmn1, hmn2, rfl, by go_num, rfl⟩
        case measure => simp [intOf]; omega
      · obtain rfl : s = n := by omega
        have HE : Hid (bpV (k + 1) zs = t) := by show _ = _; rw [HV.out, ← Ht.out]; congr 1; have := Hs.out; omega
        go_wp2
        go_ret
        exact ⟨ret_int HE.out.symm, _, rfl⟩
set_option maxHeartbeats 1600000 in
theorem mostLeast_any (k : Nat) : ∀ (A : Option Addr) (c n : Nat) (zs : List Int) (kI : Int) (w : World) (B : Nat) (hr : RdI w B A zs) (hn : zs.length = n) (hcap : n ≤ c) (hc63 : c ≤ 9223372036854775807) (h1 : k + 1 ≤ n) (h10 : n ≤ 10) (hz : P20 zs) (hk : kI = k + 1) (hk3 : k ≤ 3),
    Calls Try.prog 60 #[.slice A n c, .int .i64 kI] w fun e w' => e = .returned (.int .i64 (mlV k zs)) ∧ ∃ q, w' = w.drewN q := by
  induction k with
  | zero =>
    intro A c n zs kI w B hr hn hcap hc63 h1 h10 hz hk hk3
    have HT := Lib.hid (sTotal_any A c n zs w B hr hn h10 hz)
    have hkb : (kI == 1) = true := by rw [beq_iff_eq]; omega
    have Hk := Lib.hid hk
    clear hk hz hn hr
    go_enter Try.func60, Try.ntmps60
    go_wp2_with fail
    refine HT.out.mono ?_
    rintro e w' ⟨rfl, rfl⟩
    go_wp2
    go_ret
    exact ⟨rfl, 0, rfl⟩
  | succ k ih =>
    intro A c n zs kI w B hr hn hcap hc63 h1 h10 hz hk hk3
    have hkb : (kI == 1) = false := by rw [beq_eq_false_iff_ne]; omega
    obtain ⟨b, off, x0, rfl, hbw, _, _⟩ := hr.x (k := 0) (by omega)
    obtain ⟨g, Hg⟩ : ∃ g : Nat → Int, Hid (∀ i, min (mlV k (zs.take (k + 1 + i))) (sm (zs.drop (k + 1 + i))) = g i) := ⟨_, fun i => rfl⟩
    have HV : Hid (mlV (k + 1) zs = mlF g (n - (k + 1))) := by
      show _ = _
      simp only [mlV]
      rw [hn]
      congr 1
      funext i
      exact Hg.out i
    have Hn := Lib.hid hn
    have Hz := Lib.hid hz
    have Hk := Lib.hid hk
    have IH := Lib.hid ih
    have hki : 2 ≤ kI ∧ kI ≤ 4 := by omega
    have hki1 := hki.1
    have hki2 := hki.2
    have hk1 : kI - 1 = ((k + 1 : Nat) : Int) := by omega
    have w2 : IntKind.i64.wrap (kI - 1) = kI - 1 := IntWalk.i64_in _ (by omega)
    have Hk1 := Lib.hid hk1
    clear hki hk hz hn ih hk1
    go_enter Try.func60, Try.ntmps60
    go_wp2
    go_loopw [5, 6] (fun a i wr => ∃ j s : Nat, ∃ t : Int, ∃ q, s ≤ n ∧ Hid (k + 1 + j = s) ∧ Hid (mlF g j = t) ∧ -1 ≤ t ∧ t ≤ 200 ∧ a = .int .i64 t ∧ i = .int .i64 (s : Int) ∧ wr = w.drewN q) (fun _ i _ => n - (intOf i).toNat)
    case atStart => exact ⟨0, k + 1, -1, 0, by omega, rfl, rfl, by omega, by omega, rfl, by rw [← Hk1.out], rfl⟩
    case round =>
      obtain ⟨j, s, t, q1, hj, Hs, Ht, ht0, ht1, rfl, rfl, rfl⟩ := hrel
      by_cases hlt : s < n
      · have hs1 : k + 1 ≤ s := by have := Hs.out; omega
        obtain ⟨x, Hx⟩ : ∃ x, Hid (mlV k (zs.take s) = x) := ⟨_, rfl⟩
        obtain ⟨y, Hy⟩ : ∃ y, Hid (sm (zs.drop s) = y) := ⟨_, rfl⟩
        have hlt1 : (zs.take s).length = s := by rw [List.length_take, Hn.out]; omega
        have hlt2 : (zs.drop s).length = n - s := by rw [List.length_drop, Hn.out]
        have hxb := mlV_bd (Hz.out.take s) k (by omega) (by omega)
        have hyb := (Hz.out.drop s).bd (by omega)
        rw [Hx.out] at hxb
        rw [Hy.out] at hyb
        have Hnext : Hid (mlF g (j + 1) = max t (min x y)) := by
          show _ = _
          simp only [mlF]
          rw [Ht.out, ← Hg.out j, Hs.out, Hx.out, Hy.out]
        have HC1 := Lib.hid (fun W : World => fun h : RdI W B (some ⟨b, off, none⟩) zs => IH.out (some ⟨b, off, none⟩) c s (zs.take s) (kI - 1) W B (rdI_takeZ h s) hlt1 (by omega) hc63 hs1 (by omega) (Hz.out.take s) (by have := Hk.out; omega) (by omega))
        have HC2 := Lib.hid (fun W : World => fun h : RdI W B (some ⟨b, off + s, none⟩) (zs.drop s) => sTotal_any (some ⟨b, off + s, none⟩) (c - s) (n - s) (zs.drop s) W B h hlt2 (by omega) (Hz.out.drop s))
        rw [Hx.out] at HC1
        rw [Hy.out] at HC2
        have hrs := rdI_dropZ hr s
        have hjc : s ≤ c := by omega
        have hcj : ¬ c = s := by omega
        have hjn : s ≤ n := by omega
        clear hlt1 hlt2
        go_wp2
        go_quiet ((first
          | (go_at_call 60; first | exact quiet_drawnZ (HC1.out _ hr) | exact quiet_drawnZ' (HC1.out _ hr))
          | (go_at_call 67; exact quiet_gen (HC2.out _ hrs) ⟨_, rfl⟩)))
        generalize hM : (if y < x then y else x) = mx
        generalize hN : (if t < mx then mx else t) = mn
        have HN : Hid (mlF g (j + 1) = mn) := by show _ = _; rw [Hnext.out, ← hN, ← hM]; split <;> split <;> omega
        have hmn : -1 ≤ mn ∧ mn ≤ 200 := by rw [← hN, ← hM]; split <;> split <;> omega
        have hmn1 := hmn.1
        have hmn2 := hmn.2
        have Hs2 : Hid (k + 1 + (j + 1) = s + 1) := by show _ = _; have := Hs.out; omega
        clear hM hN hmn Hnext
        go_wp2
        go_roundw
        case rel => exact ⟨j + 1, s + 1, mn, _, by omega, Hs2, HN, hmn1, hmn2, rfl, by go_num, rfl⟩
        case measure => simp [intOf]; omega
      · obtain rfl : s = n := by omega
        have HE : Hid (mlV (k + 1) zs = t) := by show _ = _; rw [HV.out, ← Ht.out]; congr 1; have := Hs.out; omega
        go_wp2
        go_ret
        exact ⟨ret_int HE.out.symm, _, rfl⟩
end Go.Proofs.Ytoappopbjnlbdaa
