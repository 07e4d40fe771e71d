/-
  CostTried of the program, walked: all orders of the helpers, call by call.
  Conditions: as each theorem states.
-/
import Derived.Test.YtakljcpneghgnaaCL
namespace Go.Proofs.Ytakljcpneghgnaa
open Go.ChangeShapes Go.WideShapes Go.ChangeAt Go.RowKit
set_option linter.unusedVariables false
set_option maxRecDepth 4000

theorem quiet_drawnC {P : Program} {f : FuncId} {args : Array Value} {w : World} {v : Value} {m : Nat}
    (h : Calls P f args (w.drewN m) fun e w' => e = .returned v ∧ ∃ q, w' = (w.drewN m).drewN q) : Calls P f args (w.drewN m) fun e w'' => e = .returned v ∧ ∃ m, w'' = w.drewN m :=
  h.mono fun _ _ ⟨he, q, hq⟩ => ⟨he, m + q, by rw [hq, World.drewN_drewN]⟩
theorem quiet_drawnC' {P : Program} {f : FuncId} {args : Array Value} {w : World} {v : Value} {a m : Nat}
    (h : Calls P f args (w.drewN (a + m)) fun e w' => e = .returned v ∧ ∃ q, w' = (w.drewN (a + m)).drewN q) : Calls P f args (w.drewN (a + m)) fun e w'' => e = .returned v ∧ ∃ m, w'' = w.drewN (a + m) :=
  h.mono fun _ _ ⟨he, q, hq⟩ => ⟨he, m + q, by rw [hq, World.drewN_drewN, Nat.add_assoc]⟩
theorem bitC0_test : ∀ s : Fin 128, ∀ i : Fin 7, (bits BinOp.and IntKind.u64 ((s.val : Int) / 2 ^ i.val) 1 == 0) = !s.val.testBit i.val := by decide +kernel
theorem orC_all : ∀ s : Fin 128, ∀ i : Fin 7, s.val.testBit i.val = false → bits BinOp.or IntKind.u64 (s.val : Int) (IntKind.u64.wrap ((2 : Int) ^ i.val)) = ((s.val + 2 ^ i.val : Nat) : Int) := by decide +kernel
theorem addC_lt : ∀ n : Fin 8, ∀ s : Fin 128, ∀ i : Fin 7, i.val < n.val → s.val < 2 ^ n.val → s.val.testBit i.val = false → s.val + 2 ^ i.val < 2 ^ n.val := by decide +kernel
/-- CostTried. -/
def ctv (cost : List (List Int)) : Int := if vcost cost = true ∧ cost.length ≤ 5 then fwC (clC cost) cost.length cost.length 0 else -1
theorem RdV.tail {w : World} {B b off : Nat} {L : List (List Int)} (h : RdV w B (some ⟨b, off, none⟩) L) : RdV w B (some ⟨b, off + 1, none⟩) L.tail := fun hp => by
  rw [List.length_tail] at hp
  obtain ⟨b', off', e, hb, hc⟩ := h (by omega)
  injection e with e
  injection e with e1 e2
  subst e1 e2
  refine ⟨b, off + 1, rfl, hb, fun i hi => ?_⟩
  rw [List.length_tail] at hi
  have hg : L.tail.getD i [] = L.getD (i + 1) [] := by cases L <;> simp
  rw [hg, show off + 1 + i = off + (i + 1) by omega]
  exact hc (i + 1) (by omega)
theorem RdV.short {w : World} {B : Nat} {A : Option Addr} {L : List (List Int)} (h : L.length = 0) : RdV w B A L := fun hp => by omega
theorem dropC {α : Type} {L : List α} {j n : Nat} (h : j + 1 ≤ n) : (L.drop (n - (j + 1))).tail = L.drop (n - j) := by
  rw [List.tail_drop]
  congr 1
  omega
/-- leastOfOrders of the last j rows. -/
def LoAt (cost : List (List Int)) (n B j : Nat) : Prop := ∀ (A : Option Addr) (c T : Nat) (w : World), RdV w B A (cost.drop (n - j)) → j ≤ c → c ≤ 9223372036854775807 → T < 2 ^ n →
  Calls Try.prog 65 #[.slice A j c, .int .u64 T] w fun e w' => e = .returned (.int .i64 (fwC (clC cost) n j T)) ∧ ∃ q, w' = w.drewN q
theorem lo_zero (cost : List (List Int)) (n B : Nat) : LoAt cost n B 0 := by
  intro A c T w hr hc hc2 hT
  go_enter Try.func65, Try.ntmps65
  go_wp2
  go_ret
  exact ⟨rfl, 0, rfl⟩
set_option maxHeartbeats 1600000 in
theorem lo_step (cost : List (List Int)) (n B j : Nat) (hv : vcost cost = true) (hn : cost.length = n) (hj : j + 1 ≤ n) (IH : LoAt cost n B j) : LoAt cost n B (j + 1) := by
  intro A c T w hr hc hc2 hT
  obtain ⟨h6, -⟩ := (vcost_iff _).1 hv
  have hC := vcost_bd hv
  have hrow := fun i hi => vcost_len hv (i := i) hi
  rw [hn] at h6 hC hrow
  have hT128 : T < 128 := Nat.lt_of_lt_of_le hT (Nat.pow_le_pow_right (by omega) (by omega) : 2 ^ n ≤ 2 ^ 7)
  have HIH := Lib.hid IH
  have Hn := Lib.hid hn
  have HT := Lib.hid hT
  have HC := Lib.hid hC
  have hlen0 : (cost.drop (n - (j + 1))).length = j + 1 := by rw [List.length_drop, hn]; omega
  have hr2 := hr
  obtain ⟨bw, ow, ar, ca, ls, rfl, hbw, Hl, hcl, hca, hcm, hrl⟩ := hr.x (k := 0) (by rw [hlen0]; omega)
  rw [Nat.add_zero] at hcl
  have Htail : Hid (RdV w B (some ⟨bw, ow + 1, none⟩) (cost.drop (n - j))) := by show RdV _ _ _ _; rw [← dropC hj]; exact hr2.tail
  have Hlk : Hid (cost.getD (n - (j + 1)) [] = ls) := by
    show _ = _
    rw [← Hl.out]; simp [List.getD]
  have hlen : ls.length = n := by rw [← Hlk.out]; exact hrow _ (by omega)
  rw [hlen] at hcl hca
  have Hlen := Lib.hid hlen
  have Hrl := Lib.hid hrl
  have hj1 : ¬ ((j + 1 : Nat) : Int) = 0 := by omega
  clear IH hT hC hv hrow hlen0 hr hr2 hlen hrl Hl
  go_enter Try.func65, Try.ntmps65
  go_wp2
  go_loopw [5, 15] (fun a i wr => ∃ i' q : Nat, ∃ u : Int, i' ≤ n ∧ i = .int .i64 i' ∧ a = .int .i64 u ∧ Hid (mnC (fun h => clC cost (n - (j + 1)) h + fwC (clC cost) n j (T + 2 ^ h)) (fun h => !T.testBit h) i' = u) ∧ 0 ≤ u ∧ u ≤ 351 ∧ wr = w.drewN q) (fun _ i _ => n - (intOf i).toNat)
  case atStart => exact ⟨0, 0, 351, Nat.zero_le _, rfl, rfl, rfl, by omega, by omega, rfl⟩
  case round =>
    obtain ⟨i, q, u, hi, rfl, rfl, Hu, hu0, hu1, rfl⟩ := hrel
    by_cases hli : i < n
    · obtain ⟨b, off, x, rfl, hbb, Hx, hcx⟩ := Hrl.out.x (k := i) (by rw [Hlen.out]; exact hli)
      have hxC : clC cost (n - (j + 1)) i = x := by unfold clC; rw [Hlk.out]; exact Hx.out
      have hxb := HC.out (n - (j + 1)) i (by omega) hli
      rw [hxC] at hxb
      have hbt := bitC0_test ⟨T, hT128⟩ ⟨i, by omega⟩
      simp only at hbt
      by_cases hbit : T.testBit i = true
      · rw [hbit] at hbt
        have HN := Lib.hid (mnC_no (f := fun h => clC cost (n - (j + 1)) h + fwC (clC cost) n j (T + 2 ^ h)) (P := fun h => !T.testBit h) (by show (!_) = false; rw [hbit]; rfl) Hu.out)
        have hbt2 : (bits BinOp.and IntKind.u64 ((T : Int) / 2 ^ i) 1 == 0) = false := hbt
        clear hbit hxC hbt
        go_wp2
        go_roundw
        case rel => exact ⟨i + 1, _, u, by omega, by go_num, rfl, HN, hu0, hu1, rfl⟩
        case measure => simp [intOf]; omega
      · have hbit2 : T.testBit i = false := by simpa using hbit
        rw [hbit2] at hbt
        have hbt2 : (bits BinOp.and IntKind.u64 ((T : Int) / 2 ^ i) 1 == 0) = true := hbt
        have hor := orC_all ⟨T, hT128⟩ ⟨i, by omega⟩ hbit2
        simp only at hor
        have hT2 := addC_lt ⟨n, by omega⟩ ⟨T, hT128⟩ ⟨i, by omega⟩ hli HT.out hbit2
        simp only at hT2
        obtain ⟨T2, HT2⟩ : ∃ T2, Hid (T + 2 ^ i = T2) := ⟨_, rfl⟩
        rw [HT2.out] at hor hT2
        obtain ⟨y, Hy⟩ : ∃ y, Hid (fwC (clC cost) n j T2 = y) := ⟨_, rfl⟩
        have hyb := fwC_bd HC.out h6 j T2 (by omega)
        rw [Hy.out] at hyb
        have HN := Lib.hid (mnC_yes (f := fun h => clC cost (n - (j + 1)) h + fwC (clC cost) n j (T + 2 ^ h)) (P := fun h => !T.testBit h) (x := x + y) (by show (!_) = true; rw [hbit2]; rfl) Hu.out (by show _ + _ = _; rw [HT2.out, Hy.out, hxC]))
        have Hrec : Hid (∀ A' c' m, (A' = some ⟨bw, ow + 1, none⟩ ∨ j = 0) → j ≤ c' → c' ≤ 9223372036854775807 → Calls Try.prog 65 #[.slice A' j c', .int .u64 T2] (w.drewN m) fun e w' => e = .returned (.int .i64 y) ∧ ∃ q, w' = (w.drewN m).drewN q) := fun A' c' m hA h1 h2 => by
          have hrd : RdV (w.drewN m) B A' (cost.drop (n - j)) := by
            rcases hA with rfl | h0
            · exact Htail.out.drewN m
            · exact RdV.short (by rw [List.length_drop, h0, Nat.sub_zero, ← Hn.out]; omega)
          have := HIH.out A' c' T2 (w.drewN m) hrd h1 h2 hT2
          rw [Hy.out] at this; exact this
        have hwx : IntKind.i64.wrap (x + y) = x + y := IntWalk.i64_in _ (by omega)
        clear hbit hbit2 hxC hbt
        have hA : (if c = 1 then some (⟨bw, ow, none⟩ : Addr) else some ⟨bw, ow + 1, none⟩) = some ⟨bw, ow + 1, none⟩ ∨ j = 0 := by
          split
          · right; omega
          · left; rfl
        go_wp2
        go_quiet ((go_at_call 65; first | exact quiet_drawnC (Hrec.out _ _ _ hA (by omega) (by omega)) | exact quiet_drawnC' (Hrec.out _ _ _ hA (by omega) (by omega))))
        go_wp2
        go_roundw
        case rel => exact ⟨i + 1, _, min u (x + y), by omega, by go_num, by congr 1; rw [Int.min_def]; split <;> split <;> omega, HN, by omega, by omega, rfl⟩
        case measure => simp [intOf]; omega
    · obtain rfl : i = n := by omega
      have HN : Hid (fwC (clC cost) i (j + 1) T = u) := Hu.out
      go_wp2
      go_ret
      exact ⟨ret_int HN.out.symm, q, rfl⟩
theorem lo_all (cost : List (List Int)) (n B : Nat) (hv : vcost cost = true) (hn : cost.length = n) : ∀ j, j ≤ n → LoAt cost n B j
  | 0, _ => lo_zero cost n B
  | j + 1, h => lo_step cost n B j hv hn h (lo_all cost n B hv hn j (by omega))
set_option maxHeartbeats 800000 in
theorem iCostTried_ok : CNum 34 ctv := by
  intro A c n cost w h
  have H1 := Lib.hid (iValidCosts_ok A c n cost w h)
  by_cases hv : vcost cost = true
  · have hn20 := h.most
    by_cases h5 : n ≤ 5
    · have Hs : Hid (ctv cost = fwC (clC cost) n n 0) := by show _ = _; unfold ctv; rw [if_pos ⟨hv, by rw [h.len]; exact h5⟩, h.len]
      have Hlo : Hid (∀ W, Below w.heap.size w W → Calls Try.prog 65 #[.slice A n c, .int .u64 0] W fun e w' => e = .returned (.int .i64 (fwC (clC cost) n n 0)) ∧ ∃ q, w' = W.drewN q) := fun W hb => by
        have := lo_all cost n w.heap.size hv h.len n (Nat.le_refl _) A c 0 W (by rw [Nat.sub_self]; exact h.rd.below hb) h.cap.1 h.cap.2 (Nat.two_pow_pos n)
        exact this
      rw [hv] at H1
      clear h hv
      go_enter Try.func34, Try.ntmps34
      go_wp2_with fail
      refine H1.out.mono ?_
      rintro e w1 ⟨rfl, hb⟩
      have HB := Lib.hid hb
      clear hb
      go_wp2_with fail
      refine (Hlo.out w1 HB.out).mono ?_
      rintro e w2 ⟨rfl, q, rfl⟩
      go_wp2
      go_ret
      exact ⟨ret_int Hs.out.symm, below_drewN HB.out q⟩
    · have Hs : Hid (ctv cost = -1) := by show _ = _; unfold ctv; rw [if_neg fun h' => h5 (by rw [← h.len]; exact h'.2)]
      rw [hv] at H1
      clear h hv
      go_enter Try.func34, Try.ntmps34
      go_wp2_with fail
      refine H1.out.mono ?_
      rintro e w1 ⟨rfl, hb⟩
      go_wp2
      go_ret
      exact ⟨ret_int Hs.out.symm, hb⟩
  · have hv' : vcost cost = false := by simpa using hv
    have Hs : Hid (ctv cost = -1) := by show _ = _; unfold ctv; rw [if_neg fun h' => hv h'.1]
    rw [hv'] at H1
    clear hv hv' h
    go_enter Try.func34, Try.ntmps34
    go_wp2_with fail
    refine H1.out.mono ?_
    rintro e w1 ⟨rfl, hb⟩
    go_wp2
    go_ret
    exact ⟨ret_int Hs.out.symm, hb⟩
theorem ctv_lcv {cost : List (List Int)} (h : cost.length ≤ 5) : ctv cost = lcv cost := by
  unfold ctv lcv
  by_cases hv : vcost cost = true
  · rw [if_pos ⟨hv, h⟩, if_pos hv]
    exact fwC_bs (by omega) (vcost_bd hv)
  · rw [if_neg fun h' => hv h'.1, if_neg hv]
end Go.Proofs.Ytakljcpneghgnaa
