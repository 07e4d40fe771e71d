/-
  Chapter 5's model, walked: valid calls, the least way ahead, the least way that ends at two places.
  Conditions: as each theorem states.
-/
import Derived.Test.YthgllpiclaihjaaJF
import Derived.Deep.QuietTactic
import Derived.BigQuiet
namespace Go.Proofs.Ythgllpiclaihjaa
open Go.ChangeShapes Go.WideShapes Go.ChangeAt Go.RowKit
set_option linter.unusedVariables false
set_option maxRecDepth 4000

theorem quiet_drawnC {P : Program} {f : FuncId} {args : Array Value} {w : World} {v : Value} {m : Nat}
    (h : Calls P f args (w.drewN m) fun e w' => e = .returned v ∧ ∃ q, w' = (w.drewN m).drewN q) : Calls P f args (w.drewN m) fun e w'' => e = .returned v ∧ ∃ m, w'' = w.drewN m :=
  h.mono fun _ _ ⟨he, q, hq⟩ => ⟨he, m + q, by rw [hq, World.drewN_drewN]⟩
theorem quiet_drawnC' {P : Program} {f : FuncId} {args : Array Value} {w : World} {v : Value} {a m : Nat}
    (h : Calls P f args (w.drewN (a + m)) fun e w' => e = .returned v ∧ ∃ q, w' = (w.drewN (a + m)).drewN q) : Calls P f args (w.drewN (a + m)) fun e w'' => e = .returned v ∧ ∃ m, w'' = w.drewN (a + m) :=
  h.mono fun _ _ ⟨he, q, hq⟩ => ⟨he, m + q, by rw [hq, World.drewN_drewN, Nat.add_assoc]⟩
set_option maxHeartbeats 800000 in
theorem sValidCalls_any (a b : Int) (A : Option Addr) (c n : Nat) (zs : List Int) (w : World) (B : Nat) (hr : RdI w B A zs) (hn : zs.length = n) (hb : n ≤ 1152921504606846976) :
    Calls Try.prog 45 #[.int .i64 a, .int .i64 b, .slice A n c] w fun e w' => e = .returned (.bool (vcl a b zs)) ∧ ∃ q, w' = w.drewN q := by
  have Hn := Lib.hid hn
  have Hyes : Hid (∀ k, n ≤ k → (∀ i, i < k → offL (zs.getD i 0) = false) → vcl a b zs = (vst a b && decide (n ≤ 8))) := fun k hk h => by
    unfold vcl
    rw [any_noJ h (by rw [hn]; exact hk), hn]
    simp
  have Hno : Hid (∀ k x, k < n → zs.getD k 0 = x → offL x = true → vcl a b zs = false) := fun k x hk hx h => by
    unfold vcl
    rw [any_yesJ (by rw [hn]; exact hk) hx h]
    simp
  have HIn := Lib.hid (fun u l h W => inRange_any u l h W)
  clear hn
  go_enter Try.func45, Try.ntmps45
  go_wp2
  go_loopw [7] (fun i wr => ∃ k q : Nat, k ≤ n ∧ i = .int .i64 k ∧ Hid (∀ i, i < k → offL (zs.getD i 0) = false) ∧ wr = w.drewN q) (fun i _ => n - (intOf i).toNat)
  case atStart => exact ⟨0, 0, Nat.zero_le _, rfl, fun i hi => by omega, rfl⟩
  case round =>
    obtain ⟨k, q, hk, rfl, Ho, rfl⟩ := hrel
    by_cases hlt : k < n
    · obtain ⟨bx, ox, x, rfl, hbx, Hx, hcx⟩ := hr.x (k := k) (by rw [Hn.out]; exact hlt)
      by_cases h1 : offL x = true
      · have Hs := Lib.hid (Hno.out k x hlt Hx.out h1)
        have hx : x < 0 ∨ 50 < x := by unfold offL at h1; simpa using h1
        clear h1
        go_wp2_with fail
        refine (inRange_no _ _ _ _ hx).mono ?_
        rintro e w' ⟨rfl, rfl⟩
        go_wp2
        go_ret
        exact ⟨ret_bool Hs.out.symm, q, rfl⟩
      · have h2 : offL x = false := by simpa using h1
        have hx : 0 ≤ x ∧ x ≤ 50 := by unfold offL at h2; simp at h2; omega
        have Hs : Hid (∀ i, i < k + 1 → offL (zs.getD i 0) = false) := fun i hi => by
          by_cases e : i = k
          · subst e; rw [Hx.out]; exact h2
          · exact Ho.out i (by omega)
        clear h1 h2
        go_wp2_with fail
        refine (inRange_yes _ _ _ _ hx.1 hx.2).mono ?_
        rintro e w' ⟨rfl, rfl⟩
        go_wp2
        go_roundw
        case rel => exact ⟨k + 1, q, by omega, by go_num, Hs, rfl⟩
        case measure => simp [intOf]; omega
    · have Hs := Lib.hid (Hyes.out k (by omega) Ho.out)
      by_cases h1 : 0 ≤ a ∧ a ≤ b
      · by_cases h2 : b ≤ 50
        · have hv : vst a b = true := vst_iff.2 ⟨h1.1, h1.2, h2⟩
          have h0b : 0 ≤ b := by omega
          rw [hv, Bool.true_and] at Hs
          clear hv
          go_wp2_with fail
          refine (inRange_yes _ _ _ _ h1.1 h1.2).mono ?_
          rintro e w' ⟨rfl, rfl⟩
          go_wp2_with fail
          refine (inRange_yes _ _ _ _ h0b h2).mono ?_
          rintro e w' ⟨rfl, rfl⟩
          by_cases h8 : n ≤ 8
          · rw [decide_eq_true h8] at Hs
            go_wp2
            go_ret
            exact ⟨ret_bool (by rw [Hs.out]; simp; omega), q, rfl⟩
          · rw [decide_eq_false h8] at Hs
            go_wp2
            go_ret
            exact ⟨ret_bool (by rw [Hs.out]; simp; omega), q, rfl⟩
        · have hv : vst a b = false := by rw [← Bool.not_eq_true, vst_iff]; omega
          have hx : b < 0 ∨ 50 < b := by omega
          rw [hv, Bool.false_and] at Hs
          clear hv
          go_wp2_with fail
          refine (inRange_yes _ _ _ _ h1.1 h1.2).mono ?_
          rintro e w' ⟨rfl, rfl⟩
          go_wp2_with fail
          refine (inRange_no _ _ _ _ hx).mono ?_
          rintro e w' ⟨rfl, rfl⟩
          go_wp2
          go_ret
          exact ⟨ret_bool Hs.out.symm, q, rfl⟩
      · have hv : vst a b = false := by rw [← Bool.not_eq_true, vst_iff]; omega
        have hx : a < 0 ∨ b < a := by omega
        rw [hv, Bool.false_and] at Hs
        clear hv
        go_wp2_with fail
        refine (inRange_no _ _ _ _ hx).mono ?_
        rintro e w' ⟨rfl, rfl⟩
        go_wp2
        go_ret
        exact ⟨ret_bool Hs.out.symm, q, rfl⟩

/-- The model's least way to a list of calls. -/
def AhAt (B : Nat) (zs : List Int) : Prop := ∀ (a b : Int) (A : Option Addr) (n c : Nat) (W : World), P50 a → P50 b → zs.length = n → RdI W B A zs → n ≤ c → c ≤ 9223372036854775807 →
  Calls Try.prog 48 #[.int .i64 a, .int .i64 b, .slice A n c] W fun e w' => e = .returned (.int .i64 (lwF zr2 a b zs)) ∧ ∃ q, w' = W.drewN q
set_option maxHeartbeats 3200000 in
theorem Ah_step (B : Nat) (x : Int) (r : List Int) (hx : P50 x) (h50 : On50 r) (h8 : r.length ≤ 8) (hf : ∀ a b, 0 ≤ a → a ≤ 50 → 0 ≤ b → b ≤ 50 → 0 ≤ zr2 a b ∧ zr2 a b ≤ 100) (IH : AhAt B r) : AhAt B (x :: r) := by
  intro a b A n' c w ha hb hn hr hc hm
  obtain ⟨n, rfl⟩ : ∃ n, n' = n + 1 := ⟨r.length, by rw [← hn, List.length_cons]⟩
  have hn' : r.length = n := by rw [List.length_cons] at hn; omega
  obtain ⟨bw, ow, x', rfl, hbw, Hx', hcx⟩ := hr.x (k := 0) (by rw [hn]; omega)
  have hx' : x' = x := by have := Hx'.out; simpa using this.symm
  subst hx'
  rw [Nat.add_zero] at hcx
  obtain ⟨A', c', hA, hc1, hc2, hsl⟩ := tail_run bw ow n c hc
  have HI : Hid (∀ (u v : Int) (m : Nat), P50 u → P50 v → Calls Try.prog 48 #[.int .i64 u, .int .i64 v, .slice A' n c'] (w.drewN m) fun e w' => e = .returned (.int .i64 (lwF zr2 u v r)) ∧ ∃ q, w' = (w.drewN m).drewN q) := fun u v m hu hv => by
    have hrd : RdI (w.drewN m) B A' r := by
      rcases hA with rfl | h0
      · exact (hr.tail).drewN m
      · exact RdI.short (by rw [hn']; exact h0)
    exact IH u v A' n c' (w.drewN m) hu hv hn' hrd hc1 (by omega)
  have HG : Hid (∀ (u v : Int) (W : World), P50 u → P50 v → Calls Try.prog 52 #[.int .i64 u, .int .i64 v] W fun e w' => e = .returned (.int .i64 (gapI u v)) ∧ W = w') := fun u v W hu hv => gap_any u v W (by have := hu.1; omega) (by have := hu.2; omega) (by have := hv.1; omega) (by have := hv.2; omega)
  have g1 := gapI_nonneg a x'
  have g2 := gapI_nonneg b x'
  have g3 := gapI_in50 ha.1 ha.2 hx.1 hx.2
  have g4 := gapI_in50 hb.1 hb.2 hx.1 hx.2
  have b1 := lw_bd hf r x' b h50 hx.1 hx.2 hb.1 hb.2
  have b2 := lw_bd hf r a x' h50 ha.1 ha.2 hx.1 hx.2
  have hw1 : IntKind.i64.wrap (gapI a x' + lwF zr2 x' b r) = gapI a x' + lwF zr2 x' b r := IntWalk.i64_in _ (by omega)
  have hw2 : IntKind.i64.wrap (gapI b x' + lwF zr2 a x' r) = gapI b x' + lwF zr2 a x' r := IntWalk.i64_in _ (by omega)
  have Hd : Hid (lwF zr2 a b (x' :: r) = min (gapI a x' + lwF zr2 x' b r) (gapI b x' + lwF zr2 a x' r)) := rfl
  rw [Hd.out]
  have hn0 : ¬ ((n + 1 : Nat) : Int) = 0 := by omega
  have hi0 : (0 : Int) < ((n + 1 : Nat) : Int) := by omega
  have i1 : (0 : Int) ≤ 1 := by omega
  clear IH hr hn h50 hf hA Hd g1 g2 g3 g4 b1 b2
  go_enter Try.func48, Try.ntmps48
  go_wp2
  go_quiet (first
    | (go_at_call 52; exact quiet_gen (HG.out _ _ _ (by assumption) (by assumption)) ⟨_, rfl⟩)
    | (go_at_call 48; first | exact quiet_drawnC (HI.out _ _ _ (by assumption) (by assumption)) | exact quiet_drawnC' (HI.out _ _ _ (by assumption) (by assumption))))
  clear hw1 hw2
  generalize hp : gapI a x' + lwF zr2 x' b r = p
  generalize hq : gapI b x' + lwF zr2 a x' r = q
  have Hp := Lib.hid hp
  have Hq := Lib.hid hq
  clear hp hq
  generalize hz : (if q < p then q else p) = z
  have Hz : Hid (z = min p q) := by show _ = _; rw [← hz, Int.min_def]; split <;> split <;> omega
  clear hz
  go_wp2
  go_ret
  exact ⟨ret_int (by rw [Hz.out, Hp.out, Hq.out]), _, rfl⟩

/-- The model's least way to a list of calls. -/
def WkAt (s t : Int) (B : Nat) (zs : List Int) : Prop := ∀ (a b : Int) (A : Option Addr) (n c : Nat) (W : World), P50 a → P50 b → zs.length = n → RdI W B A zs → n ≤ c → c ≤ 9223372036854775807 →
  Calls Try.prog 59 #[.int .i64 a, .int .i64 b, .slice A n c, .int .i64 s, .int .i64 t] W fun e w' => e = .returned (.int .i64 (lwF (toB s t) a b zs)) ∧ ∃ q, w' = W.drewN q
set_option maxHeartbeats 3200000 in
theorem Wk_step (s t : Int) (B : Nat) (x : Int) (r : List Int) (hx : P50 x) (h50 : On50 r) (h8 : r.length ≤ 8) (hf : ∀ a b, 0 ≤ a → a ≤ 50 → 0 ≤ b → b ≤ 50 → 0 ≤ (toB s t) a b ∧ (toB s t) a b ≤ 100) (IH : WkAt s t B r) : WkAt s t B (x :: r) := by
  intro a b A n' c w ha hb hn hr hc hm
  obtain ⟨n, rfl⟩ : ∃ n, n' = n + 1 := ⟨r.length, by rw [← hn, List.length_cons]⟩
  have hn' : r.length = n := by rw [List.length_cons] at hn; omega
  obtain ⟨bw, ow, x', rfl, hbw, Hx', hcx⟩ := hr.x (k := 0) (by rw [hn]; omega)
  have hx' : x' = x := by have := Hx'.out; simpa using this.symm
  subst hx'
  rw [Nat.add_zero] at hcx
  obtain ⟨A', c', hA, hc1, hc2, hsl⟩ := tail_run bw ow n c hc
  have HI : Hid (∀ (u v : Int) (m : Nat), P50 u → P50 v → Calls Try.prog 59 #[.int .i64 u, .int .i64 v, .slice A' n c', .int .i64 s, .int .i64 t] (w.drewN m) fun e w' => e = .returned (.int .i64 (lwF (toB s t) u v r)) ∧ ∃ q, w' = (w.drewN m).drewN q) := fun u v m hu hv => by
    have hrd : RdI (w.drewN m) B A' r := by
      rcases hA with rfl | h0
      · exact (hr.tail).drewN m
      · exact RdI.short (by rw [hn']; exact h0)
    exact IH u v A' n c' (w.drewN m) hu hv hn' hrd hc1 (by omega)
  have HG : Hid (∀ (u v : Int) (W : World), P50 u → P50 v → Calls Try.prog 52 #[.int .i64 u, .int .i64 v] W fun e w' => e = .returned (.int .i64 (gapI u v)) ∧ W = w') := fun u v W hu hv => gap_any u v W (by have := hu.1; omega) (by have := hu.2; omega) (by have := hv.1; omega) (by have := hv.2; omega)
  have g1 := gapI_nonneg a x'
  have g2 := gapI_nonneg b x'
  have g3 := gapI_in50 ha.1 ha.2 hx.1 hx.2
  have g4 := gapI_in50 hb.1 hb.2 hx.1 hx.2
  have b1 := lw_bd hf r x' b h50 hx.1 hx.2 hb.1 hb.2
  have b2 := lw_bd hf r a x' h50 ha.1 ha.2 hx.1 hx.2
  have hw1 : IntKind.i64.wrap (gapI a x' + lwF (toB s t) x' b r) = gapI a x' + lwF (toB s t) x' b r := IntWalk.i64_in _ (by omega)
  have hw2 : IntKind.i64.wrap (gapI b x' + lwF (toB s t) a x' r) = gapI b x' + lwF (toB s t) a x' r := IntWalk.i64_in _ (by omega)
  have Hd : Hid (lwF (toB s t) a b (x' :: r) = min (gapI a x' + lwF (toB s t) x' b r) (gapI b x' + lwF (toB s t) a x' r)) := rfl
  rw [Hd.out]
  have hn0 : ¬ ((n + 1 : Nat) : Int) = 0 := by omega
  have hi0 : (0 : Int) < ((n + 1 : Nat) : Int) := by omega
  have i1 : (0 : Int) ≤ 1 := by omega
  clear IH hr hn h50 hf hA Hd g1 g2 g3 g4 b1 b2
  go_enter Try.func59, Try.ntmps59
  go_wp2
  go_quiet (first
    | (go_at_call 52; exact quiet_gen (HG.out _ _ _ (by assumption) (by assumption)) ⟨_, rfl⟩)
    | (go_at_call 59; first | exact quiet_drawnC (HI.out _ _ _ (by assumption) (by assumption)) | exact quiet_drawnC' (HI.out _ _ _ (by assumption) (by assumption))))
  clear hw1 hw2
  generalize hp : gapI a x' + lwF (toB s t) x' b r = p
  generalize hq : gapI b x' + lwF (toB s t) a x' r = q
  have Hp := Lib.hid hp
  have Hq := Lib.hid hq
  clear hp hq
  generalize hz : (if q < p then q else p) = z
  have Hz : Hid (z = min p q) := by show _ = _; rw [← hz, Int.min_def]; split <;> split <;> omega
  clear hz
  go_wp2
  go_ret
  exact ⟨ret_int (by rw [Hz.out, Hp.out, Hq.out]), _, rfl⟩

theorem ah_zero (B : Nat) : AhAt B [] := by
  intro a b A n c w ha hb hn hr hc hm
  obtain rfl : n = 0 := by rw [← hn]; rfl
  clear hr hn
  go_enter Try.func48, Try.ntmps48
  go_wp2
  go_ret
  exact ⟨rfl, 0, rfl⟩
theorem ah_all (B : Nat) : ∀ zs : List Int, On50 zs → zs.length ≤ 8 → AhAt B zs
  | [], _, _ => ah_zero B
  | x :: r, h, h8 => Ah_step B x r h.head h.tail (by rw [List.length_cons] at h8; omega) zr2_bd (ah_all B r h.tail (by rw [List.length_cons] at h8; omega))
theorem toB_bd {x y : Int} (hx : P50 x) (hy : P50 y) : ∀ a b, 0 ≤ a → a ≤ 50 → 0 ≤ b → b ≤ 50 → 0 ≤ toB x y a b ∧ toB x y a b ≤ 100 := fun a b h1 h2 h3 h4 => by
  have g1 := gapI_in50 h1 h2 hx.1 hx.2
  have g2 := gapI_in50 h3 h4 hy.1 hy.2
  have g3 := gapI_nonneg a x
  have g4 := gapI_nonneg b y
  have g5 := gapI_nonneg a y
  have g6 := gapI_nonneg b x
  unfold toB
  omega
set_option maxHeartbeats 800000 in
theorem wk_zero (s t : Int) (hs : P50 s) (ht : P50 t) (B : Nat) : WkAt s t B [] := by
  intro a b A n c w ha hb hn hr hc hm
  obtain rfl : n = 0 := by rw [← hn]; rfl
  have HG : Hid (∀ (u v : Int) (W : World), P50 u → P50 v → Calls Try.prog 52 #[.int .i64 u, .int .i64 v] W fun e w' => e = .returned (.int .i64 (gapI u v)) ∧ W = w') := fun u v W hu hv => gap_any u v W (by have := hu.1; omega) (by have := hu.2; omega) (by have := hv.1; omega) (by have := hv.2; omega)
  have g1 := gapI_nonneg a s
  have g2 := gapI_nonneg b t
  have g3 := gapI_nonneg a t
  have g4 := gapI_nonneg b s
  have g5 := gapI_in50 ha.1 ha.2 hs.1 hs.2
  have g6 := gapI_in50 hb.1 hb.2 ht.1 ht.2
  have g7 := gapI_in50 ha.1 ha.2 ht.1 ht.2
  have g8 := gapI_in50 hb.1 hb.2 hs.1 hs.2
  have hw1 : IntKind.i64.wrap (gapI a s + gapI b t) = gapI a s + gapI b t := IntWalk.i64_in _ (by omega)
  have hw2 : IntKind.i64.wrap (gapI a t + gapI b s) = gapI a t + gapI b s := IntWalk.i64_in _ (by omega)
  clear hr hn g1 g2 g3 g4 g5 g6 g7 g8
  go_enter Try.func59, Try.ntmps59
  go_wp2_with fail
  refine (HG.out a s w ha hs).mono ?_
  rintro e w' ⟨rfl, rfl⟩
  go_wp2_with fail
  refine (HG.out b t w hb ht).mono ?_
  rintro e w' ⟨rfl, rfl⟩
  go_wp2_with fail
  refine (HG.out a t w ha ht).mono ?_
  rintro e w' ⟨rfl, rfl⟩
  go_wp2_with fail
  refine (HG.out b s w hb hs).mono ?_
  rintro e w' ⟨rfl, rfl⟩
  go_wp2
  all_goals
    go_ret
    exact ⟨ret_int (by unfold lwF toB; omega), 0, rfl⟩
theorem wk_all (s t : Int) (hs : P50 s) (ht : P50 t) (B : Nat) : ∀ zs : List Int, On50 zs → zs.length ≤ 8 → WkAt s t B zs
  | [], _, _ => wk_zero s t hs ht B
  | x :: r, h, h8 => Wk_step s t B x r h.head h.tail (by rw [List.length_cons] at h8; omega) (toB_bd hs ht) (wk_all s t hs ht B r h.tail (by rw [List.length_cons] at h8; omega))
end Go.Proofs.Ythgllpiclaihjaa
