/-
  The most sets without a common one, and whether a set meets all, of the program.
  Conditions: at most ten nodes, sets below 1024.
  The most sets apart are the most nodes apart; covers meet all.
  Conditions: at most ten nodes, sets below 1024.
  fewestNearAll of the program, walked: the fewest of a set that all sets meet.
  Conditions: at most ten sets, each below 1024.
  The reader that draws inputs: what it answers lies in its range, and it writes its own place alone.
  Conditions: fewer than 100000 draws.
  The reader made; one of a list drawn; homes drawn.
  Conditions: none beyond what each theorem states.
  Numbers drawn out of a list that is written out.
  Conditions: none beyond what each theorem states.
  ballSets of the program, walked: for each cell of a small grid the set of those near it.
  Conditions: at most ten cells.
  BallOf, GridCover and GridApart of the program, walked.
  Conditions: none.
-/
import Derived.Test.YtkgomgfhhhdnjaaZ3
import Derived.Test.YtkgomgfhhhdnjaaZ4
import Derived.Test.YtkgomgfhhhdnjaaZ1
import Derived.Test.YtkgomgfhhhdnjaaZ2
import Derived.Laws.Bits64b
import Derived.Deep.AppendLies
import Derived.Maps.AppendAt
import Derived.Deep.CutBlock
namespace Go.Proofs.Ytkgomgfhhhdnjaa
open Go.ChangeShapes Go.WideShapes Go.ChangeAt Go.RowKit
set_option linter.unusedVariables false
set_option maxRecDepth 4000

theorem and2_u64T : ∀ s : Fin 1024, ∀ t : Fin 1024, bits BinOp.and IntKind.u64 (s.val : Int) (t.val : Int) = ((s.val &&& t.val : Nat) : Int) := fun s t => bits_and_u64_nat s.val t.val (by omega) (by omega)
theorem or2_u64T : ∀ s : Fin 1024, ∀ t : Fin 1024, bits BinOp.or IntKind.u64 (s.val : Int) (t.val : Int) = ((s.val ||| t.val : Nat) : Int) := fun s t => bits_or_u64_nat s.val t.val (by omega) (by omega)
set_option maxHeartbeats 600000 in
theorem mostW_anyT (N : Nat → Nat) (hN : ∀ i, N i < 1024) : ∀ (m k T c : Nat) (A : Option Addr) (w : World), RdU w A N k m → m ≤ c → m ≤ 10 → T < 1024 →
    Calls Try.prog 56 #[.slice A m c, .int .u64 T] w fun e w' => e = .returned (.int .i64 (mw N m k T : Nat)) ∧ ∃ q, w' = w.drewN q
  | 0, k, T, c, A, w, _, _, _, _ => by
    go_enter Try.func56, Try.ntmps56
    go_wp2
    go_ret
    exact ⟨rfl, 0, rfl⟩
  | m + 1, k, T, c, A, w, hr, hc, h7, hT => by
    obtain ⟨b, off, rfl, hcell⟩ := hr (by omega)
    have c0 := hcell 0 (by omega)
    rw [Nat.add_zero, Nat.add_zero] at c0
    obtain ⟨A2, hA2, hrest⟩ : ∃ A2 : Option Addr, ((c = 1 ∧ m = 0 ∧ A2 = some ⟨b, off, none⟩) ∨ (¬ c = 1 ∧ A2 = some ⟨b, off + 1, none⟩)) ∧ ∀ q, RdU (w.drewN q) A2 N (k + 1) m := by
      by_cases hc1 : c = 1
      · exact ⟨_, .inl ⟨hc1, by omega, rfl⟩, fun q hm => by omega⟩
      · refine ⟨_, .inr ⟨hc1, rfl⟩, fun q hm => ⟨b, off + 1, rfl, fun i hi => ?_⟩⟩
        have := hcell (i + 1) (by omega)
        rw [show off + (i + 1) = off + 1 + i by omega, show k + (i + 1) = k + 1 + i by omega] at this
        exact this
    have hand := and2_u64T ⟨N k, hN k⟩ ⟨T, hT⟩
    have hor := or2_u64T ⟨T, hT⟩ ⟨N k, hN k⟩
    simp only at hand hor
    have hT2 : T ||| N k < 1024 := Nat.or_lt_two_pow (n := 10) hT (hN k)
    have ih1 := mostW_anyT N hN m (k + 1) T (c - 1) A2 w (hrest 0) (by omega) (by omega) hT
    have ih2 := fun q => mostW_anyT N hN m (k + 1) (T ||| N k) (c - 1) A2 (w.drewN q) (hrest q) (by omega) (by omega) hT2
    have b1 := mw_bd N m (k + 1) T
    have b2 := mw_bd N m (k + 1) (T ||| N k)
    have hz : (((m + 1 : Nat) : Int) == 0) = false := by rw [beq_eq_false_iff_ne]; omega
    have H1 := Lib.hid ih1
    have H2 := Lib.hid ih2
    obtain ⟨M1, HM1⟩ : ∃ M, Hid (mw N m (k + 1) T = M) := ⟨_, rfl⟩
    obtain ⟨M2, HM2⟩ : ∃ M, Hid (mw N m (k + 1) (T ||| N k) = M) := ⟨_, rfl⟩
    have hmw0 : Hid (mw N (m + 1) k T = if N k &&& T = 0 then max M1 (1 + M2) else M1) := by show _ = _; simp only [mw]; rw [HM1.out, HM2.out]
    rw [HM1.out] at H1 b1
    rw [HM2.out] at H2 b2
    clear ih1 ih2 hrest hcell hr
    by_cases hd : N k &&& T = 0
    · rw [hd] at hand
      have hmw : Hid (mw N (m + 1) k T = max M1 (1 + M2)) := by show _ = _; rw [hmw0.out, if_pos hd]
      have hS1 : bits BinOp.and IntKind.u64 (N k : Int) (T : Int) = 0 := hand
      clear hand hd hmw0
      have w1' : IntKind.i64.wrap (1 + (M2 : Int)) = 1 + (M2 : Int) := IntWalk.i64_in _ (by omega)
      rcases hA2 with ⟨rfl, rfl, rfl⟩ | ⟨hc1, rfl⟩
      all_goals
        go_enter Try.func56, Try.ntmps56
        go_wp2_with fail
        refine H1.out.mono ?_
        rintro e w1 ⟨rfl, q1, rfl⟩
        have Hd := Lib.hid (H2.out (q1 + 1))
        have Hdr : Hid ((w.drewN q1).drew = w.drewN (q1 + 1)) := rfl
        have cq : ∀ a, (w.drewN a).cell? ⟨b, off, none⟩ = some (.int .u64 (N k : Nat)) := fun a => c0
        have cq2 : (w.drewN q1).drew.cell? ⟨b, off, none⟩ = some (.int .u64 (N k : Nat)) := c0
        go_wp2
        go_region_with (
          go_at_call 56
          refine Hd.out.mono ?_
          rintro e wz ⟨rfl, q3, rfl⟩)
        all_goals
          go_wp2
          all_goals
            go_ret
            refine ⟨ret_int (Eq.trans (b := ((max M1 (1 + M2) : Nat) : Int)) ?_ (congrArg (fun x : Nat => (x : Int)) hmw.out.symm)), _, rfl⟩
            rw [Nat.max_def]
            split <;> omega
    · have hmw : Hid (mw N (m + 1) k T = M1) := by show _ = _; rw [hmw0.out, if_neg hd]
      have hne : (((N k &&& T : Nat) : Int) == 0) = false := by rw [beq_eq_false_iff_ne]; omega
      clear hmw0
      rcases hA2 with ⟨rfl, rfl, rfl⟩ | ⟨hc1, rfl⟩
      all_goals
        go_enter Try.func56, Try.ntmps56
        go_wp2_with fail
        refine H1.out.mono ?_
        rintro e w1 ⟨rfl, q1, rfl⟩
        go_wp2
        go_ret
        exact ⟨ret_int (by rw [hmw.out]), _, rfl⟩
theorem ones_bcT : ∀ s : Fin 1024, (bitsOfT s.val).length = bc 10 s.val := by decide +kernel
theorem miss_isT (x S pb : Nat) (w : World) (hx : x < 1024) (hS : S < 1024) (hc : w.cell? ⟨pb, 0, none⟩ = some (.int .u64 S)) {b : Bool} (h : decide (x &&& S = 0) = b) :
    Calls Try.prog 86 #[.int .u64 x, .pointer (some ⟨pb, 0, none⟩)] w fun e w' => e = .returned (.bool b) ∧ ∃ q, w' = w.drewN q := by
  have ha := and2_u64T ⟨x, hx⟩ ⟨S, hS⟩
  simp only at ha
  obtain ⟨y, Hy⟩ : ∃ y, Hid (x &&& S = y) := ⟨_, rfl⟩
  rw [Hy.out] at ha h
  have hb : (((y : Nat) : Int) == 0) = b := by
    rw [← h]
    by_cases e : y = 0
    · subst e; rfl
    · rw [decide_eq_false e, beq_eq_false_iff_ne]; omega
  clear h
  go_enter Try.func86, Try.ntmps86
  go_wp2
  go_ret
  exact ⟨rfl, 0, rfl⟩
set_option maxHeartbeats 800000 in
theorem indexHit_anyT (N : Nat → Nat) (A : Option Addr) (c n S pb : Nat) (w : World) (hN : ∀ i, N i < 1024) (hS : S < 1024) (h7 : n ≤ 10) (hpb : pb < w.heap.size) (hr : ∀ w', Below w.heap.size w w' → RdU w' A N 0 n) (hc : w.cell? ⟨pb, 0, none⟩ = some (.int .u64 S)) :
    Calls Try.prog 93 #[.slice A n c, .func (.func 86) #[] #[.pointer (some ⟨pb, 0, none⟩)]] w (HitIdx N S n w) := by
  have HR := Lib.hid hr
  clear hr
  go_enter Try.func93, Try.ntmps93
  go_wp2
  go_loopw [8] (fun i wr => ∃ k : Nat, k ≤ n ∧ i = .int .i64 k ∧ Hid (∀ v, v < k → ¬ N v &&& S = 0) ∧ Below w.heap.size w wr) (fun i _ => n - (intOf i).toNat)
  case atStart => exact ⟨0, by omega, rfl, fun v hv => by omega, Below.refl _ _⟩
  case round =>
    obtain ⟨k, hk, rfl, Ho, hnx⟩ := hrel
    have hc2 : wr.cell? ⟨pb, 0, none⟩ = some (.int .u64 S) := (hnx.cell (p := ⟨pb, 0, none⟩) hpb).trans hc
    by_cases hlt : k < n
    · obtain ⟨b, off, rfl, hcell⟩ := HR.out wr hnx (by omega)
      have hx := hcell k hlt
      rw [Nat.zero_add] at hx
      have hN128 := hN k
      by_cases h1 : N k &&& S = 0
      · have Hs := Lib.hid (hits_no hlt h1)
        have Hf := Lib.hid (miss_isT (N k) S pb wr hN128 hS hc2 (b := true) (decide_eq_true h1))
        clear h1 hc2 hcell
        go_wp2_with fail
        refine Hf.out.mono ?_
        rintro e w' ⟨rfl, q, rfl⟩
        go_wp2
        go_ret
        exact ⟨_, rfl, fun h => absurd (Hs.out.symm.trans h) (by decide), fun _ => by omega, below_drewN hnx q⟩
      · have Hs : Hid (∀ v, v < k + 1 → ¬ N v &&& S = 0) := fun v hv => by
          by_cases e : v = k
          · subst e; exact h1
          · exact Ho.out v (by omega)
        have Hf := Lib.hid (miss_isT (N k) S pb wr hN128 hS hc2 (b := false) (decide_eq_false h1))
        clear h1 hc2 hcell
        go_wp2_with fail
        refine Hf.out.mono ?_
        rintro e w' ⟨rfl, q, rfl⟩
        go_wp2
        go_roundw
        case rel => exact ⟨k + 1, by omega, by go_num, Hs, below_drewN hnx q⟩
        case measure => simp [intOf]; omega
    · obtain rfl : k = n := by omega
      have Hs := Lib.hid (hits_iff.2 Ho.out)
      go_wp2
      go_ret
      exact ⟨_, rfl, fun _ => rfl, fun h => absurd (Hs.out.symm.trans h) (by decide), hnx⟩
theorem containsHit_anyT (N : Nat → Nat) (A : Option Addr) (c n S pb : Nat) (w : World) (hN : ∀ i, N i < 1024) (hS : S < 1024) (h7 : n ≤ 10) (hpb : pb < w.heap.size) (hr : ∀ w', Below w.heap.size w w' → RdU w' A N 0 n) (hc : w.cell? ⟨pb, 0, none⟩ = some (.int .u64 S)) :
    Calls Try.prog 85 #[.slice A n c, .func (.func 86) #[] #[.pointer (some ⟨pb, 0, none⟩)]] w fun e w' => e = .returned (.bool (!(hits N S n))) ∧ Below w.heap.size w w' := by
  have H := Lib.hid (indexHit_anyT N A c n S pb w hN hS h7 hpb hr hc)
  clear hr hc
  go_enter Try.func85, Try.ntmps85
  go_wp2_with fail
  refine H.out.mono ?_
  rintro e w' ⟨r, rfl, h1, h2, hnx⟩
  by_cases hf : hits N S n = true
  · have := h1 hf
    subst this
    have Hf := Lib.hid hf
    clear h1 h2 hf
    go_wp2
    go_ret
    exact ⟨ret_bool (by rw [Hf.out]; rfl), hnx⟩
  · have hf' : hits N S n = false := by simpa using hf
    have hr0 := h2 hf'
    have Hf := Lib.hid hf'
    clear h1 h2 hf hf'
    go_wp2
    go_ret
    exact ⟨ret_bool (by rw [Hf.out]; simp), hnx⟩
theorem hasAll_anyT (N : Nat → Nat) (A : Option Addr) (c n S : Nat) (w : World) (hN : ∀ i, N i < 1024) (hS : S < 1024) (h7 : n ≤ 10) (hr : ∀ w', Below w.heap.size w w' → RdU w' A N 0 n) :
    Calls Try.prog 73 #[.slice A n c, .int .u64 S] w fun e w' => e = .returned (.bool (hits N S n)) ∧ Below w.heap.size w w' := by
  have hb0 := (Below.refl w.heap.size w).alloc (Nat.le_refl _) (.cells #[.int .u64 S] 68)
  obtain ⟨W, HW⟩ : ∃ W, Hid (w.alloc (.cells #[.int .u64 S] 68) = W) := ⟨_, rfl⟩
  have hsz : W.heap.size = w.heap.size + 1 := by rw [← HW.out]; exact size_alloc1 _ _
  have hcc : W.cell? ⟨w.heap.size, 0, none⟩ = some (.int .u64 S) := by rw [← HW.out, cell_of_row _ _ _ _ _ _ (heap_alloc_new w _)]; rfl
  rw [HW.out] at hb0
  have Hf := Lib.hid (containsHit_anyT N A c n S w.heap.size W hN hS h7 (by omega) (fun w' h => hr w' (hb0.trans (h.mono (by omega)))) hcc)
  have HB := Lib.hid hb0
  clear hr hb0 hcc hsz
  go_enter Try.func73, Try.ntmps73
  go_wp2_with fail
  rw [HW.out]
  refine Hf.out.mono ?_
  rintro e w' ⟨rfl, hnx2⟩
  go_wp2
  go_ret
  exact ⟨ret_bool (by simp), HB.out.trans (hnx2.mono HB.out.size)⟩
end Go.Proofs.Ytkgomgfhhhdnjaa
namespace Go.Proofs.Ytkgomgfhhhdnjaa
open Go.ChangeShapes Go.WideShapes Go.ChangeAt Go.RowKit
set_option linter.unusedVariables false
set_option maxRecDepth 4000

theorem mw_pkRT {d : Nat → Nat → Int} {far : Int} {n : Nat} {N : Nat → Nat} (h7 : n ≤ 10) (hN : ∀ i, i < n → ∀ v, (N i).testBit v = true ↔ v < n ∧ 0 ≤ d v i ∧ d v i ≤ far) : mw N n 0 0 = pkBT d far n (2 ^ n) := by
  apply Nat.le_antisymm
  · obtain ⟨s, h1, _, h2, h3⟩ := mw_atT N h7 n 0 0 (by omega)
    rw [← h3]
    exact le_pkBT h1 ((fine_iffR h1 hN).2 h2)
  · refine pkB_leT _ fun s hs hf => ?_
    rw [← cn_bcT h7 hs]
    exact mw_ge N s n 0 0 ((fine_iffR hs hN).1 hf)
end Go.Proofs.Ytkgomgfhhhdnjaa
namespace Go.Proofs.Ytkgomgfhhhdnjaa
open Go.ChangeShapes Go.WideShapes Go.ChangeAt Go.RowKit
set_option linter.unusedVariables false
set_option maxRecDepth 4000

/-- The fewest among the sets below S. -/
def fwH (N : Nat → Nat) (n : Nat) : Nat → Nat
  | 0 => n
  | S + 1 => if hits N S n = true then min (fwH N n S) (bc 10 S) else fwH N n S
theorem fwH_bd (N : Nat → Nat) (n : Nat) : ∀ S, fwH N n S ≤ n
  | 0 => Nat.le_refl _
  | S + 1 => by have := fwH_bd N n S; simp only [fwH]; split <;> omega
theorem bc_7_10 : ∀ s : Fin 128, bc 7 s.val = bc 10 s.val := by decide +kernel
theorem fwH_cvN {d : Nat → Nat → Int} {far : Int} {n : Nat} {N : Nat → Nat} (h7 : n ≤ 7) (h : ∀ S, cvF d far S n n = hits N S n) : ∀ S, S ≤ 2 ^ n → cvN d far n S = fwH N n S
  | 0, _ => rfl
  | S + 1, hS => by
    have h2 : 2 ^ n ≤ 128 := Nat.pow_le_pow_right (show 2 > 0 by omega) h7
    have := bc_7_10 ⟨S, by omega⟩
    simp only at this
    simp only [cvN, fwH]
    rw [fwH_cvN h7 h S (by omega), h S, this]
theorem fwH_cvT {d : Nat → Nat → Int} {far : Int} {n : Nat} {N : Nat → Nat} (h : ∀ S, cvF d far S n n = hits N S n) : ∀ S, cvNT d far n S = fwH N n S
  | 0 => rfl
  | S + 1 => by
    simp only [cvNT, fwH]
    rw [fwH_cvT h S, h S]
theorem wrap_pow11 : ∀ i : Fin 11, IntKind.u64.wrap ((2 : Int) ^ i.val) = ((2 ^ i.val : Nat) : Int) := by decide +kernel
set_option maxHeartbeats 1600000 in
theorem fewestAll_any (N : Nat → Nat) (A : Option Addr) (c n : Nat) (w : World) (hN : ∀ i, N i < 1024) (h10 : n ≤ 10) (hr : ∀ w', Below w.heap.size w w' → RdU w' A N 0 n) :
    Calls Try.prog 52 #[.slice A n c] w fun e w' => e = .returned (.int .i64 (fwH N n (2 ^ n) : Nat)) ∧ Below w.heap.size w w' := by
  have Hha : Hid (∀ wr S, Below w.heap.size w wr → S < 1024 → Calls Try.prog 73 #[.slice A n c, .int .u64 (S : Nat)] wr fun e w' => e = .returned (.bool (hits N S n)) ∧ Below wr.heap.size wr w') := fun wr S hb hS =>
    hasAll_anyT N A c n S wr hN hS h10 (fun w' h => hr w' (hb.trans (h.mono hb.size)))
  clear hr
  have h1024 : 2 ^ n ≤ 1024 := Nat.pow_le_pow_right (show 2 > 0 by omega) h10
  have hwp := wrap_pow11 ⟨n, by omega⟩
  simp only at hwp
  obtain ⟨P, HP⟩ : ∃ P : Nat, Hid (2 ^ n = P) := ⟨_, rfl⟩
  rw [HP.out] at h1024 hwp ⊢
  go_enter Try.func52, Try.ntmps52
  go_wp2
  go_loopw [3, 10] (fun f s wr => ∃ S : Nat, S ≤ P ∧ s = .int .u64 S ∧ f = .int .i64 (fwH N n S : Nat) ∧ Below w.heap.size w wr) (fun _ s _ => P - (intOf s).toNat)
  case atStart => exact ⟨0, Nat.zero_le _, rfl, rfl, Below.refl _ _⟩
  case round =>
    obtain ⟨S, hSP, rfl, rfl, hbl⟩ := hrel
    obtain ⟨F, HF⟩ : ∃ F, Hid (fwH N n S = F) := ⟨_, rfl⟩
    have hF10 := fwH_bd N n S
    rw [HF.out] at hF10 ⊢
    by_cases hlt : S < P
    · have Hh := Lib.hid (Hha.out wr S hbl (by omega))
      have Ho := Lib.hid (fun W => ones_smallT S (by omega) W)
      rw [ones_bcT ⟨S, by omega⟩] at Ho
      by_cases hc : hits N S n = true
      · rw [hc] at Hh
        obtain ⟨C, HC⟩ : ∃ C, Hid (bc 10 S = C) := ⟨_, rfl⟩
        simp only at Ho
        rw [HC.out] at Ho
        have Hnx : Hid (fwH N n (S + 1) = min F C) := by show _ = _; simp only [fwH]; rw [if_pos hc, HF.out, HC.out]
        have hC10 : C ≤ 10 := by rw [← HC.out]; exact bc_le 10 S
        clear hc
        by_cases hfc : F ≤ C
        · have Hnx2 : Hid (fwH N n (S + 1) = F) := by show _ = _; rw [Hnx.out]; omega
          go_wp2_with fail
          refine Hh.out.mono ?_
          rintro e w6 ⟨rfl, hnx6⟩
          go_wp2_with fail
          refine (Ho.out w6).mono ?_
          rintro e w' ⟨rfl, rfl⟩
          go_wp2
          go_roundw
          case rel => exact ⟨S + 1, by omega, by go_num, by rw [Hnx2.out], hbl.trans (hnx6.mono hbl.size)⟩
          case measure => simp [intOf]; omega
        · have Hnx2 : Hid (fwH N n (S + 1) = C) := by show _ = _; rw [Hnx.out]; omega
          go_wp2_with fail
          refine Hh.out.mono ?_
          rintro e w6 ⟨rfl, hnx6⟩
          go_wp2_with fail
          refine (Ho.out w6).mono ?_
          rintro e w' ⟨rfl, rfl⟩
          go_wp2
          go_roundw
          case rel => exact ⟨S + 1, by omega, by go_num, by rw [Hnx2.out], hbl.trans (hnx6.mono hbl.size)⟩
          case measure => simp [intOf]; omega
      · have hc1 : hits N S n = false := by simpa using hc
        rw [hc1] at Hh
        have Hnx2 : Hid (fwH N n (S + 1) = F) := by show _ = _; simp only [fwH]; rw [if_neg hc, HF.out]
        clear hc hc1
        go_wp2_with fail
        refine Hh.out.mono ?_
        rintro e w6 ⟨rfl, hnx6⟩
        go_wp2
        go_roundw
        case rel => exact ⟨S + 1, by omega, by go_num, by rw [Hnx2.out], hbl.trans (hnx6.mono hbl.size)⟩
        case measure => simp [intOf]; omega
    · have hSP2 : S = P := by omega
      have HE : Hid (F = fwH N n P) := by show _ = _; rw [← HF.out, hSP2]
      clear hSP2
      go_wp2
      go_ret
      exact ⟨ret_int (by rw [HE.out]), hbl⟩
end Go.Proofs.Ytkgomgfhhhdnjaa
namespace Go.Proofs.Ytkgomgfhhhdnjaa
open Go.ChangeShapes Go.WideShapes Go.ChangeAt Go.RowKit
set_option linter.unusedVariables false

/-- Block R is a reader over bytes below B, at most k draws on. -/
def GR (w : World) (B R k : Nat) : Prop :=
  ∃ A c bs, ∃ p : Int, B ≤ R ∧ w.heap[R]? = some (.cells #[.slice A bs.length c, .int .i64 p] 81 (0, 0)) ∧ RdB w B A bs ∧ bs.length ≤ 2000 ∧ 0 ≤ p ∧ p ≤ k
theorem GR.lt {w : World} {B R k : Nat} (h : GR w B R k) : R < w.heap.size := by
  obtain ⟨A, c, bs, p, hB, hh, _⟩ := h
  rcases Nat.lt_or_ge R w.heap.size with hlt | hge
  · exact hlt
  · rw [Array.getElem?_eq_none hge] at hh; cases hh
theorem GR.le {w : World} {B R k : Nat} (h : GR w B R k) : B ≤ R := by obtain ⟨A, c, bs, p, hB, _⟩ := h; exact hB
theorem GR.more {w : World} {B R k k' : Nat} (h : GR w B R k) (hk : k ≤ k') : GR w B R k' := by
  obtain ⟨A, c, bs, p, hB, hh, hr, hl, h0, h1⟩ := h
  exact ⟨A, c, bs, p, hB, hh, hr, hl, h0, by omega⟩
/-- What is done elsewhere leaves the reader. -/
theorem GR.kept {w w' : World} {B R k : Nat} {row : Option Nat} (h : GR w B R k) (hg : w.grownBy w' row) (hr : ∀ g, row = some g → R < g) : GR w' B R k := by
  have hlt := h.lt
  obtain ⟨A, c, bs, p, hB, hh, hrd, hl, h0, h1⟩ := h
  refine ⟨A, c, bs, p, hB, ?_, hrd.keep fun q hq => World.cell?_of_block (hg.block q.block (by omega) (fun e => by have := hr _ e.symm; omega)), hl, h0, h1⟩
  rw [hg.block R hlt (fun e => by have := hr _ e.symm; omega)]
  exact hh

def PickPost (B R k : Nat) (n : Int) (w : World) (e : Ending) (w' : World) : Prop :=
  ∃ v : Int, e = .returned (.int .i64 v) ∧ 0 ≤ v ∧ (1 ≤ n → v < n) ∧ (n < 1 → v = 0) ∧ GR w' B R (k + 1) ∧ w.grownBy w' (some R)

theorem pick_world {w : World} {B R k : Nat} {A : Option Addr} {c : Nat} {bs : List Int} {p : Int} (hB : B ≤ R) (hh : w.heap[R]? = some (.cells #[.slice A bs.length c, .int .i64 p] 81 (0, 0)))
    (hrd : RdB w B A bs) (hl : bs.length ≤ 2000) (h0 : 0 ≤ p) (h1 : p ≤ k) (q : Nat) :
    GR ((w.setCell ⟨R, 1, none⟩ (.int .i64 (p + 1))).drewN q) B R (k + 1) ∧ w.grownBy ((w.setCell ⟨R, 1, none⟩ (.int .i64 (p + 1))).drewN q) (some R) := by
  refine ⟨⟨A, c, bs, p + 1, hB, ?_, ?_, hl, by omega, by omega⟩, ⟨rfl, rfl, rfl, by simp [World.setCell], fun i hi hne => ?_⟩⟩
  · show (w.setCell ⟨R, 1, none⟩ (.int .i64 (p + 1))).heap[R]? = _
    simp [World.setCell, Array.getElem?_modify, hh]
  · exact hrd.keep fun x hx => World.cell?_setCell_other w ⟨R, 1, none⟩ x _ (fun e => by subst e; simp at hx; omega)
  · exact Below.heap_setCell w _ _ i (by rintro rfl; exact hne rfl)

theorem pick_world0 {w : World} {B R k : Nat} {A : Option Addr} {c : Nat} {bs : List Int} {p : Int} (hB : B ≤ R) (hh : w.heap[R]? = some (.cells #[.slice A bs.length c, .int .i64 p] 81 (0, 0)))
    (hrd : RdB w B A bs) (hl : bs.length ≤ 2000) (h0 : 0 ≤ p) (h1 : p ≤ k) :
    GR (w.setCell ⟨R, 1, none⟩ (.int .i64 (p + 1))) B R (k + 1) ∧ w.grownBy (w.setCell ⟨R, 1, none⟩ (.int .i64 (p + 1))) (some R) := by
  have h := pick_world (k := k) hB hh hrd hl h0 h1 0
  exact ⟨h.1, ⟨h.2.os, h.2.tape, h.2.output, h.2.size, h.2.block⟩⟩

theorem rem_bd {x n : Int} (hx : 0 ≤ x) (hn : 1 ≤ n) : 0 ≤ x % n ∧ x % n < n := ⟨Int.emod_nonneg _ (by omega), Int.emod_lt_of_pos _ (by omega)⟩

theorem i64_xor_small (a b : Nat) (ha : a < 1073741824) (hb : b < 1073741824) : 0 ≤ bits .xor .i64 (a : Int) (b : Int) := by
  have hx : a ^^^ b < 2 ^ 30 := Nat.xor_lt_two_pow (by omega) (by omega)
  show 0 ≤ IntKind.i64.wrap ((BitVec.ofInt 64 (a : Int) ^^^ BitVec.ofInt 64 (b : Int)).toNat : Int)
  rw [BitVec.toNat_xor, ofInt_u64 a (by omega), ofInt_u64 b (by omega), IntWalk.i64_in _ (by omega)]
  omega
theorem pick_num {S n : Int} (h0 : 0 ≤ S) (h1 : S ≤ 1000000000) (hn : 1 ≤ n) : 0 ≤ (bits .xor .i64 S (S / 64)).tmod n ∧ (bits .xor .i64 S (S / 64)).tmod n < n := by
  obtain ⟨s, rfl⟩ := Int.eq_ofNat_of_zero_le h0
  have hx := i64_xor_small s (s / 64) (by omega) (by omega)
  rw [show ((s : Int) / 64) = ((s / 64 : Nat) : Int) by omega, Int.tmod_eq_emod_of_nonneg hx]
  exact ⟨Int.emod_nonneg _ (by omega), Int.emod_lt_of_pos _ (by omega)⟩

set_option maxHeartbeats 800000 in
theorem pick_any (R B k : Nat) (n : Int) (w : World) (hg : GR w B R k) (hk : k ≤ 100000) (hn1 : -1000000 ≤ n) (hn2 : n ≤ 1000000) :
    Calls Try.prog 43 #[.pointer (some ⟨R, 0, none⟩), .int .i64 n] w (PickPost B R k n w) := by
  obtain ⟨A, c, bs, p, hB, hh, hrd, hl, h0, h1⟩ := hg
  have Hw := Lib.hid (fun q => pick_world hB hh hrd hl h0 h1 q)
  have Hw0 := Lib.hid (pick_world0 hB hh hrd hl h0 h1)
  have c0 : w.cell? ⟨R, 0, none⟩ = some (.slice A bs.length c) := by simp [World.cell?, hh]
  have c1 : w.cell? ⟨R, 1, none⟩ = some (.int .i64 p) := by simp [World.cell?, hh]
  have f1 : w.frozen? ⟨R, 1, none⟩ = false := by simp [World.frozen?, hh]
  clear hh
  obtain ⟨m, rfl⟩ := Int.eq_ofNat_of_zero_le h0
  by_cases hn : n < 1
  · go_enter Try.func43, Try.ntmps43
    go_wp2
    go_ret
    exact ⟨0, rfl, by omega, fun h => by omega, fun _ => rfl, Hw0.out.1, Hw0.out.2⟩
  · have hn' : 1 ≤ n := by omega
    clear hn
    obtain ⟨L, HL⟩ : ∃ L, Hid (bs.length = L) := ⟨_, rfl⟩
    rw [HL.out] at c0 hl
    by_cases hL : L = 0
    · subst hL
      go_enter Try.func43, Try.ntmps43
      go_wp2
      go_ret
      exact ⟨0, rfl, by omega, fun h => by omega, fun _ => rfl, Hw0.out.1, Hw0.out.2⟩
    · have hL1 : 1 ≤ L := by omega
      have hLb : ((L : Int) == 0) = false := by rw [beq_eq_false_iff_ne]; omega
      clear hL
      by_cases hm : m < L
      · obtain ⟨b, off, x, rfl, hb, Hx, hx0, hx1, hcx⟩ := hrd.x (k := m) (by rw [HL.out]; exact hm)
        have hcx' : (w.setCell ⟨R, 1, none⟩ (.int .i64 (↑m + 1))).cell? ⟨b, off + m, none⟩ = some (.int .u8 x) := by
          rw [World.cell?_setCell_other w ⟨R, 1, none⟩ _ _ (by intro e; injection e with e; omega)]; exact hcx
        clear hcx
        have hr := rem_bd hx0 hn'
        have Hr := Lib.hid hr
        clear hr
        go_enter Try.func43, Try.ntmps43
        go_wp2
        go_ret
        exact ⟨_, rfl, Hr.out.1, fun _ => Hr.out.2, fun h => by omega, Hw0.out.1, Hw0.out.2⟩
      · have hm' : L ≤ m := by omega
        clear hm
        have hmk : m ≤ 100000 := by omega
        have hi1 : m % L < L := Nat.mod_lt _ (by omega)
        have hi2 : (m * 7 + 3) % L < L := Nat.mod_lt _ (by omega)
        obtain ⟨b, off, x, rfl, hb, Hx, hx0, hx1, hcx⟩ := hrd.x (k := m % L) (by rw [HL.out]; exact hi1)
        obtain ⟨b', off', y, he, hb', Hy, hy0, hy1, hcy⟩ := hrd.x (k := (m * 7 + 3) % L) (by rw [HL.out]; exact hi2)
        injection he with he
        injection he with he1 he2
        subst he1 he2
        have hcx' : (w.setCell ⟨R, 1, none⟩ (.int .i64 (↑m + 1))).cell? ⟨b, off + m % L, none⟩ = some (.int .u8 x) := by
          rw [World.cell?_setCell_other w ⟨R, 1, none⟩ _ _ (by intro e; injection e with e; omega)]; exact hcx
        have hcy' : (w.setCell ⟨R, 1, none⟩ (.int .i64 (↑m + 1))).cell? ⟨b, off + (m * 7 + 3) % L, none⟩ = some (.int .u8 y) := by
          rw [World.cell?_setCell_other w ⟨R, 1, none⟩ _ _ (by intro e; injection e with e; omega)]; exact hcy
        clear hcx hcy
        obtain ⟨i1, Hi1⟩ : ∃ i1, Hid (m % L = i1) := ⟨_, rfl⟩
        obtain ⟨i2, Hi2⟩ : ∃ i2, Hid ((m * 7 + 3) % L = i2) := ⟨_, rfl⟩
        obtain ⟨d, Hd⟩ : ∃ d, Hid (m / L = d) := ⟨_, rfl⟩
        have hd : d ≤ m := by rw [← Hd.out]; exact Nat.div_le_self _ _
        rw [Hi1.out] at hcx' hi1
        rw [Hi2.out] at hcy' hi2
        have e1 : (m : Int).tmod (L : Int) = (i1 : Int) := by rw [← Hi1.out]; exact (Int.ofNat_tmod m L).symm
        have e2 : ((m : Int) * 7 + 3).tmod (L : Int) = (i2 : Int) := by rw [← Hi2.out]; exact (Int.ofNat_tmod (m * 7 + 3) L).symm
        have e3 : (m : Int).tdiv (L : Int) = (d : Int) := by rw [← Hd.out]; exact (Int.ofNat_tdiv m L).symm
        have w1 : IntKind.i64.wrap ((m : Int) * 7) = (m : Int) * 7 := IntWalk.i64_in _ (by omega)
        have w2 : IntKind.i64.wrap ((m : Int) * 7 + 3) = (m : Int) * 7 + 3 := IntWalk.i64_in _ (by omega)
        have w3 : IntKind.i64.wrap (x * 131) = x * 131 := IntWalk.i64_in _ (by omega)
        have w4 : IntKind.i64.wrap (y * 1117) = y * 1117 := IntWalk.i64_in _ (by omega)
        have w5 : IntKind.i64.wrap (x * 131 + y * 1117) = x * 131 + y * 1117 := IntWalk.i64_in _ (by omega)
        have w6 : IntKind.i64.wrap ((m : Int) * 29) = (m : Int) * 29 := IntWalk.i64_in _ (by omega)
        have w7 : IntKind.i64.wrap (x * 131 + y * 1117 + (m : Int) * 29) = x * 131 + y * 1117 + (m : Int) * 29 := IntWalk.i64_in _ (by omega)
        have w8 : IntKind.i64.wrap ((d : Int) * 53) = (d : Int) * 53 := IntWalk.i64_in _ (by omega)
        have w9 : IntKind.i64.wrap (x * 131 + y * 1117 + (m : Int) * 29 + (d : Int) * 53) = x * 131 + y * 1117 + (m : Int) * 29 + (d : Int) * 53 := IntWalk.i64_in _ (by omega)
        have hLn : ¬ (L : Int) = 0 := by omega
        have hLn' : ¬ L = 0 := by omega
        have j1 : (i1 : Int) < (L : Int) := by omega
        have j2 : (i2 : Int) < (L : Int) := by omega
        go_enter Try.func43, Try.ntmps43
        go_wp2
        go_quiet (fail)
        clear w1 w2 w3 w4 w5 w6 w7 w8 w9 e1 e2 e3
        have hS0 : 0 ≤ x * 131 + y * 1117 + (m : Int) * 29 + (d : Int) * 53 := by omega
        have hS1 : x * 131 + y * 1117 + (m : Int) * 29 + (d : Int) * 53 ≤ 1000000000 := by omega
        generalize x * 131 + y * 1117 + (m : Int) * 29 + (d : Int) * 53 = S at hS0 hS1 ⊢
        have Hf := Lib.hid (pick_num hS0 hS1 hn')
        go_wp2
        go_ret
        exact ⟨_, rfl, Hf.out.1, fun _ => Hf.out.2, fun h => by omega, (Hw.out nq).1, (Hw.out nq).2⟩
end Go.Proofs.Ytkgomgfhhhdnjaa
namespace Go.Proofs.Ytkgomgfhhhdnjaa
open Go.ChangeShapes Go.WideShapes Go.ChangeAt Go.RowKit
set_option linter.unusedVariables false

theorem gr_new {w : World} {A : Option Addr} {c : Nat} {bs : List Int} {n : Nat} (hr : RdB w w.heap.size A bs) (hn : bs.length = n) (hl : n ≤ 2000) :
    GR (w.alloc (.cells #[.slice A n c, .int .i64 0] 81)) w.heap.size w.heap.size 0 := by
  subst hn
  exact ⟨A, c, bs, 0, Nat.le_refl _, heap_alloc_new w _, hr.keep (fun p hp => World.cell?_alloc_lt w _ p hp), hl, by omega, by omega⟩

def MadeReader (w : World) (e : Ending) (w' : World) : Prop :=
  e = .returned (.pointer (some ⟨w.heap.size, 0, none⟩)) ∧ GR w' w.heap.size w.heap.size 0 ∧ Below w.heap.size w w'

set_option maxHeartbeats 400000 in
theorem newReader_any (A : Option Addr) (c n : Nat) (bs : List Int) (w : World) (hr : RdB w w.heap.size A bs) (hn : bs.length = n) (hc : n ≤ c) (hm : c ≤ 9223372036854775807) :
    Calls Try.prog 40 #[.slice A n c] w (MadeReader w) := by
  by_cases h2 : 2000 < n
  · have hr2 : RdB w w.heap.size A (bs.take 2000) := by
      refine ⟨fun x hx => hr.1 x (List.mem_of_mem_take hx), fun hp => ?_⟩
      obtain ⟨b, off, e, hb, hcl⟩ := hr.2 (by omega)
      refine ⟨b, off, e, hb, fun i hi => ?_⟩
      have hi2 : i < 2000 := by rw [List.length_take] at hi; omega
      rw [hcl i (by omega)]
      simp [hi2]
    have hg := gr_new (n := 2000) (c := c) hr2 (by rw [List.length_take]; omega) (Nat.le_refl _)
    have Hg := Lib.hid hg
    clear hg hr2
    have Hn := Lib.hid hn
    clear hn
    have hc2 : 2000 ≤ c := by omega
    go_enter Try.func40, Try.ntmps40
    go_wp2
    go_ret
    exact ⟨rfl, Hg.out, (Below.refl _ _).alloc (Nat.le_refl _) _⟩
  · have hg := gr_new (c := c) hr hn (by omega)
    have Hg := Lib.hid hg
    clear hg
    have Hn := Lib.hid hn
    clear hn
    go_enter Try.func40, Try.ntmps40
    go_wp2
    go_ret
    exact ⟨rfl, Hg.out, (Below.refl _ _).alloc (Nat.le_refl _) _⟩

/-- One of a list of numbers that lies in a block of its own. -/
def OnePost (B R k : Nat) (lo hi : Int) (w : World) (e : Ending) (w' : World) : Prop :=
  ∃ v : Int, e = .returned (.int .i64 v) ∧ lo ≤ v ∧ v ≤ hi ∧ GR w' B R (k + 1) ∧ w.grownBy w' (some R)

set_option maxHeartbeats 400000 in
theorem one_any (R B k g : Nat) (zs : List Int) (n c : Nat) (lo hi : Int) (w : World) (hg : GR w B R k) (hk : k ≤ 100000) (hn : zs.length = n) (hn1 : 1 ≤ n) (hn2 : n ≤ 1000)
    (hgR : g ≠ R) (hcl : ∀ i, i < n → w.cell? ⟨g, i, none⟩ = some (.int .i64 (zs.getD i 0))) (hbd : ∀ x ∈ zs, lo ≤ x ∧ x ≤ hi) :
    Calls Try.prog 42 #[.pointer (some ⟨R, 0, none⟩), .slice (some ⟨g, 0, none⟩) n c] w (OnePost B R k lo hi w) := by
  have Hn := Lib.hid hn
  clear hn
  have Hcl := Lib.hid hcl
  clear hcl
  have Hbd := Lib.hid hbd
  clear hbd
  go_enter Try.func42, Try.ntmps42
  go_wp2_with fail
  refine (pick_any R B k n w hg hk (by omega) (by omega)).mono ?_
  rintro e w1 ⟨v, rfl, hv0, hv1, -, hg1, hgr⟩
  obtain ⟨i, rfl⟩ := Int.eq_ofNat_of_zero_le hv0
  have hin : i < n := by have := hv1 (by omega); omega
  have hgl : g < w.heap.size := by
    have h0 := Hcl.out 0 (by omega)
    exact World.block_lt_of_cell? w _ h0
  have hc1 : w1.cell? ⟨g, i, none⟩ = some (.int .i64 (zs.getD i 0)) := (World.cell?_of_block (hgr.block g hgl (by intro e; injection e with e; exact hgR e))).trans (Hcl.out i hin)
  obtain ⟨x, Hx⟩ : ∃ x, Hid (zs.getD i 0 = x) := ⟨_, rfl⟩
  rw [Hx.out] at hc1
  clear hv1
  go_wp2
  go_ret
  have hm : x ∈ zs := by rw [← Hx.out]; simp [List.getD, List.getElem?_eq_getElem (show i < zs.length by rw [Hn.out]; exact hin)]
  exact ⟨x, rfl, (Hbd.out x hm).1, (Hbd.out x hm).2, hg1, hgr⟩
end Go.Proofs.Ytkgomgfhhhdnjaa
namespace Go.Proofs.Ytkgomgfhhhdnjaa
open Go.ChangeShapes Go.WideShapes Go.ChangeAt Go.RowKit
set_option linter.unusedVariables false
set_option maxRecDepth 4000

theorem lit_cells (w : World) (zs : List Int) (g : Nat) (hg : g = w.heap.size) (t : TypeId) : ∀ i, i < zs.length → (w.alloc (.cells (zs.map (Value.int .i64)).toArray t)).cell? ⟨g, i, none⟩ = some (.int .i64 (zs.getD i 0)) := by
  intro i hi
  subst hg
  rw [cell_of_row _ _ _ _ t (0, 0) (heap_alloc_new w _)]
  simp [hi]
theorem own_slice {w : World} {B n : Nat} {v : Value} {zs : List Int} (h : w.ownsRow B 3 1 v n (zs.map (Value.int .i64))) (hn : zs.length = n) :
    ∃ A c, v = .slice A n c ∧ n ≤ c ∧ c ≤ 9223372036854775807 ∧ RdI w w.heap.size A zs := by
  have h0 := h
  rcases h.2 with ⟨rfl, rfl⟩ | ⟨g, cap, cur, rfl, _, _, hnc, hmx, _⟩
  · exact ⟨none, 0, rfl, Nat.le_refl _, by omega, fun hp => by omega⟩
  · exact ⟨_, cap, rfl, hnc, hmx, rdI_of_own h0 hn⟩

/-- One of the numbers of a list that is written out. -/
theorem oneLit (R B k : Nat) (zs : List Int) (n : Nat) (lo hi : Int) (w : World) (cs : Array Value) (hg : GR w B R k) (hk : k ≤ 100000) (hn : zs.length = n) (hn1 : 1 ≤ n) (hn2 : n ≤ 1000)
    (hcs : (zs.map (Value.int .i64)).toArray = cs) (hbd : ∀ x ∈ zs, lo ≤ x ∧ x ≤ hi) :
    Calls Try.prog 42 #[.pointer (some ⟨R, 0, none⟩), .slice (some ⟨w.heap.size, 0, none⟩) n n] (w.alloc (.cells cs 3)) (OnePost B R k lo hi w) := by
  have hga : GR (w.alloc (.cells cs 3)) B R k := hg.kept (row := none) (World.grownBy_alloc _ _ _) (fun g h => by cases h)
  refine (one_any R B k w.heap.size zs n n lo hi _ hga hk hn hn1 hn2 (by have := hg.lt; omega) (by rw [← hn, ← hcs]; exact lit_cells w zs _ rfl _) hbd).mono ?_
  rintro e w2 ⟨m, rfl, hm2, hm3, hg2, hgr2⟩
  exact ⟨m, rfl, hm2, hm3, hg2, gb_trans (World.grownBy_alloc w _ _) hgr2 (.inl rfl)⟩
/-- The same where the list's block is given by its number. -/
theorem oneLitAt (g : Nat) (R B k : Nat) (zs : List Int) (n : Nat) (lo hi : Int) (w : World) (cs : Array Value) (hg : GR w B R k) (hk : k ≤ 100000) (hn : zs.length = n) (hn1 : 1 ≤ n) (hn2 : n ≤ 1000)
    (hcs : (zs.map (Value.int .i64)).toArray = cs) (hbd : ∀ x ∈ zs, lo ≤ x ∧ x ≤ hi) (he : w.heap.size = g) :
    Calls Try.prog 42 #[.pointer (some ⟨R, 0, none⟩), .slice (some ⟨g, 0, none⟩) n n] (w.alloc (.cells cs 3)) (OnePost B R k lo hi w) := by
  subst he
  exact oneLit R B k zs n lo hi w cs hg hk hn hn1 hn2 hcs hbd
end Go.Proofs.Ytkgomgfhhhdnjaa
namespace Go.Proofs.Ytkgomgfhhhdnjaa
open Go.ChangeShapes Go.WideShapes Go.ChangeAt Go.RowKit
set_option linter.unusedVariables false
set_option maxRecDepth 4000

theorem stO_snoc (L : List Nat) (x : Nat) : stO (L ++ [x]) = stO L ||| 2 ^ x := by
  induction L with
  | nil => rfl
  | cons i L ih => simp only [List.cons_append, stO]; rw [ih, Nat.or_assoc, Nat.or_assoc, Nat.or_comm (2 ^ x)]
/-- The cells near a cell of an open grid. -/
theorem cw_ball {w h n k : Nat} {far : Int} : cwL (fun x y => decide (((stA false w h (k % w) (k / w) x y : Nat) : Int) ≤ far)) w n = ballL w n k far := by
  unfold cwL ballL ballN stG stN stA axN
  congr 1
  refine List.filter_congr fun i _ => ?_
  simp only [Bool.false_eq_true, if_false]
  rw [Nat.add_comm]
/-- The set of those near a cell. -/
def gNm (w n : Nat) (far : Int) (k : Nat) : Nat := stO (ballN w n k far)
theorem gNm_bit {w n k v : Nat} {far : Int} : (gNm w n far k).testBit v = true ↔ v < n ∧ stG w k v ≤ far := by
  unfold gNm; rw [stO_iff, ballN_mem]
theorem gNm_lt {w n k : Nat} {far : Int} (hn : n ≤ 10) : gNm w n far k < 1024 := by
  have := stO_lt (n := 10) (J := ballN w n k far) fun i hi => by have := (ballN_mem.1 hi).1; omega
  exact this
theorem stO_takeT {w n k m : Nat} {far : Int} (hn : n ≤ 10) : stO ((ballN w n k far).take m) < 1024 := by
  have := stO_lt (n := 10) (J := (ballN w n k far).take m) fun i hi => by have := (ballN_mem.1 (List.mem_of_mem_take hi)).1; omega
  exact this
def MsG (N : Nat → Nat) (n i cur : Nat) : List Value := (List.range n).map fun j => .int .u64 ((if j < i then N j else if j = i then cur else 0 : Nat) : Int)
theorem MsG_len (N : Nat → Nat) (n i cur : Nat) : (MsG N n i cur).length = n := by simp [MsG]
theorem MsG_get {N : Nat → Nat} {n i cur : Nat} (hi : i < n) : (MsG N n i cur)[i]? = some (.int .u64 (cur : Nat)) := by simp [MsG, hi]
theorem MsG_set {N : Nat → Nat} {n i cur nxt : Nat} (hi : i < n) : (MsG N n i cur).set i (.int .u64 (nxt : Nat)) = MsG N n i nxt := by
  unfold MsG
  apply List.ext_getElem?
  intro j
  rw [List.getElem?_set]
  by_cases hj : j < n
  · by_cases e : i = j
    · subst e; simp [hi]
    · simp [hj, e, show ¬ j = i from fun h => e h.symm]
  · simp [hj]; omega
theorem MsG_next {N : Nat → Nat} {n i : Nat} : MsG N n i (N i) = MsG N n (i + 1) 0 := by
  unfold MsG
  refine List.map_congr_left fun j hj => ?_
  by_cases h1 : j < i
  · rw [if_pos h1, if_pos (by omega)]
  · by_cases h2 : j = i
    · subst h2; rw [if_neg h1, if_pos rfl, if_pos (by omega)]
    · rw [if_neg h1, if_neg h2, if_neg (by omega)]
      by_cases h3 : j = i + 1
      · rw [if_pos h3]
      · rw [if_neg h3]
theorem ball_next {w n k m x : Nat} {far : Int} (hm : m < (ballN w n k far).length) (hx : (ballN w n k far)[m] = x) : stO ((ballN w n k far).take (m + 1)) = stO ((ballN w n k far).take m) ||| 2 ^ x := by
  rw [List.take_succ_eq_append_getElem hm, stO_snoc, hx]
def SetsG (w n : Nat) (far : Int) (W : World) (e : Ending) (w' : World) : Prop :=
  ∃ g, e = .returned (.slice (some ⟨g, 0, none⟩) n n) ∧ w'.ownsRow W.heap.size 68 1 (.slice (some ⟨g, 0, none⟩) n n) n (MsG (gNm w n far) n n 0) ∧ Below W.heap.size W w'
set_option maxHeartbeats 1600000 in
theorem ballSets_any (w h n : Nat) (far : Int) (W : World) (hw1 : 1 ≤ w) (hw : w ≤ 10) (hh : h ≤ 10) (hn : w * h = n) (hn1 : 1 ≤ n) (hn10 : n ≤ 10) :
    Calls Try.prog 53 #[.agg #[.int .i64 w, .int .i64 h, .bool false], .int .i64 far] W (SetsG w n far W) := by
  obtain ⟨iu, hiu, hzu0, hzu1, hzu2⟩ := info_parts uInfo
  have HN := Lib.hid (fun V => iCells_any w h false V hw hh hn)
  have HBall := Lib.hid (fun (k : Nat) (V : World) (hk : k < n) => by have := iBall_any w h n k false far V hw1 hw hh hn hk; rw [cw_ball] at this; exact this)
  have hW1 : Below W.heap.size W (W.alloc (.cells #[.int .i64 w, .int .i64 h, .bool false] 57)) := (Below.refl _ _).alloc (Nat.le_refl _) _
  have hg0 : (W.alloc (.cells #[.int .i64 w, .int .i64 h, .bool false] 57)).heap[W.heap.size]? = some (.cells #[.int .i64 w, .int .i64 h, .bool false] 57) := heap_alloc_new _ _
  have hs1 : (W.alloc (.cells #[.int .i64 w, .int .i64 h, .bool false] 57)).heap.size = W.heap.size + 1 := size_alloc1 _ _
  obtain ⟨W1, HW1⟩ : ∃ W1, Hid (W.alloc (.cells #[.int .i64 w, .int .i64 h, .bool false] 57) = W1) := ⟨_, rfl⟩
  rw [HW1.out] at hW1 hg0 hs1
  have g0 : W1.cell? ⟨W.heap.size, 0, none⟩ = some (.int .i64 w) := (cell_of_row _ _ _ _ _ _ hg0).trans rfl
  have g1 : W1.cell? ⟨W.heap.size, 1, none⟩ = some (.int .i64 h) := (cell_of_row _ _ _ _ _ _ hg0).trans rfl
  have g2 : W1.cell? ⟨W.heap.size, 2, none⟩ = some (.bool false) := (cell_of_row _ _ _ _ _ _ hg0).trans rfl
  have HG : Hid (∀ V, Below W1.heap.size W1 V → V.cell? ⟨W.heap.size, 0, none⟩ = some (.int .i64 w) ∧ V.cell? ⟨W.heap.size, 1, none⟩ = some (.int .i64 h) ∧ V.cell? ⟨W.heap.size, 2, none⟩ = some (.bool false)) := fun V hb =>
    ⟨(hb.cell (p := ⟨W.heap.size, 0, none⟩) (by show W.heap.size < _; omega)).trans g0, (hb.cell (p := ⟨W.heap.size, 1, none⟩) (by show W.heap.size < _; omega)).trans g1, (hb.cell (p := ⟨W.heap.size, 2, none⟩) (by show W.heap.size < _; omega)).trans g2⟩
  have HB1 := Lib.hid hW1
  have hml : n ≤ maxLen := by unfold maxLen; omega
  have hbi : iu.bytes * n ≤ 281474976710656 := by rw [hzu2]; omega
  clear hn hW1 hg0 hs1
  go_enter Try.func53, Try.ntmps53
  go_wp2_with fail
  rw [HW1.out]
  refine (HN.out _).mono ?_
  rintro e V ⟨rfl, hV⟩
  go_wp2_with (at_make; refine wpList_make_full _ rfl _ _ 61 rfl V.heap.size 68 iu _ 1 Try.underlying61 hiu hzu0 hzu1 _ _ _ _ n rfl rfl rfl rfl hbi hml (Nat.le_refl _) ?_; intro w1 hown1 hg1)
  have hV2 : Below V.heap.size V w1 := (Below.refl _ _).grown hg1 (Nat.le_refl _) (fun j hj => by cases hj)
  have HO0 : Hid (w1.ownsRow W1.heap.size 68 1 (.slice (some ⟨V.heap.size, 0, none⟩) n n) n (MsG (gNm w n far) n 0 0)) := by
    rw [Nat.mul_one] at hown1
    have e : (madeCells (Value.int .u64 0).cells n).toList = MsG (gNm w n far) n 0 0 := by
      rw [show (Value.int .u64 0).cells = #[Value.int .u64 0] from rfl, toList_madeCells_one]
      unfold MsG
      apply List.ext_getElem?
      intro i
      by_cases hi : i < n
      · by_cases h0 : i = 0
        · subst h0; simp [hi]
        · simp [hi]
      · simp [hi]
    rw [← e]; exact ownG_base hown1 hV.size
  have HB0 := Lib.hid (hV.trans (hV2.mono hV.size))
  obtain ⟨G, HGe⟩ : ∃ G, Hid (V.heap.size = G) := ⟨_, rfl⟩
  have HGlt : Hid (∀ wr, Below V.heap.size w1 wr → True) := fun _ _ => trivial
  rw [HGe.out] at HO0 ⊢
  clear hown1 hg1 hV2 hV HGlt g0 g1 g2
  go_loopw [14] (fun i wr => ∃ k : Nat, k ≤ n ∧ i = .int .i64 k ∧ Hid (wr.ownsRow W1.heap.size 68 1 (.slice (some ⟨G, 0, none⟩) n n) n (MsG (gNm w n far) n k 0)) ∧ Hid (Below W1.heap.size W1 wr)) (fun i _ => n - (intOf i).toNat)
  case atStart => exact ⟨0, by omega, rfl, HO0, HB0⟩
  case round =>
    clear HO0 HB0
    obtain ⟨k, hk, rfl, HO, HB⟩ := hrel
    by_cases hlt : k < n
    · have l0 := (HG.out _ HB.out).1
      have l1 := (HG.out _ HB.out).2.1
      have l2 := (HG.out _ HB.out).2.2
      have hGlt := (HO.out.lt G rfl).2
      obtain ⟨bl, Hbl⟩ : ∃ bl, Hid (ballN w n k far = bl) := ⟨_, rfl⟩
      have hbx : ballL w n k far = bl.map fun i : Nat => (i : Int) := by rw [← Hbl.out]; rfl
      have hbm : ∀ i ∈ bl, i < n := fun i hi => by rw [← Hbl.out] at hi; exact (ballN_mem.1 hi).1
      have hNk : Hid (gNm w n far k = stO bl) := by show _ = _; unfold gNm; rw [Hbl.out]
      have hll : (ballL w n k far).length = bl.length := by rw [hbx, List.length_map]
      have hL10 : bl.length ≤ n := by rw [← Hbl.out]; exact ballN_len _ _ _ _
      have HBk := Lib.hid (fun V => HBall.out k V hlt)
      obtain ⟨L, HL⟩ : ∃ L, Hid (bl.length = L) := ⟨_, rfl⟩
      have HBk2 : Hid (∀ V, Calls Try.prog 48 #[.agg #[.int .i64 w, .int .i64 h, .bool false], .int .i64 k, .int .i64 far] V fun e w' => ∃ A' c', e = .returned (.slice A' L c') ∧ Hid (w'.ownsRow V.heap.size 3 1 (.slice A' L c') L ((bl.map fun i : Nat => (i : Int)).map (Value.int .i64))) ∧ Hid (Below V.heap.size V w')) := fun V => by
        have := HBk.out V
        unfold RowG at this
        rw [hll, hbx, HL.out] at this
        exact this
      rw [HL.out] at hL10
      clear HBk hbx hll
      go_wp2_with fail
      refine (HBk2.out _).mono ?_
      rintro e w5 ⟨A', c', rfl, hR, hB5⟩
      obtain ⟨Z, HZ⟩ : ∃ Z, Hid (wr.heap.size = Z) := ⟨_, rfl⟩
      have HO5 := Lib.hid (ownN_below HO.out hB5.out)
      have HB5 := Lib.hid (HB.out.trans (hB5.out.mono HB.out.size))
      have HR5 := Lib.hid hR.out
      rw [HZ.out] at HR5 hGlt
      clear HO HB hR hB5 l0 l1 l2 HBk2
      go_wp2
      go_loopw [22] (fun i wr => ∃ m : Nat, m ≤ L ∧ i = .int .i64 m ∧ Hid (wr.ownsRow W1.heap.size 68 1 (.slice (some ⟨G, 0, none⟩) n n) n (MsG (gNm w n far) n k (stO (bl.take m)))) ∧ Hid (wr.ownsRow Z 3 1 (.slice A' L c') L ((bl.map fun i : Nat => (i : Int)).map (Value.int .i64))) ∧ Hid (Below W1.heap.size W1 wr)) (fun i _ => L - (intOf i).toNat)
      case atStart => exact ⟨0, by omega, rfl, HO5, HR5, HB5⟩
      case round =>
        clear HO5 HR5 HB5
        obtain ⟨m, hm, rfl, HO, HR, HB⟩ := hrel
        by_cases hlm : m < L
        · have hmb : m < bl.length := by rw [HL.out]; exact hlm
          obtain ⟨A2, c2, he2, -, -, hRd⟩ := own_slice HR.out (by rw [List.length_map, HL.out])
          injection he2 with he1 he2 he3
          subst he1 he3
          obtain ⟨b, off, x, rfl, hbw, Hx, hcx⟩ := hRd.x (k := m) (by rw [List.length_map]; exact hmb)
          obtain ⟨y, hy⟩ : ∃ y, bl[m] = y := ⟨_, rfl⟩
          have hxy : x = (y : Int) := by rw [← Hx.out, ← hy]; simp [List.getD, List.getElem?_eq_getElem hmb]
          subst hxy
          have hyn : y < n := by rw [← hy]; exact hbm _ (List.getElem_mem hmb)
          have hnx : Hid (stO (bl.take (m + 1)) = stO (bl.take m) ||| 2 ^ y) := by show _ = _; rw [List.take_succ_eq_append_getElem hmb, stO_snoc, hy]
          have h1024 : stO (bl.take m) < 1024 := by have := stO_takeT (w := w) (n := n) (k := k) (m := m) (far := far) hn10; rwa [Hbl.out] at this
          have cs : _ = some (Value.int .u64 (stO (bl.take m) : Nat)) := (HO.out.cellAt k (by omega)).trans (MsG_get hlt)
          have fs := HO.out.frozenAt k
          have hp2 : 2 ^ y < 1024 := Nat.pow_lt_pow_right (show 1 < 2 by omega) (show y < 10 by omega)
          have hor := or2_u64T ⟨stO (bl.take m), h1024⟩ ⟨2 ^ y, hp2⟩
          have hst := (HO.out.stored k (.int .u64 (stO (bl.take (m + 1)) : Nat)))
          rw [MsG_set hlt] at hst
          simp only at hor
          obtain ⟨S, HS⟩ : ∃ S, Hid (stO (bl.take m) = S) := ⟨_, rfl⟩
          rw [HS.out] at cs hor hnx
          have hval : bits BinOp.or IntKind.u64 (S : Int) (IntKind.u64.wrap ((2 : Int) ^ y)) = ((stO (bl.take (m + 1)) : Nat) : Int) := by
            rw [wrap_pow11 ⟨y, by omega⟩, hor, hnx.out]
          rw [← hval] at hst
          have HST := Lib.hid hst.1
          have HR2 := Lib.hid (ownsRow_setCell_below HR.out (a := ⟨G, k, none⟩) hGlt (.int .u64 (bits BinOp.or IntKind.u64 (S : Int) (IntKind.u64.wrap ((2 : Int) ^ y)))))
          have HB2 := Lib.hid (HB.out.grown hst.2 HB.out.size (fun j e => by injection e with e; have := (HO.out.lt G rfl).1; omega))
          clear hst HO HB HR hor hval hRd hbw h1024 hp2 hy hmb
          go_wp2
          go_region
          go_wp2
          go_roundw
          case rel => exact ⟨m + 1, by omega, by go_num, HST, HR2, HB2.out.drew⟩
          case measure => simp [intOf]; omega
        · obtain rfl : m = L := by omega
          have HO2 : Hid (wr.ownsRow W1.heap.size 68 1 (.slice (some ⟨G, 0, none⟩) n n) n (MsG (gNm w n far) n (k + 1) 0)) := by
            show wr.ownsRow _ _ _ _ _ _
            rw [← MsG_next, hNk.out]
            have := HO.out
            rwa [← HL.out, List.take_length] at this
          clear HO HR
          go_wp2
          go_roundw
          case rel => exact ⟨k + 1, by omega, by go_num, HO2, HB⟩
          case measure => simp [intOf]; omega
    · obtain rfl : k = n := by omega
      have HF := Lib.hid (ownG_base HO.out HB1.out.size)
      have HB2 := Lib.hid (HB1.out.trans (HB.out.mono HB1.out.size))
      clear HO HB
      go_wp2
      go_ret
      exact ⟨G, rfl, HF.out, HB2.out⟩
end Go.Proofs.Ytkgomgfhhhdnjaa
namespace Go.Proofs.Ytkgomgfhhhdnjaa
open Go.ChangeShapes Go.WideShapes Go.ChangeAt Go.RowKit
set_option linter.unusedVariables false
set_option maxRecDepth 4000

/-- BallOf. -/
def blG (w h c far : Int) : List Int := if gok w h ∧ (0 ≤ c ∧ c < w * h) ∧ 0 ≤ far ∧ far ≤ 50 then ballL w.toNat (w.toNat * h.toNat) c.toNat far else []
theorem blG_yes {w h c : Nat} {far : Int} (g : Gd w h) (hc : c < w * h) (h0 : 0 ≤ far) (h1 : far ≤ 50) : blG w h c far = ballL w (w * h) c far := by
  unfold blG; rw [if_pos ⟨g.gok, ⟨by omega, by rw [← Int.natCast_mul]; omega⟩, h0, h1⟩]; rfl
theorem blG_no {w h c far : Int} (hn : ¬ (gok w h ∧ (0 ≤ c ∧ c < w * h) ∧ 0 ≤ far ∧ far ≤ 50)) : blG w h c far = [] := by unfold blG; rw [if_neg hn]
def GNum (F : Nat) (ans : Int → Int → Int → Int) : Prop := ∀ (w h far : Int) (W : World), Calls Try.prog F #[.int .i64 w, .int .i64 h, .int .i64 far] W fun e w' => e = .returned (.int .i64 (ans w h far)) ∧ Below W.heap.size W w'
def GRow4 (F : Nat) : Prop := ∀ (w h c far : Int) (W : World), Calls Try.prog F #[.int .i64 w, .int .i64 h, .int .i64 c, .int .i64 far] W (RowG (blG w h c far) W)
theorem rowG_nil {xs : List Int} {W w' : World} (hx : xs = []) (hB : Below W.heap.size W w') : RowG xs W (.returned (.slice none 0 0)) w' := by
  subst hx
  exact ⟨none, 0, rfl, World.ownsRow_nil _ _ _ _, hB⟩
theorem sets_read9 {N : Nat → Nat} {n g B : Nat} {w : World} (h : w.ownsRow B 68 1 (.slice (some ⟨g, 0, none⟩) n n) n (MsG N n n 0)) : RdU w (some ⟨g, 0, none⟩) N 0 n := fun _ =>
  ⟨g, 0, rfl, fun i hi => by
    rw [Nat.zero_add, h.cellAt i (by omega)]
    simp [MsG, hi]⟩
theorem hits_grid {w n : Nat} {far : Int} (S : Nat) : cvF (stG w) far S n n = hits (gNm w n far) S n := by
  rw [Bool.eq_iff_iff, hits_iff, cover_iff (N := gNm w n far) (fun i hi v => by rw [gNm_bit]; exact ⟨fun h => ⟨h.1, stG_pos _ _ _, h.2⟩, fun h => ⟨h.1, h.2.2⟩⟩)]
theorem mw_grid {w n : Nat} {far : Int} (hn : n ≤ 10) : mw (gNm w n far) n 0 0 = pkBT (stG w) far n (2 ^ n) :=
  mw_pkRT hn fun i hi v => by rw [gNm_bit, stG_comm]; exact ⟨fun h => ⟨h.1, stG_pos _ _ _, h.2⟩, fun h => ⟨h.1, h.2.2⟩⟩
set_option maxHeartbeats 800000 in
theorem iGridCover_ok : GNum 23 gcv := by
  intro w h far W
  have HV := Lib.hid (iSmall_any w h W)
  by_cases hg : gok w h
  · rw [decide_eq_true hg] at HV
    obtain ⟨a, b, rfl, rfl, g⟩ := gok_nat hg
    by_cases hf : 0 ≤ far ∧ far ≤ 50
    · have HF := Lib.hid (farOk_yes far W hf.1 hf.2)
      have Hs := Lib.hid (gcv_yes g hf.1 hf.2)
      have HO := Lib.hid (iOpen_any a b W)
      obtain ⟨n, Hn⟩ : ∃ n, Hid (a * b = n) := ⟨_, rfl⟩
      have HB := Lib.hid (fun V => ballSets_any a b n far V g.w1 (by have := g.w5; omega) (by have := g.h5; omega) Hn.out (by have := g.n1; rw [Hn.out] at this; exact this) (by have := g.n10; rw [Hn.out] at this; exact this))
      have hn10 : n ≤ 10 := by have := g.n10; rw [Hn.out] at this; exact this
      have Hcv : Hid (cvNT (stG a) far n (2 ^ n) = fwH (gNm a n far) n (2 ^ n)) := fwH_cvT (fun S => hits_grid S) (2 ^ n)
      rw [Hn.out, Hcv.out] at Hs
      clear hg hf g
      go_enter Try.func23, Try.ntmps23
      go_wp2_with fail
      refine HV.out.mono ?_
      rintro e w' ⟨rfl, rfl⟩
      go_wp2_with fail
      refine HF.out.mono ?_
      rintro e w' ⟨rfl, rfl⟩
      go_wp2_with fail
      refine HO.out.mono ?_
      rintro e w1 ⟨rfl, hb1⟩
      go_wp2_with fail
      refine (HB.out _).mono ?_
      rintro e w2 ⟨g2, rfl, hO2, hb2⟩
      have HB2 := Lib.hid (hb1.trans (hb2.mono hb1.size))
      have HFA := Lib.hid (fewestAll_any (gNm a n far) (some ⟨g2, 0, none⟩) n n w2 (fun i => gNm_lt hn10) hn10 (fun w' h => sets_read9 (ownN_below hO2 h)))
      clear hO2 hb1 hb2
      go_wp2_with fail
      refine HFA.out.mono ?_
      rintro e w3 ⟨rfl, hb3⟩
      go_wp2
      go_ret
      exact ⟨ret_int Hs.out.symm, HB2.out.trans (hb3.mono HB2.out.size)⟩
    · have HF := Lib.hid (farOk_no far W (by omega))
      have Hs := Lib.hid (gcv_no (w := a) (h := b) (far := far) (.inr (by omega)))
      clear hg hf g
      go_enter Try.func23, Try.ntmps23
      go_wp2_with fail
      refine HV.out.mono ?_
      rintro e w' ⟨rfl, rfl⟩
      go_wp2_with fail
      refine HF.out.mono ?_
      rintro e w' ⟨rfl, rfl⟩
      go_wp2
      go_ret
      exact ⟨ret_int Hs.out.symm, Below.refl _ _⟩
  · rw [decide_eq_false hg] at HV
    have Hs := Lib.hid (gcv_no (far := far) (.inl hg))
    clear hg
    go_enter Try.func23, Try.ntmps23
    go_wp2_with fail
    refine HV.out.mono ?_
    rintro e w' ⟨rfl, rfl⟩
    go_wp2
    go_ret
    exact ⟨ret_int Hs.out.symm, Below.refl _ _⟩
set_option maxHeartbeats 800000 in
theorem iGridApart_ok : GNum 25 gpk := by
  intro w h far W
  have HV := Lib.hid (iSmall_any w h W)
  by_cases hg : gok w h
  · rw [decide_eq_true hg] at HV
    obtain ⟨a, b, rfl, rfl, g⟩ := gok_nat hg
    by_cases hf : 0 ≤ far ∧ far ≤ 50
    · have HF := Lib.hid (farOk_yes far W hf.1 hf.2)
      have Hs := Lib.hid (gpk_yes g hf.1 hf.2)
      have HO := Lib.hid (iOpen_any a b W)
      obtain ⟨n, Hn⟩ : ∃ n, Hid (a * b = n) := ⟨_, rfl⟩
      have HB := Lib.hid (fun V => ballSets_any a b n far V g.w1 (by have := g.w5; omega) (by have := g.h5; omega) Hn.out (by have := g.n1; rw [Hn.out] at this; exact this) (by have := g.n10; rw [Hn.out] at this; exact this))
      have hn10 : n ≤ 10 := by have := g.n10; rw [Hn.out] at this; exact this
      have Hcv : Hid (pkBT (stG a) far n (2 ^ n) = mw (gNm a n far) n 0 0) := (mw_grid hn10).symm
      rw [Hn.out, Hcv.out] at Hs
      clear hg hf g
      go_enter Try.func25, Try.ntmps25
      go_wp2_with fail
      refine HV.out.mono ?_
      rintro e w' ⟨rfl, rfl⟩
      go_wp2_with fail
      refine HF.out.mono ?_
      rintro e w' ⟨rfl, rfl⟩
      go_wp2_with fail
      refine HO.out.mono ?_
      rintro e w1 ⟨rfl, hb1⟩
      go_wp2_with fail
      refine (HB.out _).mono ?_
      rintro e w2 ⟨g2, rfl, hO2, hb2⟩
      have HB2 := Lib.hid (hb1.trans (hb2.mono hb1.size))
      have HFA := Lib.hid (mostW_anyT (gNm a n far) (fun i => gNm_lt hn10) n 0 0 n (some ⟨g2, 0, none⟩) w2 (sets_read9 hO2) (Nat.le_refl _) hn10 (by omega))
      clear hO2 hb1 hb2
      go_wp2_with fail
      refine HFA.out.mono ?_
      rintro e w3 ⟨rfl, q, rfl⟩
      go_wp2
      go_ret
      exact ⟨ret_int Hs.out.symm, below_drewN HB2.out q⟩
    · have HF := Lib.hid (farOk_no far W (by omega))
      have Hs := Lib.hid (gpk_no (w := a) (h := b) (far := far) (.inr (by omega)))
      clear hg hf g
      go_enter Try.func25, Try.ntmps25
      go_wp2_with fail
      refine HV.out.mono ?_
      rintro e w' ⟨rfl, rfl⟩
      go_wp2_with fail
      refine HF.out.mono ?_
      rintro e w' ⟨rfl, rfl⟩
      go_wp2
      go_ret
      exact ⟨ret_int Hs.out.symm, Below.refl _ _⟩
  · rw [decide_eq_false hg] at HV
    have Hs := Lib.hid (gpk_no (far := far) (.inl hg))
    clear hg
    go_enter Try.func25, Try.ntmps25
    go_wp2_with fail
    refine HV.out.mono ?_
    rintro e w' ⟨rfl, rfl⟩
    go_wp2
    go_ret
    exact ⟨ret_int Hs.out.symm, Below.refl _ _⟩
set_option maxHeartbeats 800000 in
theorem iBallOf_ok : GRow4 17 := by
  intro w h c far W
  have HV := Lib.hid (iSmall_any w h W)
  by_cases hg : gok w h
  · rw [decide_eq_true hg] at HV
    obtain ⟨a, b, rfl, rfl, g⟩ := gok_nat hg
    have hm : (a : Int) * (b : Int) = ((a * b : Nat) : Int) := (Int.natCast_mul a b).symm
    have hn10 := g.n10
    by_cases hc0 : 0 ≤ c
    · by_cases hc1 : c < (a : Int) * (b : Int)
      · obtain ⟨k, rfl⟩ := Int.eq_ofNat_of_zero_le hc0
        have hk : k < a * b := by omega
        by_cases hf : 0 ≤ far ∧ far ≤ 50
        · have HF := Lib.hid (farOk_yes far W hf.1 hf.2)
          have Hs := Lib.hid (blG_yes g hk hf.1 hf.2)
          have HO := Lib.hid (iOpen_any a b W)
          have HBk := Lib.hid (fun V => by have := iBall_any a b (a * b) k false far V g.w1 (by have := g.w5; omega) (by have := g.h5; omega) rfl hk; rw [cw_ball] at this; exact this)
          obtain ⟨n, Hn⟩ : ∃ n, Hid (a * b = n) := ⟨_, rfl⟩
          rw [Hn.out] at hm hk HBk Hs hn10
          rw [hm] at hc1
          obtain ⟨xs, Hx⟩ : ∃ xs, Hid (ballL a n k far = xs) := ⟨_, rfl⟩
          rw [Hs.out, Hx.out]
          rw [Hx.out] at HBk
          clear hg hf g hc0 Hs
          have hk2 : ¬ (n : Int) ≤ (k : Int) := by omega
          go_enter Try.func17, Try.ntmps17
          go_wp2_with fail
          refine HV.out.mono ?_
          rintro e w' ⟨rfl, rfl⟩
          go_wp2_with fail
          refine HF.out.mono ?_
          rintro e w' ⟨rfl, rfl⟩
          go_wp2_with fail
          refine HO.out.mono ?_
          rintro e w1 ⟨rfl, hb1⟩
          have HB1 := Lib.hid hb1
          clear hb1
          go_wp2_with fail
          refine (HBk.out _).mono ?_
          rintro e w2 ⟨A', c', rfl, hO2, hb2⟩
          have HD : Hid (RowG xs W (.returned (.slice A' xs.length c')) w2) := ⟨_, _, rfl, ownG_base hO2.out HB1.out.size, HB1.out.trans (hb2.out.mono HB1.out.size)⟩
          clear hO2 hb2
          go_wp2
          go_ret
          exact HD.out
        · have HF := Lib.hid (farOk_no far W (by omega))
          have Hs := Lib.hid (rowG_nil (blG_no (w := a) (h := b) (c := k) (far := far) (fun hh => hf hh.2.2)) (Below.refl W.heap.size W))
          obtain ⟨n, Hn⟩ : ∃ n, Hid (a * b = n) := ⟨_, rfl⟩
          rw [Hn.out] at hm hk hn10
          rw [hm] at hc1
          clear hg hf g hc0
          have hk2 : ¬ (n : Int) ≤ (k : Int) := by omega
          go_enter Try.func17, Try.ntmps17
          go_wp2_with fail
          refine HV.out.mono ?_
          rintro e w' ⟨rfl, rfl⟩
          go_wp2_with fail
          refine HF.out.mono ?_
          rintro e w' ⟨rfl, rfl⟩
          go_wp2
          go_ret
          exact Hs.out
      · have Hs := Lib.hid (rowG_nil (blG_no (w := a) (h := b) (c := c) (far := far) (fun hh => hc1 hh.2.1.2)) (Below.refl W.heap.size W))
        obtain ⟨n, Hn⟩ : ∃ n, Hid (a * b = n) := ⟨_, rfl⟩
        rw [Hn.out] at hm hn10
        rw [hm] at hc1
        have hk2 : (n : Int) ≤ c := by omega
        have hk3 : ¬ c < 0 := by omega
        clear hg g hc0 hc1
        go_enter Try.func17, Try.ntmps17
        go_wp2_with fail
        refine HV.out.mono ?_
        rintro e w' ⟨rfl, rfl⟩
        go_wp2
        go_ret
        exact Hs.out
    · have Hs := Lib.hid (rowG_nil (blG_no (w := a) (h := b) (c := c) (far := far) (fun hh => hc0 hh.2.1.1)) (Below.refl W.heap.size W))
      have hk3 : c < 0 := by omega
      clear hg g hc0 hm hn10
      go_enter Try.func17, Try.ntmps17
      go_wp2_with fail
      refine HV.out.mono ?_
      rintro e w' ⟨rfl, rfl⟩
      go_wp2
      go_ret
      exact Hs.out
  · rw [decide_eq_false hg] at HV
    have Hs := Lib.hid (rowG_nil (blG_no (w := w) (h := h) (c := c) (far := far) (fun hh => hg hh.1)) (Below.refl W.heap.size W))
    clear hg
    go_enter Try.func17, Try.ntmps17
    go_wp2_with fail
    refine HV.out.mono ?_
    rintro e w' ⟨rfl, rfl⟩
    go_wp2
    go_ret
    exact Hs.out
end Go.Proofs.Ytkgomgfhhhdnjaa
