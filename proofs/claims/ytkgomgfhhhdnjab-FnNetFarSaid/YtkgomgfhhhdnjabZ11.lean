/-
  Sets of nodes as numbers, covers and nodes apart, as for seven nodes.
  Conditions: at most ten nodes, sets below 1024.
  OnesCount of a set of at most ten.
  Conditions: at most ten nodes, sets below 1024.
  The most sets without a common one, and whether a set meets all, of the program.
  Conditions: at most ten nodes, sets below 1024.
  The most sets apart are the most nodes apart; covers meet all.
  Conditions: at most ten nodes, sets below 1024.
  fewestNearAll of the program, walked: the fewest of a set that all sets meet.
  Conditions: at most ten sets, each below 1024.
  NetCover and NetApart of the program, walked.
  Conditions: at most 2^20 streets.
-/
import Derived.Test.YtkgomgfhhhdnjabZ4
import Derived.Test.YtkgomgfhhhdnjabZ7
import Derived.Test.YtkgomgfhhhdnjabZ10
import Derived.Laws.Bits64b
namespace Go.Proofs.Ytkgomgfhhhdnjab
open Go.ChangeShapes Go.WideShapes Go.ChangeAt Go.RowKit
set_option linter.unusedVariables false
set_option maxRecDepth 4000

theorem cn_allT : ∀ n : Fin 11, ∀ s : Fin 1024, s.val < 2 ^ n.val → cn s.val n.val 0 = bc 10 s.val := by decide +kernel
theorem pow_128T {n s : Nat} (h7 : n ≤ 10) (hs : s < 2 ^ n) : s < 1024 := Nat.lt_of_lt_of_le hs (Nat.pow_le_pow_right (by omega) h7 : 2 ^ n ≤ 2 ^ 10)
theorem cn_bcT {n s : Nat} (h7 : n ≤ 10) (hs : s < 2 ^ n) : cn s n 0 = bc 10 s := cn_allT ⟨n, by omega⟩ ⟨s, pow_128T h7 hs⟩ hs
theorem or_allT : ∀ s : Fin 1024, ∀ i : Fin 10, s.val.testBit i.val = false → bc 10 (s.val ||| 2 ^ i.val) = bc 10 s.val + 1 := by decide +kernel
theorem mw_atT (N : Nat → Nat) {n : Nat} (h7 : n ≤ 10) : ∀ m k T, k + m = n → ∃ s, s < 2 ^ n ∧ (∀ i, i < k → s.testBit i = false) ∧ FineN N s k T ∧ bc 10 s = mw N m k T
  | 0, k, T, _ => ⟨0, Nat.two_pow_pos n, fun i _ => Nat.zero_testBit i, ⟨fun i _ h => by simp at h, fun i j _ _ h => by simp at h⟩, rfl⟩
  | m + 1, k, T, hn => by
    have keep : ∀ {s}, (∀ i, i < k + 1 → s.testBit i = false) → FineN N s (k + 1) T → FineN N s k T := fun hz hf =>
      ⟨fun i hi hs => hf.1 i (by by_cases e : i = k; · subst e; rw [hz i (by omega)] at hs; cases hs
                                 · omega) hs,
       fun i j hi hij h1 h2 => hf.2 i j (by by_cases e : i = k; · subst e; rw [hz i (by omega)] at h1; cases h1
                                            · omega) hij h1 h2⟩
    obtain ⟨s1, a1, b1, c1, d1⟩ := mw_atT N h7 m (k + 1) T (by omega)
    simp only [mw]
    by_cases hd : N k &&& T = 0
    · rw [if_pos hd]
      obtain ⟨s2, a2, b2, c2, d2⟩ := mw_atT N h7 m (k + 1) (T ||| N k) (by omega)
      by_cases hle : mw N m (k + 1) T ≤ 1 + mw N m (k + 1) (T ||| N k)
      · have hk7 : k < 10 := by omega
        have hs2 := pow_128T h7 a2
        have hbit : ∀ i, (s2 ||| 2 ^ k).testBit i = true → i = k ∨ s2.testBit i = true := fun i hi => by
          rw [Nat.testBit_or, Bool.or_eq_true] at hi
          rcases hi with hi | hi
          · exact .inr hi
          · rw [Nat.testBit_two_pow] at hi; simp at hi; exact .inl hi.symm
        refine ⟨s2 ||| 2 ^ k, Nat.or_lt_two_pow a2 (Nat.pow_lt_pow_right (by omega) (by omega)), fun i hi => ?_, ⟨fun i hi hs => ?_, fun i j hi hij h1 h2 => ?_⟩, ?_⟩
        · rw [Nat.testBit_or, b2 i (by omega), Nat.testBit_two_pow]; simp; omega
        · rcases hbit i hs with rfl | hs'
          · exact dj_and.1 hd
          · have hik : k + 1 ≤ i := by
              by_cases e : i = k
              · subst e; rw [b2 i (by omega)] at hs'; cases hs'
              · omega
            exact (dj_or.1 (c2.1 i hik hs')).1
        · rcases hbit j h2 with rfl | hj
          · omega
          · have hjk : k + 1 ≤ j := by omega
            rcases hbit i h1 with rfl | hi'
            · exact dj_comm (dj_or.1 (c2.1 j hjk hj)).2
            · have hik : k + 1 ≤ i := by
                by_cases e : i = k
                · subst e; rw [b2 i (by omega)] at hi'; cases hi'
                · omega
              exact c2.2 i j hik hij hi' hj
        · rw [or_allT ⟨s2, hs2⟩ ⟨k, hk7⟩ (b2 k (by omega)), d2]; omega
      · exact ⟨s1, a1, fun i hi => b1 i (by omega), keep b1 c1, by rw [d1]; omega⟩
    · rw [if_neg hd]
      exact ⟨s1, a1, fun i hi => b1 i (by omega), keep b1 c1, d1⟩
def pkBT (d : Nat → Nat → Int) (far : Int) (n : Nat) : Nat → Nat
  | 0 => 0
  | S + 1 => if fnB d far S n n = true then max (pkBT d far n S) (bc 10 S) else pkBT d far n S
theorem le_pkBT {d : Nat → Nat → Int} {far : Int} {n : Nat} : ∀ {S s : Nat}, s < S → fnB d far s n n = true → bc 10 s ≤ pkBT d far n S
  | 0, s, h, _ => by omega
  | S + 1, s, h, hf => by
    simp only [pkBT]
    by_cases e : s = S
    · subst e; rw [if_pos hf]; omega
    · have := le_pkBT (d := d) (far := far) (n := n) (show s < S by omega) hf
      split <;> omega
theorem pkB_leT {d : Nat → Nat → Int} {far : Int} {n c : Nat} : ∀ S, (∀ s, s < S → fnB d far s n n = true → bc 10 s ≤ c) → pkBT d far n S ≤ c
  | 0, _ => Nat.zero_le _
  | S + 1, h => by
    have ih := pkB_leT (d := d) (far := far) (n := n) S fun s hs => h s (by omega)
    simp only [pkBT]
    split
    · rename_i hf
      have := h S (by omega) hf
      omega
    · exact ih
theorem mw_pkBT {d : Nat → Nat → Int} {far : Int} {n : Nat} {N : Nat → Nat} (h7 : n ≤ 10) (hd : ∀ v i, v < n → i < n → 0 ≤ d v i) (hN : ∀ i, i < n → ∀ v, (N i).testBit v = true ↔ v < n ∧ d v i ≤ far) : mw N n 0 0 = pkBT d far n (2 ^ n) := by
  apply Nat.le_antisymm
  · obtain ⟨s, h1, _, h2, h3⟩ := mw_atT N h7 n 0 0 (by omega)
    rw [← h3]
    exact le_pkBT h1 ((fine_iff h1 hd hN).2 h2)
  · refine pkB_leT _ fun s hs hf => ?_
    rw [← cn_bcT h7 hs]
    exact mw_ge N s n 0 0 ((fine_iff hs hd hN).1 hf)
theorem stO_nodupT {n : Nat} (h7 : n ≤ 10) : ∀ {J : List Nat}, (∀ i ∈ J, i < n) → J.Nodup → bc 10 (stO J) = J.length
  | [], _, _ => by decide
  | i :: J, h, hd => by
    have h1 : ∀ j ∈ J, j < n := fun j hj => h j (by simp [hj])
    have hd' := List.nodup_cons.1 hd
    have ih := stO_nodupT h7 h1 hd'.2
    have hb : (stO J).testBit i = false := by
      cases e : (stO J).testBit i with
      | false => rfl
      | true => exact absurd (stO_iff.1 e) hd'.1
    have := or_allT ⟨stO J, pow_128T h7 (stO_lt h1)⟩ ⟨i, by have := h i (by simp); omega⟩ hb
    simp only at this
    simp only [stO, List.length_cons]
    omega
theorem memL_lenT {s n : Nat} (h7 : n ≤ 10) (hs : s < 2 ^ n) : (memL s n).length = bc 10 s := by
  rw [← stO_nodupT h7 (fun i hi => (memL_iff.1 hi).1) (memL_nodup s n), memL_set hs]
/-- The fewest nodes of a cover among the sets below S. -/
def cvNT (d : Nat → Nat → Int) (far : Int) (n : Nat) : Nat → Nat
  | 0 => n
  | S + 1 => if cvF d far S n n = true then min (cvNT d far n S) (bc 10 S) else cvNT d far n S
theorem cvN_bdT (d : Nat → Nat → Int) (far : Int) (n : Nat) : ∀ S, cvNT d far n S ≤ n
  | 0 => Nat.le_refl _
  | S + 1 => by have := cvN_bdT d far n S; simp only [cvNT]; split <;> omega
theorem cvN_leT {d : Nat → Nat → Int} {far : Int} {n : Nat} : ∀ {S s : Nat}, s < S → cvF d far s n n = true → cvNT d far n S ≤ bc 10 s
  | 0, s, h, _ => by omega
  | S + 1, s, h, hf => by
    simp only [cvNT]
    by_cases e : s = S
    · subst e; rw [if_pos hf]; omega
    · have := cvN_leT (d := d) (far := far) (n := n) (show s < S by omega) hf
      split <;> omega
theorem le_cvNT {d : Nat → Nat → Int} {far : Int} {n c : Nat} (hc : c ≤ n) : ∀ S, (∀ s, s < S → cvF d far s n n = true → c ≤ bc 10 s) → c ≤ cvNT d far n S
  | 0, _ => hc
  | S + 1, h => by
    have ih := le_cvNT (d := d) (far := far) (n := n) hc S fun s hs => h s (by omega)
    simp only [cvNT]
    split
    · rename_i hf
      have := h S (by omega) hf
      omega
    · exact ih
theorem cvN_atT {d : Nat → Nat → Int} {far : Int} {n : Nat} : ∀ S, cvNT d far n S = n ∨ ∃ s, s < S ∧ cvF d far s n n = true ∧ bc 10 s = cvNT d far n S
  | 0 => .inl rfl
  | S + 1 => by
    have ih := cvN_atT (d := d) (far := far) (n := n) S
    simp only [cvNT]
    split
    · rename_i hf
      by_cases hl : bc 10 S ≤ cvNT d far n S
      · right; exact ⟨S, by omega, hf, by omega⟩
      · rcases ih with h | ⟨s, h1, h2, h3⟩
        · left; omega
        · right; exact ⟨s, by omega, h2, by omega⟩
    · rcases ih with h | ⟨s, h1, h2, h3⟩
      · exact .inl h
      · right; exact ⟨s, by omega, h2, h3⟩
/-- A cover's set has no more nodes than the list. -/
theorem bc_le_lenT {n : Nat} (h7 : n ≤ 10) {P : List Nat} (h : ∀ i ∈ P, i < n) : bc 10 (stO P) ≤ P.length := by
  induction P with
  | nil => decide
  | cons i P ih =>
    have h1 : ∀ j ∈ P, j < n := fun j hj => h j (by simp [hj])
    have ih := ih h1
    simp only [stO, List.length_cons]
    cases hb : (stO P).testBit i with
    | false =>
      have := or_allT ⟨stO P, pow_128T h7 (stO_lt h1)⟩ ⟨i, by have := h i (by simp); omega⟩ hb
      simp only at this
      omega
    | true =>
      have e : stO P ||| 2 ^ i = stO P := by
        apply Nat.eq_of_testBit_eq
        intro j
        rw [Nat.testBit_or, Nat.testBit_two_pow]
        by_cases e : i = j
        · subst e; simp [hb]
        · simp [e]
      rw [e]; omega
theorem cvN_le_covT {d : Nat → Nat → Int} {far : Int} {n : Nat} (h7 : n ≤ 10) {P : List Nat} (h : Cov d far n P) : cvNT d far n (2 ^ n) ≤ P.length :=
  Nat.le_trans (cvN_leT (cov_set h).1 (cov_set h).2) (bc_le_lenT h7 h.1)
/-- There is a cover with as many nodes as the fewest. -/
theorem cov_leastT {d : Nat → Nat → Int} {far : Int} {n : Nat} (h7 : n ≤ 10) (h0 : ∀ a, a < n → d a a = 0) (hf : 0 ≤ far) : ∃ P, Cov d far n P ∧ P.Nodup ∧ P.length = cvNT d far n (2 ^ n) := by
  rcases cvN_atT (d := d) (far := far) (n := n) (2 ^ n) with h | ⟨s, h1, h2, h3⟩
  · exact ⟨List.range n, ⟨fun i hi => List.mem_range.1 hi, fun v hv => ⟨v, List.mem_range.2 hv, by unfold Nr; rw [h0 v hv]; omega⟩⟩, List.nodup_range, by rw [List.length_range, h]⟩
  · exact ⟨memL s n, cov_memL h2, memL_nodup s n, by rw [memL_lenT h7 h1, h3]⟩
theorem apt_le_pkBT {d : Nat → Nat → Int} {far : Int} {n : Nat} (h7 : n ≤ 10) {J : List Nat} (h : Apt d far n J) : J.length ≤ pkBT d far n (2 ^ n) := by
  rw [← stO_nodupT h7 h.1 h.2.1]
  exact le_pkBT (apt_set h).1 (apt_set h).2
theorem pkB_atT {d : Nat → Nat → Int} {far : Int} {n : Nat} : ∀ S, 1 ≤ S → ∃ s, s < S ∧ fnB d far s n n = true ∧ bc 10 s = pkBT d far n S
  | 0, h => by omega
  | 1, _ => ⟨0, by omega, (fnB_iff n).2 fun v hv => by rw [nrB_none (fun i hi => by simp)]; omega, by
      have : fnB d far 0 n n = true := (fnB_iff n).2 fun v hv => by rw [nrB_none (fun i hi => by simp)]; omega
      simp only [pkBT]; rw [if_pos this]; decide⟩
  | S + 2, _ => by
    obtain ⟨s, h1, h2, h3⟩ := pkB_atT (d := d) (far := far) (n := n) (S + 1) (by omega)
    rw [show pkBT d far n (S + 2) = if fnB d far (S + 1) n n = true then max (pkBT d far n (S + 1)) (bc 10 (S + 1)) else pkBT d far n (S + 1) from rfl]
    split
    · rename_i hf
      by_cases hl : pkBT d far n (S + 1) ≤ bc 10 (S + 1)
      · exact ⟨S + 1, by omega, hf, by omega⟩
      · exact ⟨s, by omega, h2, by omega⟩
    · exact ⟨s, by omega, h2, h3⟩
theorem apt_mostT (d : Nat → Nat → Int) (far : Int) {n : Nat} (h7 : n ≤ 10) : ∃ J, Apt d far n J ∧ J.length = pkBT d far n (2 ^ n) := by
  obtain ⟨s, h1, h2, h3⟩ := pkB_atT (d := d) (far := far) (n := n) (2 ^ n) (Nat.two_pow_pos n)
  exact ⟨memL s n, apt_memL h2, by rw [memL_lenT h7 h1, h3]⟩
/-- Covers are no fewer than those apart. -/
theorem pk_le_cvT {d : Nat → Nat → Int} {far : Int} {n : Nat} (h7 : n ≤ 10) (hs : ∀ a b, a < n → b < n → d a b = d b a) (h0 : ∀ a, a < n → d a a = 0) (hf : 0 ≤ far) : pkBT d far n (2 ^ n) ≤ cvNT d far n (2 ^ n) := by
  obtain ⟨J, hJ, hJl⟩ := apt_mostT d far h7
  obtain ⟨P, hP, _, hPl⟩ := cov_leastT (d := d) h7 h0 hf
  rw [← hJl, ← hPl]
  exact apt_le_cov hs hP.1 hJ (fun i hi => hP.2 i (hJ.1 i hi))
/-- Farther, no more are needed. -/
theorem cvN_monoT {d : Nat → Nat → Int} {far far' : Int} {n : Nat} (h7 : n ≤ 10) (h0 : ∀ a, a < n → d a a = 0) (hf : 0 ≤ far) (hff : far ≤ far') : cvNT d far' n (2 ^ n) ≤ cvNT d far n (2 ^ n) := by
  obtain ⟨P, hP, _, hPl⟩ := cov_leastT (d := d) h7 h0 hf
  rw [← hPl]
  exact cvN_le_covT h7 (cov_mono hP hff)
theorem cvN_posT {d : Nat → Nat → Int} {far : Int} {n : Nat} (h7 : n ≤ 10) (h1 : 1 ≤ n) (h0 : ∀ a, a < n → d a a = 0) (hf : 0 ≤ far) : 1 ≤ cvNT d far n (2 ^ n) := by
  obtain ⟨P, hP, _, hPl⟩ := cov_leastT (d := d) h7 h0 hf
  rw [← hPl]
  obtain ⟨i, hi, _⟩ := hP.2 0 h1
  cases P with
  | nil => cases hi
  | cons _ _ => simp
/-- Of no way all nodes are apart. -/
theorem pkB_zeroT {d : Nat → Nat → Int} {n : Nat} (h7 : n ≤ 10) (hp : ∀ a b, a < n → b < n → a ≠ b → d a b < 0 ∨ 0 < d a b) : n ≤ pkBT d 0 n (2 ^ n) := by
  have hA : Apt d 0 n (List.range n) := ⟨fun i hi => List.mem_range.1 hi, List.nodup_range, fun i hi k hk hne v hv ⟨h1, h2⟩ => by
    have hi' := List.mem_range.1 hi
    have hk' := List.mem_range.1 hk
    unfold Nr at h1 h2
    by_cases e : v = i
    · subst e
      have := hp v k hv hk' hne
      omega
    · have := hp v i hv hi' e
      omega⟩
  have := apt_le_pkBT h7 hA
  rwa [List.length_range] at this
theorem pkB_posT {d : Nat → Nat → Int} {far : Int} {n : Nat} (h7 : n ≤ 10) (h1 : 1 ≤ n) : 1 ≤ pkBT d far n (2 ^ n) :=
  apt_le_pkBT h7 (J := [0]) ⟨fun i hi => by simp at hi; omega, by simp, fun i hi k hk hne => by simp at hi hk; omega⟩
theorem pkB_le_nT (d : Nat → Nat → Int) (far : Int) {n : Nat} (h7 : n ≤ 10) : pkBT d far n (2 ^ n) ≤ n := by
  obtain ⟨J, hJ, hJl⟩ := apt_mostT d far h7
  rw [← hJl]
  have := List.Nodup.length_le_of_subset hJ.2.1 (l₂ := List.range n) (fun i hi => List.mem_range.2 (hJ.1 i hi))
  rwa [List.length_range] at this
end Go.Proofs.Ytkgomgfhhhdnjab
namespace Go.Proofs.Ytkgomgfhhhdnjab
open Go.ChangeShapes Go.WideShapes Go.ChangeAt Go.RowKit
set_option linter.unusedVariables false
set_option maxRecDepth 4000

/-- The homes of a set, in order. -/
def bitsOfT (s : Nat) : List Nat := (List.range 10).filter (fun i => s.testBit i)
theorem oc_allT : ∀ s : Fin 1024, oc (s.val : Int) = ((bitsOfT s.val).length : Int) := by decide +kernel
theorem oc_smallT {s : Nat} (h : s < 1024) : oc (s : Int) = ((bitsOfT s).length : Int) := oc_allT ⟨s, h⟩
set_option maxHeartbeats 1000000 in
theorem ones64_smallT (s : Nat) (hs : s < 1024) (w : World) :
    Calls Try.prog 114 #[.int .u64 s] w fun e w' => e = .returned (.int .i64 ((bitsOfT s).length : Int)) ∧ w = w' := by
  have H := Lib.hid (oc_smallT hs)
  go_enter Try.func114, Try.ntmps114
  go_wp2
  go_ret
  refine ⟨?_, rfl⟩
  rw [← H.out]
  rfl
theorem ones_smallT (s : Nat) (hs : s < 1024) (w : World) :
    Calls Try.prog 89 #[.int .u64 s] w fun e w' => e = .returned (.int .i64 ((bitsOfT s).length : Int)) ∧ w = w' := by
  have H := Lib.hid (ones64_smallT s hs w)
  go_enter Try.func89, Try.ntmps89
  go_wp2_with fail
  refine H.out.mono ?_
  rintro e w' ⟨rfl, rfl⟩
  go_wp2
  go_ret
  exact ⟨rfl, rfl⟩
end Go.Proofs.Ytkgomgfhhhdnjab
namespace Go.Proofs.Ytkgomgfhhhdnjab
open Go.ChangeShapes Go.WideShapes Go.ChangeAt Go.RowKit
set_option linter.unusedVariables false
set_option maxRecDepth 4000

theorem and2_u64T : ∀ s : Fin 1024, ∀ t : Fin 1024, bits BinOp.and IntKind.u64 (s.val : Int) (t.val : Int) = ((s.val &&& t.val : Nat) : Int) := fun s t => bits_and_u64_nat s.val t.val (by omega) (by omega)
theorem or2_u64T : ∀ s : Fin 1024, ∀ t : Fin 1024, bits BinOp.or IntKind.u64 (s.val : Int) (t.val : Int) = ((s.val ||| t.val : Nat) : Int) := fun s t => bits_or_u64_nat s.val t.val (by omega) (by omega)
set_option maxHeartbeats 600000 in
theorem mostW_anyT (N : Nat → Nat) (hN : ∀ i, N i < 1024) : ∀ (m k T c : Nat) (A : Option Addr) (w : World), RdU w A N k m → m ≤ c → m ≤ 10 → T < 1024 →
    Calls Try.prog 77 #[.slice A m c, .int .u64 T] w fun e w' => e = .returned (.int .i64 (mw N m k T : Nat)) ∧ ∃ q, w' = w.drewN q
  | 0, k, T, c, A, w, _, _, _, _ => by
    go_enter Try.func77, Try.ntmps77
    go_wp2
    go_ret
    exact ⟨rfl, 0, rfl⟩
  | m + 1, k, T, c, A, w, hr, hc, h7, hT => by
    obtain ⟨b, off, rfl, hcell⟩ := hr (by omega)
    have c0 := hcell 0 (by omega)
    rw [Nat.add_zero, Nat.add_zero] at c0
    obtain ⟨A2, hA2, hrest⟩ : ∃ A2 : Option Addr, ((c = 1 ∧ m = 0 ∧ A2 = some ⟨b, off, none⟩) ∨ (¬ c = 1 ∧ A2 = some ⟨b, off + 1, none⟩)) ∧ ∀ q, RdU (w.drewN q) A2 N (k + 1) m := by
      by_cases hc1 : c = 1
      · exact ⟨_, .inl ⟨hc1, by omega, rfl⟩, fun q hm => by omega⟩
      · refine ⟨_, .inr ⟨hc1, rfl⟩, fun q hm => ⟨b, off + 1, rfl, fun i hi => ?_⟩⟩
        have := hcell (i + 1) (by omega)
        rw [show off + (i + 1) = off + 1 + i by omega, show k + (i + 1) = k + 1 + i by omega] at this
        exact this
    have hand := and2_u64T ⟨N k, hN k⟩ ⟨T, hT⟩
    have hor := or2_u64T ⟨T, hT⟩ ⟨N k, hN k⟩
    simp only at hand hor
    have hT2 : T ||| N k < 1024 := Nat.or_lt_two_pow (n := 10) hT (hN k)
    have ih1 := mostW_anyT N hN m (k + 1) T (c - 1) A2 w (hrest 0) (by omega) (by omega) hT
    have ih2 := fun q => mostW_anyT N hN m (k + 1) (T ||| N k) (c - 1) A2 (w.drewN q) (hrest q) (by omega) (by omega) hT2
    have b1 := mw_bd N m (k + 1) T
    have b2 := mw_bd N m (k + 1) (T ||| N k)
    have hz : (((m + 1 : Nat) : Int) == 0) = false := by rw [beq_eq_false_iff_ne]; omega
    have H1 := Lib.hid ih1
    have H2 := Lib.hid ih2
    obtain ⟨M1, HM1⟩ : ∃ M, Hid (mw N m (k + 1) T = M) := ⟨_, rfl⟩
    obtain ⟨M2, HM2⟩ : ∃ M, Hid (mw N m (k + 1) (T ||| N k) = M) := ⟨_, rfl⟩
    have hmw0 : Hid (mw N (m + 1) k T = if N k &&& T = 0 then max M1 (1 + M2) else M1) := by show _ = _; simp only [mw]; rw [HM1.out, HM2.out]
    rw [HM1.out] at H1 b1
    rw [HM2.out] at H2 b2
    clear ih1 ih2 hrest hcell hr
    by_cases hd : N k &&& T = 0
    · rw [hd] at hand
      have hmw : Hid (mw N (m + 1) k T = max M1 (1 + M2)) := by show _ = _; rw [hmw0.out, if_pos hd]
      have hS1 : bits BinOp.and IntKind.u64 (N k : Int) (T : Int) = 0 := hand
      clear hand hd hmw0
      have w1' : IntKind.i64.wrap (1 + (M2 : Int)) = 1 + (M2 : Int) := IntWalk.i64_in _ (by omega)
      rcases hA2 with ⟨rfl, rfl, rfl⟩ | ⟨hc1, rfl⟩
      all_goals
        go_enter Try.func77, Try.ntmps77
        go_wp2_with fail
        refine H1.out.mono ?_
        rintro e w1 ⟨rfl, q1, rfl⟩
        have Hd := Lib.hid (H2.out (q1 + 1))
        have Hdr : Hid ((w.drewN q1).drew = w.drewN (q1 + 1)) := rfl
        have cq : ∀ a, (w.drewN a).cell? ⟨b, off, none⟩ = some (.int .u64 (N k : Nat)) := fun a => c0
        have cq2 : (w.drewN q1).drew.cell? ⟨b, off, none⟩ = some (.int .u64 (N k : Nat)) := c0
        go_wp2
        go_region_with (
          go_at_call 77
          refine Hd.out.mono ?_
          rintro e wz ⟨rfl, q3, rfl⟩)
        all_goals
          go_wp2
          all_goals
            go_ret
            refine ⟨ret_int (Eq.trans (b := ((max M1 (1 + M2) : Nat) : Int)) ?_ (congrArg (fun x : Nat => (x : Int)) hmw.out.symm)), _, rfl⟩
            rw [Nat.max_def]
            split <;> omega
    · have hmw : Hid (mw N (m + 1) k T = M1) := by show _ = _; rw [hmw0.out, if_neg hd]
      have hne : (((N k &&& T : Nat) : Int) == 0) = false := by rw [beq_eq_false_iff_ne]; omega
      clear hmw0
      rcases hA2 with ⟨rfl, rfl, rfl⟩ | ⟨hc1, rfl⟩
      all_goals
        go_enter Try.func77, Try.ntmps77
        go_wp2_with fail
        refine H1.out.mono ?_
        rintro e w1 ⟨rfl, q1, rfl⟩
        go_wp2
        go_ret
        exact ⟨ret_int (by rw [hmw.out]), _, rfl⟩
theorem ones_bcT : ∀ s : Fin 1024, (bitsOfT s.val).length = bc 10 s.val := by decide +kernel
theorem miss_isT (x S pb : Nat) (w : World) (hx : x < 1024) (hS : S < 1024) (hc : w.cell? ⟨pb, 0, none⟩ = some (.int .u64 S)) {b : Bool} (h : decide (x &&& S = 0) = b) :
    Calls Try.prog 123 #[.int .u64 x, .pointer (some ⟨pb, 0, none⟩)] w fun e w' => e = .returned (.bool b) ∧ ∃ q, w' = w.drewN q := by
  have ha := and2_u64T ⟨x, hx⟩ ⟨S, hS⟩
  simp only at ha
  obtain ⟨y, Hy⟩ : ∃ y, Hid (x &&& S = y) := ⟨_, rfl⟩
  rw [Hy.out] at ha h
  have hb : (((y : Nat) : Int) == 0) = b := by
    rw [← h]
    by_cases e : y = 0
    · subst e; rfl
    · rw [decide_eq_false e, beq_eq_false_iff_ne]; omega
  clear h
  go_enter Try.func123, Try.ntmps123
  go_wp2
  go_ret
  exact ⟨rfl, 0, rfl⟩
set_option maxHeartbeats 800000 in
theorem indexHit_anyT (N : Nat → Nat) (A : Option Addr) (c n S pb : Nat) (w : World) (hN : ∀ i, N i < 1024) (hS : S < 1024) (h7 : n ≤ 10) (hpb : pb < w.heap.size) (hr : ∀ w', Below w.heap.size w w' → RdU w' A N 0 n) (hc : w.cell? ⟨pb, 0, none⟩ = some (.int .u64 S)) :
    Calls Try.prog 129 #[.slice A n c, .func (.func 123) #[] #[.pointer (some ⟨pb, 0, none⟩)]] w (HitIdx N S n w) := by
  have HR := Lib.hid hr
  clear hr
  go_enter Try.func129, Try.ntmps129
  go_wp2
  go_loopw [8] (fun i wr => ∃ k : Nat, k ≤ n ∧ i = .int .i64 k ∧ Hid (∀ v, v < k → ¬ N v &&& S = 0) ∧ Below w.heap.size w wr) (fun i _ => n - (intOf i).toNat)
  case atStart => exact ⟨0, by omega, rfl, fun v hv => by omega, Below.refl _ _⟩
  case round =>
    obtain ⟨k, hk, rfl, Ho, hnx⟩ := hrel
    have hc2 : wr.cell? ⟨pb, 0, none⟩ = some (.int .u64 S) := (hnx.cell (p := ⟨pb, 0, none⟩) hpb).trans hc
    by_cases hlt : k < n
    · obtain ⟨b, off, rfl, hcell⟩ := HR.out wr hnx (by omega)
      have hx := hcell k hlt
      rw [Nat.zero_add] at hx
      have hN128 := hN k
      by_cases h1 : N k &&& S = 0
      · have Hs := Lib.hid (hits_no hlt h1)
        have Hf := Lib.hid (miss_isT (N k) S pb wr hN128 hS hc2 (b := true) (decide_eq_true h1))
        clear h1 hc2 hcell
        go_wp2_with fail
        refine Hf.out.mono ?_
        rintro e w' ⟨rfl, q, rfl⟩
        go_wp2
        go_ret
        exact ⟨_, rfl, fun h => absurd (Hs.out.symm.trans h) (by decide), fun _ => by omega, below_drewN hnx q⟩
      · have Hs : Hid (∀ v, v < k + 1 → ¬ N v &&& S = 0) := fun v hv => by
          by_cases e : v = k
          · subst e; exact h1
          · exact Ho.out v (by omega)
        have Hf := Lib.hid (miss_isT (N k) S pb wr hN128 hS hc2 (b := false) (decide_eq_false h1))
        clear h1 hc2 hcell
        go_wp2_with fail
        refine Hf.out.mono ?_
        rintro e w' ⟨rfl, q, rfl⟩
        go_wp2
        go_roundw
        case rel => exact ⟨k + 1, by omega, by go_num, Hs, below_drewN hnx q⟩
        case measure => simp [intOf]; omega
    · obtain rfl : k = n := by omega
      have Hs := Lib.hid (hits_iff.2 Ho.out)
      go_wp2
      go_ret
      exact ⟨_, rfl, fun _ => rfl, fun h => absurd (Hs.out.symm.trans h) (by decide), hnx⟩
theorem containsHit_anyT (N : Nat → Nat) (A : Option Addr) (c n S pb : Nat) (w : World) (hN : ∀ i, N i < 1024) (hS : S < 1024) (h7 : n ≤ 10) (hpb : pb < w.heap.size) (hr : ∀ w', Below w.heap.size w w' → RdU w' A N 0 n) (hc : w.cell? ⟨pb, 0, none⟩ = some (.int .u64 S)) :
    Calls Try.prog 122 #[.slice A n c, .func (.func 123) #[] #[.pointer (some ⟨pb, 0, none⟩)]] w fun e w' => e = .returned (.bool (!(hits N S n))) ∧ Below w.heap.size w w' := by
  have H := Lib.hid (indexHit_anyT N A c n S pb w hN hS h7 hpb hr hc)
  clear hr hc
  go_enter Try.func122, Try.ntmps122
  go_wp2_with fail
  refine H.out.mono ?_
  rintro e w' ⟨r, rfl, h1, h2, hnx⟩
  by_cases hf : hits N S n = true
  · have := h1 hf
    subst this
    have Hf := Lib.hid hf
    clear h1 h2 hf
    go_wp2
    go_ret
    exact ⟨ret_bool (by rw [Hf.out]; rfl), hnx⟩
  · have hf' : hits N S n = false := by simpa using hf
    have hr0 := h2 hf'
    have Hf := Lib.hid hf'
    clear h1 h2 hf hf'
    go_wp2
    go_ret
    exact ⟨ret_bool (by rw [Hf.out]; simp), hnx⟩
theorem hasAll_anyT (N : Nat → Nat) (A : Option Addr) (c n S : Nat) (w : World) (hN : ∀ i, N i < 1024) (hS : S < 1024) (h7 : n ≤ 10) (hr : ∀ w', Below w.heap.size w w' → RdU w' A N 0 n) :
    Calls Try.prog 112 #[.slice A n c, .int .u64 S] w fun e w' => e = .returned (.bool (hits N S n)) ∧ Below w.heap.size w w' := by
  have hb0 := (Below.refl w.heap.size w).alloc (Nat.le_refl _) (.cells #[.int .u64 S] 90)
  obtain ⟨W, HW⟩ : ∃ W, Hid (w.alloc (.cells #[.int .u64 S] 90) = W) := ⟨_, rfl⟩
  have hsz : W.heap.size = w.heap.size + 1 := by rw [← HW.out]; exact size_alloc1 _ _
  have hcc : W.cell? ⟨w.heap.size, 0, none⟩ = some (.int .u64 S) := by rw [← HW.out, cell_of_row _ _ _ _ _ _ (heap_alloc_new w _)]; rfl
  rw [HW.out] at hb0
  have Hf := Lib.hid (containsHit_anyT N A c n S w.heap.size W hN hS h7 (by omega) (fun w' h => hr w' (hb0.trans (h.mono (by omega)))) hcc)
  have HB := Lib.hid hb0
  clear hr hb0 hcc hsz
  go_enter Try.func112, Try.ntmps112
  go_wp2_with fail
  rw [HW.out]
  refine Hf.out.mono ?_
  rintro e w' ⟨rfl, hnx2⟩
  go_wp2
  go_ret
  exact ⟨ret_bool (by simp), HB.out.trans (hnx2.mono HB.out.size)⟩
end Go.Proofs.Ytkgomgfhhhdnjab
namespace Go.Proofs.Ytkgomgfhhhdnjab
open Go.ChangeShapes Go.WideShapes Go.ChangeAt Go.RowKit
set_option linter.unusedVariables false
set_option maxRecDepth 4000

theorem mw_pkRT {d : Nat → Nat → Int} {far : Int} {n : Nat} {N : Nat → Nat} (h7 : n ≤ 10) (hN : ∀ i, i < n → ∀ v, (N i).testBit v = true ↔ v < n ∧ 0 ≤ d v i ∧ d v i ≤ far) : mw N n 0 0 = pkBT d far n (2 ^ n) := by
  apply Nat.le_antisymm
  · obtain ⟨s, h1, _, h2, h3⟩ := mw_atT N h7 n 0 0 (by omega)
    rw [← h3]
    exact le_pkBT h1 ((fine_iffR h1 hN).2 h2)
  · refine pkB_leT _ fun s hs hf => ?_
    rw [← cn_bcT h7 hs]
    exact mw_ge N s n 0 0 ((fine_iffR hs hN).1 hf)
end Go.Proofs.Ytkgomgfhhhdnjab
namespace Go.Proofs.Ytkgomgfhhhdnjab
open Go.ChangeShapes Go.WideShapes Go.ChangeAt Go.RowKit
set_option linter.unusedVariables false
set_option maxRecDepth 4000

/-- The fewest among the sets below S. -/
def fwH (N : Nat → Nat) (n : Nat) : Nat → Nat
  | 0 => n
  | S + 1 => if hits N S n = true then min (fwH N n S) (bc 10 S) else fwH N n S
theorem fwH_bd (N : Nat → Nat) (n : Nat) : ∀ S, fwH N n S ≤ n
  | 0 => Nat.le_refl _
  | S + 1 => by have := fwH_bd N n S; simp only [fwH]; split <;> omega
theorem bc_7_10 : ∀ s : Fin 128, bc 7 s.val = bc 10 s.val := by decide +kernel
theorem fwH_cvN {d : Nat → Nat → Int} {far : Int} {n : Nat} {N : Nat → Nat} (h7 : n ≤ 7) (h : ∀ S, cvF d far S n n = hits N S n) : ∀ S, S ≤ 2 ^ n → cvN d far n S = fwH N n S
  | 0, _ => rfl
  | S + 1, hS => by
    have h2 : 2 ^ n ≤ 128 := Nat.pow_le_pow_right (show 2 > 0 by omega) h7
    have := bc_7_10 ⟨S, by omega⟩
    simp only at this
    simp only [cvN, fwH]
    rw [fwH_cvN h7 h S (by omega), h S, this]
theorem fwH_cvT {d : Nat → Nat → Int} {far : Int} {n : Nat} {N : Nat → Nat} (h : ∀ S, cvF d far S n n = hits N S n) : ∀ S, cvNT d far n S = fwH N n S
  | 0 => rfl
  | S + 1 => by
    simp only [cvNT, fwH]
    rw [fwH_cvT h S, h S]
theorem wrap_pow11 : ∀ i : Fin 11, IntKind.u64.wrap ((2 : Int) ^ i.val) = ((2 ^ i.val : Nat) : Int) := by decide +kernel
set_option maxHeartbeats 1600000 in
theorem fewestAll_any (N : Nat → Nat) (A : Option Addr) (c n : Nat) (w : World) (hN : ∀ i, N i < 1024) (h10 : n ≤ 10) (hr : ∀ w', Below w.heap.size w w' → RdU w' A N 0 n) :
    Calls Try.prog 79 #[.slice A n c] w fun e w' => e = .returned (.int .i64 (fwH N n (2 ^ n) : Nat)) ∧ Below w.heap.size w w' := by
  have Hha : Hid (∀ wr S, Below w.heap.size w wr → S < 1024 → Calls Try.prog 112 #[.slice A n c, .int .u64 (S : Nat)] wr fun e w' => e = .returned (.bool (hits N S n)) ∧ Below wr.heap.size wr w') := fun wr S hb hS =>
    hasAll_anyT N A c n S wr hN hS h10 (fun w' h => hr w' (hb.trans (h.mono hb.size)))
  clear hr
  have h1024 : 2 ^ n ≤ 1024 := Nat.pow_le_pow_right (show 2 > 0 by omega) h10
  have hwp := wrap_pow11 ⟨n, by omega⟩
  simp only at hwp
  obtain ⟨P, HP⟩ : ∃ P : Nat, Hid (2 ^ n = P) := ⟨_, rfl⟩
  rw [HP.out] at h1024 hwp ⊢
  go_enter Try.func79, Try.ntmps79
  go_wp2
  go_loopw [3, 10] (fun f s wr => ∃ S : Nat, S ≤ P ∧ s = .int .u64 S ∧ f = .int .i64 (fwH N n S : Nat) ∧ Below w.heap.size w wr) (fun _ s _ => P - (intOf s).toNat)
  case atStart => exact ⟨0, Nat.zero_le _, rfl, rfl, Below.refl _ _⟩
  case round =>
    obtain ⟨S, hSP, rfl, rfl, hbl⟩ := hrel
    obtain ⟨F, HF⟩ : ∃ F, Hid (fwH N n S = F) := ⟨_, rfl⟩
    have hF10 := fwH_bd N n S
    rw [HF.out] at hF10 ⊢
    by_cases hlt : S < P
    · have Hh := Lib.hid (Hha.out wr S hbl (by omega))
      have Ho := Lib.hid (fun W => ones_smallT S (by omega) W)
      rw [ones_bcT ⟨S, by omega⟩] at Ho
      by_cases hc : hits N S n = true
      · rw [hc] at Hh
        obtain ⟨C, HC⟩ : ∃ C, Hid (bc 10 S = C) := ⟨_, rfl⟩
        simp only at Ho
        rw [HC.out] at Ho
        have Hnx : Hid (fwH N n (S + 1) = min F C) := by show _ = _; simp only [fwH]; rw [if_pos hc, HF.out, HC.out]
        have hC10 : C ≤ 10 := by rw [← HC.out]; exact bc_le 10 S
        clear hc
        by_cases hfc : F ≤ C
        · have Hnx2 : Hid (fwH N n (S + 1) = F) := by show _ = _; rw [Hnx.out]; omega
          go_wp2_with fail
          refine Hh.out.mono ?_
          rintro e w6 ⟨rfl, hnx6⟩
          go_wp2_with fail
          refine (Ho.out w6).mono ?_
          rintro e w' ⟨rfl, rfl⟩
          go_wp2
          go_roundw
          case rel => exact ⟨S + 1, by omega, by go_num, by rw [Hnx2.out], hbl.trans (hnx6.mono hbl.size)⟩
          case measure => simp [intOf]; omega
        · have Hnx2 : Hid (fwH N n (S + 1) = C) := by show _ = _; rw [Hnx.out]; omega
          go_wp2_with fail
          refine Hh.out.mono ?_
          rintro e w6 ⟨rfl, hnx6⟩
          go_wp2_with fail
          refine (Ho.out w6).mono ?_
          rintro e w' ⟨rfl, rfl⟩
          go_wp2
          go_roundw
          case rel => exact ⟨S + 1, by omega, by go_num, by rw [Hnx2.out], hbl.trans (hnx6.mono hbl.size)⟩
          case measure => simp [intOf]; omega
      · have hc1 : hits N S n = false := by simpa using hc
        rw [hc1] at Hh
        have Hnx2 : Hid (fwH N n (S + 1) = F) := by show _ = _; simp only [fwH]; rw [if_neg hc, HF.out]
        clear hc hc1
        go_wp2_with fail
        refine Hh.out.mono ?_
        rintro e w6 ⟨rfl, hnx6⟩
        go_wp2
        go_roundw
        case rel => exact ⟨S + 1, by omega, by go_num, by rw [Hnx2.out], hbl.trans (hnx6.mono hbl.size)⟩
        case measure => simp [intOf]; omega
    · have hSP2 : S = P := by omega
      have HE : Hid (F = fwH N n P) := by show _ = _; rw [← HF.out, hSP2]
      clear hSP2
      go_wp2
      go_ret
      exact ⟨ret_int (by rw [HE.out]), hbl⟩
end Go.Proofs.Ytkgomgfhhhdnjab
namespace Go.Proofs.Ytkgomgfhhhdnjab
open Go.ChangeShapes Go.WideShapes Go.ChangeAt Go.RowKit
set_option linter.unusedVariables false
set_option maxRecDepth 4000

theorem NetIn.on {w w' : World} {A : Option Addr} {c m : Nat} {n : Int} {ss : List Str} (h : NetIn w A c m n ss) (hb : Below w.heap.size w w') : NetIn w' A c m n ss :=
  ⟨(h.rd.below hb).more hb.size, h.len, h.cap, h.most, h.wf⟩
theorem nmk_128 {d : Nat → Nat → Int} {far : Int} {n : Nat} (h7 : n ≤ 7) (i : Nat) : nmk d far i n < 128 := pow_128 h7 (nmk_lt _ _ _ _)
/-- The sets of near nodes stay readable. -/
theorem sets_read {d : Nat → Nat → Int} {far : Int} {n g B : Nat} {w : World} (h : w.ownsRow B 90 1 (.slice (some ⟨g, 0, none⟩) n n) n (Ms d far n n 0)) : RdU w (some ⟨g, 0, none⟩) (fun i => nmk d far i n) 0 n := fun _ =>
  ⟨g, 0, rfl, fun i hi => by
    rw [Nat.zero_add, h.cellAt i (by omega)]
    simp [Ms, hi]⟩

set_option maxHeartbeats 1600000 in
theorem iNetApart_ok : INum 35 nap := by
  intro A c m n ss far w hin hwk
  by_cases hv : vnet n ss = true
  · have H1 := Lib.hid (iValidNet_is A c m n ss w hin hv)
    by_cases hf : far < 0 ∨ 50 < far
    · have Hs := Lib.hid (nap_no (n := n) (ss := ss) (.inr hf))
      have H2 := Lib.hid (fun W => farOk_no far W hf)
      clear hv hf hin
      go_enter Try.func35, Try.ntmps35
      go_wp2_with fail
      refine H1.out.mono ?_
      rintro e w2 ⟨rfl, hnx2⟩
      go_wp2_with fail
      refine (H2.out w2).mono ?_
      rintro e w' ⟨rfl, rfl⟩
      go_wp2
      go_ret
      exact ⟨ret_int Hs.out.symm, hnx2⟩
    · have H2 := Lib.hid (fun W => farOk_yes far W (by omega) (by omega))
      obtain ⟨n, rfl, hn1, hn7⟩ := vnet_nat hv
      have hbd := (sht_spec hv).2
      have Hs := Lib.hid (show nap n ss far = ((mw (fun i => nmk (sht n ss) far i n) n 0 0 : Nat) : Int) by
        rw [nap_yes hv (by omega) (by omega), mw_pkR (d := sht n ss) (far := far) hn7 (fun i hi v => by
          rw [nmk_iff (fun a b ha hb => (hbd a b ha hb).1) hi]
          have hs := (sht_met hv).symm
          constructor
          · rintro ⟨h1, h2, h3⟩; rw [hs i v hi h1] at h2 h3; exact ⟨h1, h2, h3⟩
          · rintro ⟨h1, h2, h3⟩; rw [hs v i h1 hi] at h2 h3; exact ⟨h1, h2, h3⟩)])
      have Hin := Lib.hid hin
      have Hv := Lib.hid hv
      clear hv hf hin hbd
      go_enter Try.func35, Try.ntmps35
      go_wp2_with fail
      refine H1.out.mono ?_
      rintro e w2 ⟨rfl, hnx2⟩
      have HB2 := Lib.hid hnx2
      have Ht := Lib.hid (iNetTable_ok A c m n ss w2 (Hin.out.on hnx2))
      clear hnx2
      go_wp2_with fail
      refine (H2.out w2).mono ?_
      rintro e w' ⟨rfl, rfl⟩
      go_wp2_with fail
      refine Ht.out.mono ?_
      rintro e w4 (⟨hno, -, -⟩ | ⟨-, v, VR, rfl, hO, hT, hnx4⟩)
      · exact absurd (Hv.out.symm.trans hno) (by decide)
      obtain ⟨Ag, cg, rfl, -, -, hA⟩ := own_sliceN hO
      obtain ⟨g, rfl, -, -⟩ := hA (by omega)
      have Hns := Lib.hid (nearSets_any w4 w2.heap.size n g cg far VR (sht n ss) hn1 hn7 hO hT)
      have HB4 := Lib.hid (HB2.out.trans (hnx4.mono HB2.out.size))
      clear hO hT hnx4 hA
      go_wp2_with fail
      refine Hns.out.mono ?_
      rintro e w5 ⟨g5, rfl, hown5, hnx5⟩
      have HB5 := Lib.hid (HB4.out.trans (hnx5.mono HB4.out.size))
      have Hm := Lib.hid (mostW_any (fun i => nmk (sht n ss) far i n) (nmk_128 hn7) n 0 0 n (some ⟨g5, 0, none⟩) w5 (sets_read hown5) (Nat.le_refl _) hn7 (by omega))
      clear hown5 hnx5
      go_wp2_with fail
      refine Hm.out.mono ?_
      rintro e w6 ⟨rfl, q, rfl⟩
      go_wp2
      go_ret
      exact ⟨ret_int Hs.out.symm, below_drewN HB5.out _⟩
  · have hv' : vnet n ss = false := by simpa using hv
    have Hs := Lib.hid (nap_no (far := far) (.inl hv'))
    have H1 := Lib.hid (iValidNet_is A c m n ss w hin hv')
    clear hv hv' hin
    go_enter Try.func35, Try.ntmps35
    go_wp2_with fail
    refine H1.out.mono ?_
    rintro e w2 ⟨rfl, hnx2⟩
    go_wp2
    go_ret
    exact ⟨ret_int Hs.out.symm, hnx2⟩

set_option maxHeartbeats 1600000 in
theorem iNetCover_ok : INum 32 ncv := by
  intro A c m n ss far w hin hwk
  by_cases hv : vnet n ss = true
  · have H1 := Lib.hid (iValidNet_is A c m n ss w hin hv)
    by_cases hf : far < 0 ∨ 50 < far
    · have Hs := Lib.hid (ncv_no (n := n) (ss := ss) (.inr hf))
      have H2 := Lib.hid (fun W => farOk_no far W hf)
      clear hv hf hin
      go_enter Try.func32, Try.ntmps32
      go_wp2_with fail
      refine H1.out.mono ?_
      rintro e w2 ⟨rfl, hnx2⟩
      go_wp2_with fail
      refine (H2.out w2).mono ?_
      rintro e w' ⟨rfl, rfl⟩
      go_wp2
      go_ret
      exact ⟨ret_int Hs.out.symm, hnx2⟩
    · have H2 := Lib.hid (fun W => farOk_yes far W (by omega) (by omega))
      obtain ⟨n, rfl, hn1, hn7⟩ := vnet_nat hv
      have hbd := (sht_spec hv).2
      have Hs := Lib.hid (ncv_yes (far := far) hv (by omega) (by omega))
      have Hcv : Hid (∀ S, cvF (sht n ss) far S n n = hits (fun i => nmk (sht n ss) far i n) S n) := fun S => cover_hits (fun a b ha hb => (hbd a b ha hb).1)
      have Hin := Lib.hid hin
      have Hv := Lib.hid hv
      clear hv hf hin hbd
      go_enter Try.func32, Try.ntmps32
      go_wp2_with fail
      refine H1.out.mono ?_
      rintro e w2 ⟨rfl, hnx2⟩
      have HB2 := Lib.hid hnx2
      have Ht := Lib.hid (iNetTable_ok A c m n ss w2 (Hin.out.on hnx2))
      clear hnx2
      go_wp2_with fail
      refine (H2.out w2).mono ?_
      rintro e w' ⟨rfl, rfl⟩
      go_wp2_with fail
      refine Ht.out.mono ?_
      rintro e w4 (⟨hno, -, -⟩ | ⟨-, v, VR, rfl, hO, hT, hnx4⟩)
      · exact absurd (Hv.out.symm.trans hno) (by decide)
      obtain ⟨Ag, cg, rfl, -, -, hA⟩ := own_sliceN hO
      obtain ⟨g, rfl, -, -⟩ := hA (by omega)
      have Hns := Lib.hid (nearSets_any w4 w2.heap.size n g cg far VR (sht n ss) hn1 hn7 hO hT)
      have HB4 := Lib.hid (HB2.out.trans (hnx4.mono HB2.out.size))
      clear hO hT hnx4 hA
      go_wp2_with fail
      refine Hns.out.mono ?_
      rintro e w5 ⟨g5, rfl, hown5, hnx5⟩
      have HB5 := Lib.hid (HB4.out.trans (hnx5.mono HB4.out.size))
      have Hfw := Lib.hid (fewestAll_any (fun i => nmk (sht n ss) far i n) (some ⟨g5, 0, none⟩) n n w5 (fun i => Nat.lt_of_lt_of_le (nmk_128 hn7 i) (by omega)) (by omega) (fun w' h => sets_read (ownN_below hown5 h)))
      have Hcw : Hid (cvN (sht n ss) far n (2 ^ n) = fwH (fun i => nmk (sht n ss) far i n) n (2 ^ n)) := fwH_cvN hn7 Hcv.out (2 ^ n) (Nat.le_refl _)
      clear hown5 hnx5
      go_wp2_with fail
      refine Hfw.out.mono ?_
      rintro e w6 ⟨rfl, hnx6⟩
      go_wp2
      go_ret
      exact ⟨ret_int (by rw [Hs.out, Hcw.out]), HB5.out.trans (hnx6.mono HB5.out.size)⟩
  · have hv' : vnet n ss = false := by simpa using hv
    have Hs := Lib.hid (ncv_no (far := far) (.inl hv'))
    have H1 := Lib.hid (iValidNet_is A c m n ss w hin hv')
    clear hv hv' hin
    go_enter Try.func32, Try.ntmps32
    go_wp2_with fail
    refine H1.out.mono ?_
    rintro e w2 ⟨rfl, hnx2⟩
    go_wp2
    go_ret
    exact ⟨ret_int Hs.out.symm, hnx2⟩
end Go.Proofs.Ytkgomgfhhhdnjab
