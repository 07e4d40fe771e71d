/-
  The model's sets: powers, bits; the most nodes no two of which are near one node, over all sets.
  Conditions: at most seven nodes.
  Sets of nodes as numbers, as they are gone through one by one: the nearest of a set, the first of the farthest, the least over all sets of so many nodes.
  Conditions: at most seven nodes; ways are between -1 and 54.
  The small functions of chapter 3: a way shorter than another, two ways joined, a row's way made shorter, a node's number.
  Conditions: as each theorem states.
  The program's shorten at a table's entry, and addStreet: all rows made shorter by one street.
  Conditions: as each theorem states.
  addStreet of the program, walked.
  Conditions: a table with the net's bounds, a street of the net.
  Tables that are made whole first and filled row by row; a row's element changed.
  Conditions: none beyond what each theorem states.
  The library's Mul at small numbers; Clone and Repeat of a slice of ints.
  Conditions: as each theorem states.
-/
import Derived.Test.YtkgomgfhhhdnjabZ5
import Derived.Test.YtkgomgfhhhdnjabZ4
import Derived.Test.YtkgomgfhhhdnjabZ2
import Derived.Test.YtkgomgfhhhdnjabZ0
import Derived.Deep.RegionWith
import Derived.StillTailTactics
import Derived.OneCell
import Derived.Shelf.Bits.Mul64
import Derived.Laws.CopyOwn
import Derived.WalkSpells
import Derived.Deep.AppendLies
namespace Go.Proofs.Ytkgomgfhhhdnjab
open Go.ChangeShapes Go.WideShapes Go.ChangeAt Go.RowKit
set_option linter.unusedVariables false
set_option maxRecDepth 4000

theorem fnB_false {d : Nat → Nat → Int} {far : Int} {s n v : Nat} (h : fnB d far s n v = false) : ∀ m, v ≤ m → fnB d far s n m = false := by
  intro m hm
  induction m with
  | zero => have : v = 0 := by omega
            subst this; exact h
  | succ m ih =>
    by_cases e : v = m + 1
    · subst e; exact h
    · simp only [fnB, ih (by omega)]; rfl
theorem nrB_bd (d : Nat → Nat → Int) (far : Int) (s v : Nat) : ∀ m, nrB d far s v m ≤ m
  | 0 => Nat.le_refl _
  | m + 1 => by have := nrB_bd d far s v m; simp only [nrB]; split <;> omega
theorem bc_bd : ∀ f s, bc f s ≤ f
  | 0, _ => Nat.le_refl _
  | f + 1, s => by have := bc_bd f (s / 2); simp only [bc]; omega
theorem pkB_bd (d : Nat → Nat → Int) (far : Int) (n : Nat) : ∀ S, pkB d far n S ≤ 7
  | 0 => Nat.zero_le _
  | S + 1 => by
    have := pkB_bd d far n S
    have := bc_bd 7 S
    simp only [pkB]; split <;> omega

set_option maxHeartbeats 2000000 in
theorem packX_any (w : World) (B n g0 c : Nat) (far : Int) (VR : Nat → Value) (X : Nat → Nat → Int) (hn1 : 1 ≤ n) (hn7 : n ≤ 7) (hO : Outer w B n (.slice (some ⟨g0, 0, none⟩) n c) VR) (hT : TT w B n VR (rowX X n)) :
    Calls Try.prog 86 #[.slice (some ⟨g0, 0, none⟩) n c, .int .i64 far] w fun e w' => e = .returned (.int .i64 ((pkB X far n (2 ^ n) : Nat) : Int)) ∧ w = w' := by
  have HO := Lib.hid hO
  have HT := Lib.hid hT
  have HPW := Lib.hid (power_any n w hn7)
  have hP7 : 2 ^ n ≤ 128 := (Nat.pow_le_pow_right (by omega) hn7 : 2 ^ n ≤ 2 ^ 7)
  obtain ⟨P, HP⟩ : ∃ P : Nat, Hid (2 ^ n = P) := ⟨2 ^ n, rfl⟩
  rw [HP.out] at HPW hP7 ⊢
  clear hO hT
  go_enter Try.func86, Try.ntmps86
  go_wp2
  go_loop [5, 6] (fun b s => ∃ S : Nat, S ≤ P ∧ s = .int .i64 S ∧ b = .int .i64 ((pkB X far n S : Nat) : Int)) (fun _ s => P - (intOf s).toNat)
  case atStart => exact ⟨0, Nat.zero_le _, rfl, rfl⟩
  case round =>
    obtain ⟨S, hS, rfl, rfl⟩ := hrel
    by_cases hlt : S < P
    · have hS128 : S < 128 := by omega
      obtain ⟨K, HK⟩ : ∃ K, Hid (pkB X far n S = K) := ⟨_, rfl⟩
      have hK7 := pkB_bd X far n S
      rw [HK.out] at hK7 ⊢
      go_wp2_with fail
      refine HPW.out.mono ?_
      rintro e w' ⟨rfl, rfl⟩
      go_wp2
      go_loop [7, 8] (fun f v => ∃ k : Nat, k ≤ n ∧ v = .int .i64 k ∧ f = .bool (fnB X far S n k)) (fun _ v => n - (intOf v).toNat)
      case atStart => exact ⟨0, Nat.zero_le _, rfl, rfl⟩
      case round =>
        obtain ⟨v, hv, rfl, rfl⟩ := hrel
        obtain ⟨F, HF⟩ : ∃ F, Hid (fnB X far S n v = F) := ⟨_, rfl⟩
        rw [HF.out]
        by_cases hvn : v < n
        · cases F with
          | true =>
            obtain ⟨Av, cv, ev, hrv⟩ := HT.out.row hvn
            have cc := Outer.cell HO.out hvn
            rw [ev, rowX_len] at cc
            have HRV := Lib.hid hrv
            clear ev hrv
            go_wp2
            go_loop [9, 10] (fun a i => ∃ m : Nat, m ≤ n ∧ i = .int .i64 m ∧ a = .int .i64 ((nrB X far S v m : Nat) : Int)) (fun _ i => n - (intOf i).toNat)
            case atStart => exact ⟨0, Nat.zero_le _, rfl, rfl⟩
            case round =>
              obtain ⟨m, hm, rfl, rfl⟩ := hrel
              obtain ⟨R, HR⟩ : ∃ R, Hid (nrB X far S v m = R) := ⟨_, rfl⟩
              have hR7 := nrB_bd X far S v m
              rw [HR.out] at hR7 ⊢
              by_cases hmn : m < n
              · obtain ⟨b, off, x, rfl, -, Hx, hcx⟩ := HRV.out.x (k := m) (by rw [rowX_len]; exact hmn)
                have hx := Hx.out
                rw [rowX_get X hmn] at hx
                have Hbit := Lib.hid (bit_any S m w hS128 (by omega))
                by_cases hb : S.testBit m = true
                · rw [if_pos hb] at Hbit
                  by_cases hx0 : 0 ≤ x
                  · by_cases hf : x ≤ far
                    · have hnx : Hid (nrB X far S v (m + 1) = R + 1) := by show _ = _; simp only [nrB]; rw [HR.out, if_pos ⟨hb, by rw [hx]; exact hx0, by rw [hx]; exact hf⟩]
                      clear hb hx
                      go_wp2_with fail
                      refine Hbit.out.mono ?_
                      rintro e w' ⟨rfl, rfl⟩
                      go_wp2
                      go_round
                      case rel => exact ⟨m + 1, by omega, by go_num, by rw [hnx.out]; go_num⟩
                      case measure => simp [intOf]; omega
                    · have hnx : Hid (nrB X far S v (m + 1) = R) := by show _ = _; simp only [nrB]; rw [HR.out, if_neg (by rintro ⟨_, _, h⟩; rw [hx] at h; exact hf h)]; rfl
                      clear hb hx
                      go_wp2_with fail
                      refine Hbit.out.mono ?_
                      rintro e w' ⟨rfl, rfl⟩
                      go_wp2
                      go_round
                      case rel => exact ⟨m + 1, by omega, by go_num, by rw [hnx.out]⟩
                      case measure => simp [intOf]; omega
                  · have hx0' : x < 0 := by omega
                    have hnx : Hid (nrB X far S v (m + 1) = R) := by show _ = _; simp only [nrB]; rw [HR.out, if_neg (by rintro ⟨_, h, _⟩; rw [hx] at h; exact hx0 h)]; rfl
                    clear hb hx
                    go_wp2_with fail
                    refine Hbit.out.mono ?_
                    rintro e w' ⟨rfl, rfl⟩
                    go_wp2
                    go_round
                    case rel => exact ⟨m + 1, by omega, by go_num, by rw [hnx.out]⟩
                    case measure => simp [intOf]; omega
                · rw [if_neg hb] at Hbit
                  have hnx : Hid (nrB X far S v (m + 1) = R) := by show _ = _; simp only [nrB]; rw [HR.out, if_neg (by rintro ⟨h, _⟩; exact hb h)]; rfl
                  clear hb hx
                  go_wp2_with fail
                  refine Hbit.out.mono ?_
                  rintro e w' ⟨rfl, rfl⟩
                  go_wp2
                  go_round
                  case rel => exact ⟨m + 1, by omega, by go_num, by rw [hnx.out]⟩
                  case measure => simp [intOf]; omega
              · have hmn2 : m = n := by omega
                subst hmn2
                have hnf : Hid (fnB X far S m (v + 1) = decide ((R : Int) ≤ 1)) := by
                  show _ = _
                  simp only [fnB]
                  rw [HF.out, HR.out]
                  by_cases h : R ≤ 1
                  · have : (R : Int) ≤ 1 := by omega
                    simp [h, this]
                  · have : ¬ (R : Int) ≤ 1 := by omega
                    simp [h, this]
                go_wp2
                go_round
                case rel => exact ⟨v + 1, by omega, by go_num, by rw [hnf.out]⟩
                case measure => simp [intOf]; omega
          | false =>
            have hff := Lib.hid (fnB_false HF.out n hv)
            have hpk : Hid (pkB X far n (S + 1) = K) := by show _ = _; simp only [pkB]; rw [if_neg (by rw [hff.out]; simp), HK.out]
            go_wp2
            go_round
            case rel => exact ⟨S + 1, by omega, by go_num, by rw [hpk.out]⟩
            case measure => simp [intOf]; omega
        · have hvn2 : v = n := by omega
          subst hvn2
          cases F with
          | true =>
            have Hbs := Lib.hid (bits_any S w hS128)
            have hpk : Hid (pkB X far v (S + 1) = max K (bc 7 S)) := by show _ = _; simp only [pkB]; rw [if_pos HF.out, HK.out]
            obtain ⟨C, HC⟩ : ∃ C, Hid (bc 7 S = C) := ⟨_, rfl⟩
            rw [HC.out] at Hbs hpk
            by_cases hKC : K < C
            · have hpk2 : Hid (pkB X far v (S + 1) = C) := by show _ = _; rw [hpk.out]; omega
              have hKC' : (K : Int) < (C : Int) := by omega
              go_wp2_with fail
              refine Hbs.out.mono ?_
              rintro e w' ⟨rfl, rfl⟩
              go_wp2
              go_round
              case rel => exact ⟨S + 1, by omega, by go_num, by rw [hpk2.out]⟩
              case measure => simp [intOf]; omega
            · have hpk2 : Hid (pkB X far v (S + 1) = K) := by show _ = _; rw [hpk.out]; omega
              have hKC' : ¬ (K : Int) < (C : Int) := by omega
              go_wp2_with fail
              refine Hbs.out.mono ?_
              rintro e w' ⟨rfl, rfl⟩
              go_wp2
              go_round
              case rel => exact ⟨S + 1, by omega, by go_num, by rw [hpk2.out]⟩
              case measure => simp [intOf]; omega
          | false =>
            have hpk : Hid (pkB X far v (S + 1) = K) := by show _ = _; simp only [pkB]; rw [if_neg (by rw [HF.out]; simp), HK.out]
            go_wp2
            go_round
            case rel => exact ⟨S + 1, by omega, by go_num, by rw [hpk.out]⟩
            case measure => simp [intOf]; omega
    · have hSP : S = P := by omega
      subst hSP
      go_wp2_with fail
      refine HPW.out.mono ?_
      rintro e w' ⟨rfl, rfl⟩
      go_wp2
      go_ret
      exact ⟨rfl, rfl⟩
end Go.Proofs.Ytkgomgfhhhdnjab
namespace Go.Proofs.Ytkgomgfhhhdnjab
open Go.ChangeShapes Go.WideShapes Go.ChangeAt Go.RowKit
set_option linter.unusedVariables false

theorem memL_succ (s m : Nat) : memL s (m + 1) = memL s m ++ (if s.testBit m = true then [m] else []) := by
  unfold memL
  rw [List.range_succ, List.filter_append]
  congr 1
  cases h : s.testBit m <;> simp [h]
/-- Whether a way is shorter than another, -1 longer than all. -/
def ShW (x y : Int) : Prop := ¬ x = -1 ∧ (y = -1 ∨ x < y)
instance (x y : Int) : Decidable (ShW x y) := by unfold ShW; infer_instance
theorem wyS_skip {d : Nat → Nat → Int} {s v m : Nat} (h : ¬ s.testBit m = true) : wy d v (memL s (m + 1)) = wy d v (memL s m) := by
  rw [memL_succ, if_neg h, List.append_nil]
theorem wyS_take {d : Nat → Nat → Int} {s v m : Nat} {x acc : Int} (h : s.testBit m = true) (ha : wy d v (memL s m) = acc) (hx : d v m = x) (h1 : -1 ≤ x) (h2 : -1 ≤ acc) : wy d v (memL s (m + 1)) = if ShW x acc then x else acc := by
  rw [memL_succ, if_pos h]
  unfold wy at ha ⊢
  rw [pkL_append, ha]
  simp only [pkL]
  rw [hx]
  by_cases hc : 0 ≤ x ∧ (acc < 0 ∨ x < acc)
  · have hs : ShW x acc := ⟨by omega, by omega⟩
    rw [if_pos hc, if_pos hs]
  · have hs : ¬ ShW x acc := fun hs => by
      have e1 := hs.1
      have e2 := hs.2
      omega
    rw [if_neg hc, if_neg hs]
theorem wy_low (d : Nat → Nat → Int) (v : Nat) (L : List Nat) : -1 ≤ wy d v L := by
  rcases pkL_cases (d v) L with ⟨h, _⟩ | ⟨h, _⟩ <;> (unfold wy; omega)
theorem wy_high {d : Nat → Nat → Int} {v : Nat} {L : List Nat} {b : Int} (hb : 0 ≤ b) (h : ∀ i ∈ L, d v i ≤ b) : wy d v L ≤ b := by
  rcases pkL_cases (d v) L with ⟨h1, _⟩ | ⟨_, ⟨x, hx, h1⟩, _⟩
  · unfold wy; omega
  · have := h x hx
    unfold wy; omega
theorem wy_mem {d : Nat → Nat → Int} {v : Nat} {L L' : List Nat} (h : ∀ i, i ∈ L ↔ i ∈ L') : wy d v L = wy d v L' := by
  unfold wy
  rcases pkL_cases (d v) L with ⟨h1, h2⟩ | ⟨h1, ⟨x, hx, h2⟩, h3⟩ <;> rcases pkL_cases (d v) L' with ⟨g1, g2⟩ | ⟨g1, ⟨y, hy, g2⟩, g3⟩
  · omega
  · have := h2 y ((h y).2 hy); omega
  · have := g2 x ((h x).1 hx); omega
  · have := h3 y ((h y).2 hy) (by omega)
    have := g3 x ((h x).1 hx) (by omega)
    omega
theorem radL_mem {d : Nat → Nat → Int} {L L' : List Nat} (h : ∀ i, i ∈ L ↔ i ∈ L') : ∀ m, radL d L m = radL d L' m
  | 0 => rfl
  | m + 1 => by simp only [radL]; rw [radL_mem h m, wy_mem h]
theorem memL_stO {n : Nat} {J : List Nat} (h : ∀ i ∈ J, i < n) (i : Nat) : i ∈ memL (stO J) n ↔ i ∈ J := by
  rw [memL_iff, stO_iff]
  exact ⟨fun h1 => h1.2, fun h1 => ⟨h i h1, h1⟩⟩

/-- The first one of the farthest below m, 0 for none. -/
def ffI (d : Nat → Nat → Int) (L : List Nat) : Nat → Nat
  | 0 => 0
  | m + 1 => if ShW (wy d (ffI d L m) L) (wy d m L) then m else ffI d L m
theorem ffI_lt (d : Nat → Nat → Int) (L : List Nat) {n : Nat} (hn : 1 ≤ n) : ∀ m, m ≤ n → ffI d L m < n
  | 0, _ => by show 0 < n; omega
  | m + 1, h => by
    have := ffI_lt d L hn m (by omega)
    simp only [ffI]; split <;> omega
theorem ffI_yes {d : Nat → Nat → Int} {L : List Nat} {m f : Nat} (hf : ffI d L m = f) (h : ShW (wy d f L) (wy d m L)) : ffI d L (m + 1) = m := by
  simp only [ffI]; rw [hf, if_pos h]
theorem ffI_no {d : Nat → Nat → Int} {L : List Nat} {m f : Nat} (hf : ffI d L m = f) (h : ¬ ShW (wy d f L) (wy d m L)) : ffI d L (m + 1) = f := by
  simp only [ffI]; rw [hf, if_neg h]
/-- Ways between -1 and 54. -/
def Bd54 (d : Nat → Nat → Int) (n : Nat) : Prop := ∀ a b, a < n → b < n → -1 ≤ d a b ∧ d a b ≤ 54
theorem wy_bd {d : Nat → Nat → Int} {n v : Nat} {L : List Nat} (hb : Bd54 d n) (hL : ∀ i ∈ L, i < n) (hv : v < n) : -1 ≤ wy d v L ∧ wy d v L ≤ 54 :=
  ⟨wy_low _ _ _, wy_high (by omega) fun i hi => (hb v i hv (hL i hi)).2⟩
theorem nrP_lt {d : Nat → Nat → Int} {n v u : Nat} {L : List Nat} (hb : Bd54 d n) (hL : ∀ i ∈ L, i < n) (hv : v < n) (hu : u < n) : ShW (wy d u L) (wy d v L) ↔ nrP d u L < nrP d v L := by
  have h1 := wy_bd hb hL hv
  have h2 := wy_bd hb hL hu
  unfold ShW nrP
  split <;> split <;> omega
theorem nrP_ge {d : Nat → Nat → Int} {v : Nat} {L : List Nat} : 0 ≤ nrP d v L := by
  unfold nrP; split <;> omega
theorem ffI_ffB {d : Nat → Nat → Int} {n : Nat} {L : List Nat} (hb : Bd54 d n) (hL : ∀ i ∈ L, i < n) : ∀ m, m ≤ n → (ffB d L m = (0, -1) ∧ ffI d L m = 0 ∧ (m = 0 ∨ nrP d 0 L = 0)) ∨ ∃ b : Nat, b < m ∧ ffB d L m = (nrP d b L, (b : Int)) ∧ ffI d L m = b
  | 0, _ => .inl ⟨rfl, rfl, .inl rfl⟩
  | m + 1, hm => by
    rcases ffI_ffB hb hL m (by omega) with ⟨h1, h2, h3⟩ | ⟨b, h1, h2, h3⟩
    · simp only [ffB, ffI]
      rw [h1, h2]
      have hi := nrP_lt (d := d) (L := L) (v := m) (u := 0) hb hL (by omega) (by omega)
      by_cases e : m = 0
      · subst e
        have hs : ¬ ShW (wy d 0 L) (wy d 0 L) := fun hs => by have := hi.1 hs; omega
        by_cases hc : 0 < nrP d 0 L
        · rw [if_pos hc, if_neg hs]
          exact .inr ⟨0, by omega, rfl, rfl⟩
        · rw [if_neg hc, if_neg hs]
          have := nrP_ge (d := d) (v := 0) (L := L)
          exact .inl ⟨rfl, rfl, .inr (by omega)⟩
      · have h0 : nrP d 0 L = 0 := by omega
        rw [h0] at hi
        by_cases hc : 0 < nrP d m L
        · rw [if_pos hc, if_pos (hi.2 hc)]
          exact .inr ⟨m, by omega, rfl, rfl⟩
        · rw [if_neg hc, if_neg (fun h => hc (hi.1 h))]
          exact .inl ⟨rfl, rfl, .inr h0⟩
    · simp only [ffB, ffI]
      rw [h2, h3]
      have hi := nrP_lt (d := d) (L := L) (v := m) (u := b) hb hL (by omega) (by omega)
      by_cases hc : nrP d b L < nrP d m L
      · rw [if_pos hc, if_pos (hi.2 hc)]
        exact .inr ⟨m, by omega, rfl, rfl⟩
      · rw [if_neg hc, if_neg (fun h => hc (hi.1 h))]
        exact .inr ⟨b, by omega, rfl, rfl⟩
theorem ffI_max {d : Nat → Nat → Int} {n : Nat} {L : List Nat} (hb : Bd54 d n) (hL : ∀ i ∈ L, i < n) (hn : 1 ≤ n) : ∀ m, m ≤ n → ∀ v, v < m → nrP d v L ≤ nrP d (ffI d L m) L
  | 0, _, v, hv => by omega
  | m + 1, hm, v, hv => by
    have ih := ffI_max hb hL hn m (by omega)
    have hlt := ffI_lt d L hn m (by omega)
    by_cases hc : ShW (wy d (ffI d L m) L) (wy d m L)
    · rw [ffI_yes rfl hc]
      rw [nrP_lt hb hL (by omega) hlt] at hc
      by_cases e : v = m
      · subst e; exact Int.le_refl _
      · have := ih v (by omega); omega
    · rw [ffI_no rfl hc]
      rw [nrP_lt hb hL (by omega) hlt] at hc
      by_cases e : v = m
      · subst e; omega
      · exact ih v (by omega)
/-- How far the first one of the farthest is, is how far the farthest is. -/
theorem wy_far {d : Nat → Nat → Int} {n : Nat} {L : List Nat} (hb : Bd54 d n) (hL : ∀ i ∈ L, i < n) (hn : 1 ≤ n) : wy d (ffI d L n) L = radL d L n := by
  have hlt := ffI_lt d L hn n (Nat.le_refl _)
  have hmx := ffI_max hb hL hn n (Nat.le_refl _)
  have hw := wy_bd hb hL hlt
  rcases rad_cases d L n with ⟨h1, v, hv, h2⟩ | ⟨h1, h2, h3⟩
  · have h4 := hmx v hv
    have h5 : wy d v L < 0 := by
      rcases pkL_cases (d v) L with ⟨e1, _⟩ | ⟨e1, ⟨y, hy, e2⟩, _⟩
      · unfold wy; omega
      · have := h2 y hy; omega
    unfold nrP at h4
    rw [if_pos h5] at h4
    split at h4 <;> omega
  · have h4 := h2 _ hlt
    rcases h3 with h3 | ⟨v, hv, h3⟩
    · omega
    · have h5 := hmx v hv
      have h6 := h2 v hv
      unfold nrP at h5
      rw [if_neg (by omega), if_neg (by omega)] at h5
      omega

/-- The sets below S with m nodes. -/
def setsM (m S : Nat) : List Nat := (List.range S).filter fun s => decide (bc 7 s = m)
theorem setsM_iff {m S s : Nat} : s ∈ setsM m S ↔ s < S ∧ bc 7 s = m := by simp [setsM]
/-- The least one over all of these. -/
def nfS (d : Nat → Nat → Int) (n m S : Nat) : Int := pkL (fun s => radL d (memL s n) n) (setsM m S) (-1)
theorem nfS_zero (d : Nat → Nat → Int) (n m : Nat) : nfS d n m 0 = -1 := rfl
theorem setsM_succ (m S : Nat) : setsM m (S + 1) = setsM m S ++ (if bc 7 S = m then [S] else []) := by
  unfold setsM
  rw [List.range_succ, List.filter_append]
  congr 1
  by_cases h : bc 7 S = m <;> simp [h]
theorem nfS_skip {d : Nat → Nat → Int} {n m S : Nat} (h : ¬ bc 7 S = m) : nfS d n m (S + 1) = nfS d n m S := by
  unfold nfS; rw [setsM_succ, if_neg h, List.append_nil]
theorem nfS_low (d : Nat → Nat → Int) (n m S : Nat) : -1 ≤ nfS d n m S := by
  unfold nfS
  rcases pkL_cases (fun s => radL d (memL s n) n) (setsM m S) with ⟨h, _⟩ | ⟨h, _⟩ <;> omega
theorem rad_bd {d : Nat → Nat → Int} {n : Nat} {L : List Nat} (hb : Bd54 d n) (hL : ∀ i ∈ L, i < n) (hn : 1 ≤ n) : -1 ≤ radL d L n ∧ radL d L n ≤ 54 := by
  rw [← wy_far hb hL hn]
  exact wy_bd hb hL (ffI_lt d L hn n (Nat.le_refl _))
theorem memL_lt {s n : Nat} : ∀ i ∈ memL s n, i < n := fun i hi => (memL_iff.1 hi).1
theorem nfS_take {d : Nat → Nat → Int} {n m S : Nat} {x acc : Int} (h : bc 7 S = m) (ha : nfS d n m S = acc) (hx : radL d (memL S n) n = x) (h1 : -1 ≤ x) : nfS d n m (S + 1) = if ShW x acc then x else acc := by
  have h2 := nfS_low d n m S
  rw [ha] at h2
  unfold nfS at ha ⊢
  rw [setsM_succ, if_pos h, pkL_append, ha]
  simp only [pkL]
  rw [hx]
  by_cases hc : 0 ≤ x ∧ (acc < 0 ∨ x < acc)
  · have hs : ShW x acc := ⟨by omega, by omega⟩
    rw [if_pos hc, if_pos hs]
  · have hs : ¬ ShW x acc := fun hs => by
      have e1 := hs.1
      have e2 := hs.2
      omega
    rw [if_neg hc, if_neg hs]
theorem nfS_high {d : Nat → Nat → Int} {n m S : Nat} (hb : Bd54 d n) (hn : 1 ≤ n) : nfS d n m S ≤ 54 := by
  unfold nfS
  rcases pkL_cases (fun s => radL d (memL s n) n) (setsM m S) with ⟨h, _⟩ | ⟨_, ⟨s, hs, h2⟩, _⟩
  · omega
  · have := rad_bd (d := d) (L := memL s n) hb memL_lt hn
    omega
theorem nfS_is {d : Nat → Nat → Int} {n m : Nat} (h7 : n ≤ 7) : NfIs d n m (nfS d n m (2 ^ n)) := by
  have hJ : ∀ J, Asc n m J → ∃ s, s ∈ setsM m (2 ^ n) ∧ radL d (memL s n) n = radL d J n := fun J h =>
    ⟨stO J, setsM_iff.2 ⟨stO_lt h.2.1, by rw [stO_nodup h7 h.2.1 (h.1.imp fun hlt e => by omega), h.2.2]⟩, radL_mem (memL_stO h.2.1) n⟩
  unfold nfS
  rcases pkL_cases (fun s => radL d (memL s n) n) (setsM m (2 ^ n)) with ⟨h1, h2⟩ | ⟨h1, ⟨s, hs, h2⟩, h3⟩
  · refine .inl ⟨h1, fun J h => ?_⟩
    obtain ⟨s, hs, e⟩ := hJ J h
    rw [← e]; exact h2 s hs
  · obtain ⟨hs1, hs2⟩ := setsM_iff.1 hs
    refine .inr ⟨h1, ⟨memL s n, ⟨memL_asc _ _, memL_lt, by rw [memL_len h7 hs1, hs2]⟩, h2⟩, fun J h h0 => ?_⟩
    obtain ⟨t, ht, e⟩ := hJ J h
    rw [← e] at h0 ⊢
    exact h3 t ht h0

/-- A set is fine just if the nodes near its nodes are apart; no way may be -1. -/
theorem fine_iffR {d : Nat → Nat → Int} {far : Int} {n s : Nat} {N : Nat → Nat} (hs : s < 2 ^ n) (hN : ∀ i, i < n → ∀ v, (N i).testBit v = true ↔ v < n ∧ 0 ≤ d v i ∧ d v i ≤ far) :
    fnB d far s n n = true ↔ FineN N s 0 0 := by
  have hlt : ∀ i, s.testBit i = true → i < n := fun i hi => bit_ltn hs hi
  rw [fnB_iff]
  constructor
  · intro h
    refine ⟨fun i _ _ v ⟨_, h2⟩ => by simp at h2, fun i j _ hij h1 h2 v ⟨h3, h4⟩ => ?_⟩
    obtain ⟨hv, h5⟩ := (hN i (hlt i h1) v).1 h3
    obtain ⟨_, h6⟩ := (hN j (hlt j h2) v).1 h4
    have := h v hv
    have := nrB_two (d := d) (far := far) (v := v) ⟨h1, h5⟩ ⟨h2, h6⟩ hij (m := n) (hlt j h2)
    omega
  · rintro ⟨_, h⟩ v hv
    refine nrB_one fun i k hik hk ⟨h1, h3⟩ ⟨h4, h6⟩ => ?_
    exact h i k (by omega) hik h1 h4 v ⟨(hN i (by omega) v).2 ⟨hv, h3⟩, (hN k hk v).2 ⟨hv, h6⟩⟩
theorem mw_pkR {d : Nat → Nat → Int} {far : Int} {n : Nat} {N : Nat → Nat} (h7 : n ≤ 7) (hN : ∀ i, i < n → ∀ v, (N i).testBit v = true ↔ v < n ∧ 0 ≤ d v i ∧ d v i ≤ far) : mw N n 0 0 = pkB d far n (2 ^ n) := by
  apply Nat.le_antisymm
  · obtain ⟨s, h1, _, h2, h3⟩ := mw_at N h7 n 0 0 (by omega)
    rw [← h3]
    exact le_pkB h1 ((fine_iffR h1 hN).2 h2)
  · refine pkB_le _ fun s hs hf => ?_
    rw [← cn_bc h7 hs]
    exact mw_ge N s n 0 0 ((fine_iffR hs hN).1 hf)
/-- Each node's near ones meet the set just if the set covers. -/
theorem cover_iff {d : Nat → Nat → Int} {far : Int} {n s : Nat} {N : Nat → Nat} (hN : ∀ i, i < n → ∀ v, (N i).testBit v = true ↔ v < n ∧ 0 ≤ d i v ∧ d i v ≤ far) : cvF d far s n n = true ↔ ∀ v, v < n → ¬ N v &&& s = 0 := by
  rw [cvF_iff]
  constructor
  · intro h v hv he
    obtain ⟨i, hi, hb, hn⟩ := h v hv
    exact dj_and.1 he i ⟨(hN v hv i).2 ⟨hi, hn⟩, hb⟩
  · intro h v hv
    by_cases hc : ∃ i, i < n ∧ s.testBit i = true ∧ Nr d far v i
    · exact hc
    · exfalso
      refine h v hv (dj_and.2 fun i ⟨h1, h2⟩ => hc ?_)
      obtain ⟨h3, h4⟩ := (hN v hv i).1 h1
      exact ⟨i, h3, h2, h4⟩
end Go.Proofs.Ytkgomgfhhhdnjab
namespace Go.Proofs.Ytkgomgfhhhdnjab
open Go.ChangeShapes Go.WideShapes Go.ChangeAt Go.RowKit
set_option linter.unusedVariables false
set_option maxRecDepth 4000

theorem isSh_any (x y : Int) (w : World) : Calls Try.prog 92 #[.int .i64 x, .int .i64 y] w fun e w' => e = .returned (.bool (decide (ShW x y))) ∧ w = w' := by
  by_cases hx : x = -1
  · subst hx
    have hs : decide (ShW (-1) y) = false := decide_eq_false (fun h => h.1 rfl)
    rw [hs]
    have h1 : ((-1 : Int) != -1) = false := rfl
    go_enter Try.func92, Try.ntmps92
    go_wp2
    go_ret
    exact ⟨rfl, rfl⟩
  · have h1 : (x != -1) = true := by rw [bne_iff_ne]; exact hx
    by_cases hy : y = -1
    · subst hy
      have hs : decide (ShW x (-1)) = true := decide_eq_true ⟨hx, .inl rfl⟩
      rw [hs]
      have h2 : ((-1 : Int) == -1) = true := rfl
      go_enter Try.func92, Try.ntmps92
      go_wp2
      go_ret
      exact ⟨rfl, rfl⟩
    · have h2 : (y == -1) = false := by rw [beq_eq_false_iff_ne]; exact hy
      have hs : decide (ShW x y) = decide (x < y) := by
        unfold ShW
        by_cases h : x < y <;> simp [h, hx, hy]
      rw [hs]
      by_cases h : x < y
      all_goals
        go_enter Try.func92, Try.ntmps92
        go_wp2
        go_ret
        exact ⟨ret_bool (by simp [h]), rfl⟩
theorem isSh_yes (x y : Int) (w : World) (h : ShW x y) : Calls Try.prog 92 #[.int .i64 x, .int .i64 y] w fun e w' => e = .returned (.bool true) ∧ w = w' :=
  (isSh_any x y w).mono fun _ _ ⟨he, hw⟩ => ⟨by rw [he, decide_eq_true h], hw⟩
theorem isSh_no (x y : Int) (w : World) (h : ¬ ShW x y) : Calls Try.prog 92 #[.int .i64 x, .int .i64 y] w fun e w' => e = .returned (.bool false) ∧ w = w' :=
  (isSh_any x y w).mono fun _ _ ⟨he, hw⟩ => ⟨by rw [he, decide_eq_false h], hw⟩
/-- Two ways, one behind the other; -1 if there is none. -/
def jn (x y : Int) : Int := if x = -1 ∨ y = -1 then -1 else x + y
theorem joined_any (x y : Int) (w : World) (hx : -1 ≤ x ∧ x ≤ 100000) (hy : -1 ≤ y ∧ y ≤ 100000) : Calls Try.prog 107 #[.int .i64 x, .int .i64 y] w fun e w' => e = .returned (.int .i64 (jn x y)) ∧ w = w' := by
  by_cases h1 : x = -1
  · subst h1
    have hs : jn (-1) y = -1 := if_pos (.inl rfl)
    rw [hs]
    have h1 : ((-1 : Int) == -1) = true := rfl
    go_enter Try.func107, Try.ntmps107
    go_wp2
    go_ret
    exact ⟨rfl, rfl⟩
  · have b1 : (x == -1) = false := by rw [beq_eq_false_iff_ne]; exact h1
    by_cases h2 : y = -1
    · subst h2
      have hs : jn x (-1) = -1 := if_pos (.inr rfl)
      rw [hs]
      have h2 : ((-1 : Int) == -1) = true := rfl
      go_enter Try.func107, Try.ntmps107
      go_wp2
      go_ret
      exact ⟨rfl, rfl⟩
    · have b2 : (y == -1) = false := by rw [beq_eq_false_iff_ne]; exact h2
      have hs : jn x y = x + y := if_neg (by omega)
      rw [hs]
      go_enter Try.func107, Try.ntmps107
      go_wp2
      go_ret
      exact ⟨ret_int (by first | rfl | (rw [IntWalk.i64_in _ (by omega)])), rfl⟩
theorem joined_is (x y : Int) {z : Int} (w : World) (hx : -1 ≤ x ∧ x ≤ 100000) (hy : -1 ≤ y ∧ y ≤ 100000) (h : jn x y = z) : Calls Try.prog 107 #[.int .i64 x, .int .i64 y] w fun e w' => e = .returned (.int .i64 z) ∧ w = w' := by
  subst h; exact joined_any x y w hx hy
theorem validNode_any (n x : Int) (w : World) : Calls Try.prog 96 #[.int .i64 n, .int .i64 x] w fun e w' => e = .returned (.bool (decide (0 ≤ x) && decide (x < n))) ∧ w = w' := by
  by_cases h1 : 0 ≤ x
  · by_cases h2 : x < n
    all_goals
      go_enter Try.func96, Try.ntmps96
      go_wp2
      go_ret
      exact ⟨ret_bool (by simp [h1, h2]), rfl⟩
  · have h3 : decide (x ≥ 0) = false := decide_eq_false h1
    go_enter Try.func96, Try.ntmps96
    go_wp2
    go_ret
    exact ⟨ret_bool (by simp), rfl⟩
theorem validNode_is (n x : Int) (w : World) {b : Bool} (h : (decide (0 ≤ x) && decide (x < n)) = b) : Calls Try.prog 96 #[.int .i64 n, .int .i64 x] w fun e w' => e = .returned (.bool b) ∧ w = w' := by
  subst h; exact validNode_any n x w
/-- A row's way, made shorter. -/
theorem shorten_yes (gr n cr e : Nat) (x q : Int) (w : World) (he : e < n) (hc : w.cell? ⟨gr, e, none⟩ = some (.int .i64 q)) (hf : w.frozen? ⟨gr, e, none⟩ = false) (h : ShW x q) :
    Calls Try.prog 106 #[.slice (some ⟨gr, 0, none⟩) n cr, .int .i64 e, .int .i64 x] w fun r w' => r = .returned (.bool true) ∧ ∃ k, w' = (w.setCell ⟨gr, e, none⟩ (.int .i64 x)).drewN k := by
  have H := Lib.hid (fun W => isSh_yes x q W h)
  clear h
  go_enter Try.func106, Try.ntmps106
  go_wp2_with fail
  refine (H.out _).mono ?_
  rintro r w' ⟨rfl, rfl⟩
  go_wp2
  go_ret
  exact ⟨rfl, 0, rfl⟩
theorem shorten_no (gr n cr e : Nat) (x q : Int) (w : World) (he : e < n) (hc : w.cell? ⟨gr, e, none⟩ = some (.int .i64 q)) (h : ¬ ShW x q) :
    Calls Try.prog 106 #[.slice (some ⟨gr, 0, none⟩) n cr, .int .i64 e, .int .i64 x] w fun r w' => r = .returned (.bool false) ∧ ∃ k, w' = w.drewN k := by
  have H := Lib.hid (fun W => isSh_no x q W h)
  clear h
  go_enter Try.func106, Try.ntmps106
  go_wp2_with fail
  refine (H.out _).mono ?_
  rintro r w' ⟨rfl, rfl⟩
  go_wp2
  go_ret
  exact ⟨rfl, 0, rfl⟩
end Go.Proofs.Ytkgomgfhhhdnjab
namespace Go.Proofs.Ytkgomgfhhhdnjab
open Go.ChangeShapes Go.WideShapes Go.ChangeAt Go.RowKit
set_option linter.unusedVariables false
set_option maxRecDepth 4000

theorem jn_no {x L : Int} (h : x = -1) : jn x L = -1 := if_pos (.inl h)
theorem jn_yes {x L : Int} (h : 0 ≤ x) (hL : 0 ≤ L) : jn x L = x + L := if_neg (by omega)
theorem sh_cz {X : Nat → Nat → Int} {a u v : Nat} {L : Int} (hu : -1 ≤ X a u) (hv : -1 ≤ X a v) (hL : 1 ≤ L) (h : ¬ ShW (jn (X a u) L) (X a v)) : Cz X a u v L := by
  intro h0
  rw [jn_yes h0 (by omega)] at h
  unfold ShW at h
  omega
theorem sh_up {X : Nat → Nat → Int} {a u v : Nat} {L : Int} (hu : -1 ≤ X a u) (hv : -1 ≤ X a v) (hL : 1 ≤ L) (h : ShW (jn (X a u) L) (X a v)) : 0 ≤ X a u ∧ (X a v < 0 ∨ X a u + L < X a v) ∧ jn (X a u) L = X a u + L := by
  by_cases e : X a u = -1
  · rw [jn_no e] at h; exact absurd rfl h.1
  · rw [jn_yes (by omega) (by omega)] at h ⊢
    unfold ShW at h
    omega
/-- Nothing but ints change. -/
def KeepI (w w' : World) : Prop := ∀ (b : Nat) (cs : Array Value) (ty : TypeId) (z : Nat × Nat), ty ≠ 3 → w.heap[b]? = some (.cells cs ty z) → w'.heap[b]? = some (.cells cs ty z)
theorem KeepI.refl (w : World) : KeepI w w := fun _ _ _ _ _ h => h
theorem KeepI.trans {w w1 w2 : World} (h : KeepI w w1) (k : KeepI w1 w2) : KeepI w w2 := fun b cs ty z hne he => k b cs ty z hne (h b cs ty z hne he)
theorem KeepI.drewN {w w1 : World} (h : KeepI w w1) (n : Nat) : KeepI w (w1.drewN n) := h
theorem KeepI.set {w w1 : World} {g b : Nat} {cs : Array Value} {z : Nat × Nat} (h : KeepI w w1) (hg : w1.heap[g]? = some (.cells cs 3 z)) (u : Value) : KeepI w (w1.setCell ⟨g, b, none⟩ u) := fun i cs' ty z' hne he => by
  have h1 := h i cs' ty z' hne he
  have hgi : g ≠ i := types_apart hg h1 (fun e => hne e.symm)
  exact (Below.heap_setCell w1 _ _ i (fun e => hgi e.symm)).trans h1
theorem KeepI.alloc {w w1 : World} (h : KeepI w w1) (o : Obj) : KeepI w (w1.alloc o) := fun i cs' ty z' hne he => by
  have h1 := h i cs' ty z' hne he
  have hlt : i < w1.heap.size := by
    rcases Nat.lt_or_ge i w1.heap.size with h2 | h2
    · exact h2
    · rw [Array.getElem?_eq_none h2] at h1; cases h1
  exact (heap_alloc_old w1 _ hlt).trans h1
/-- What a step at a table's entries leaves: the table, shorter or as it was. -/
def StepT (w : World) (B n g c : Nat) (VR : Nat → Value) (ss : List Str) (X : Nat → Nat → Int) (C : Prop) (e : Ending) (w' : World) : Prop :=
  ∃ X' t, e = .returned (.bool t) ∧ Rlx ss n X' ∧ Chg X X' n t C ∧ Outer w' B n (.slice (some ⟨g, 0, none⟩) n c) VR ∧ TT w' B n VR (rowX X' n) ∧ Below B w w' ∧ KeepI w w'
theorem shortenT_any (w : World) (B n g c a u v gr cr : Nat) (VR : Nat → Value) (ss : List Str) (X : Nat → Nat → Int) (L : Int) (hn7 : n ≤ 7) (hX : Rlx ss n X) (hO : Outer w B n (.slice (some ⟨g, 0, none⟩) n c) VR) (hT : TT w B n VR (rowX X n))
    (hv : VR a = .slice (some ⟨gr, 0, none⟩) n cr) (ha : a < n) (hu : u < n) (hvn : v < n) (hL : 1 ≤ L ∧ L ≤ 9) (he : SE ss u v L) :
    Calls Try.prog 106 #[.slice (some ⟨gr, 0, none⟩) n cr, .int .i64 v, .int .i64 (jn (X a u) L)] w (StepT w B n g c VR ss X (Cz X a u v L)) := by
  have hb1 := hX.le hn7 ha hu
  have hb2 := hX.le hn7 ha hvn
  obtain ⟨gr', cr', e1, -, cc, ff⟩ := tab_cells hO hT ha hvn
  have e2 := hv.symm.trans e1
  injection e2 with e3 e4 e5
  injection e3 with e3
  injection e3 with e3
  subst e3 e5
  by_cases h : ShW (jn (X a u) L) (X a v)
  · obtain ⟨h1, h2, h3⟩ := sh_up (by omega) (by omega) hL.1 h
    refine (shorten_yes gr n cr v _ _ w hvn cc ff h).mono ?_
    rintro e w' ⟨rfl, k, rfl⟩
    rw [h3]
    obtain ⟨o2, t2, hgB⟩ := tab_set (X a u + L) hO hT ha hvn hv
    refine ⟨_, true, rfl, rlx_step hX ha hu hvn he hL h1 h2, .inl ⟨rfl, totX_step ha hvn (by omega) (by omega)⟩, o2.drewN k, t2.drewN k, below_drewN ((Below.refl B w).setCell (p := ⟨gr, v, none⟩) hgB _) k, ?_⟩
    have h5 := hT.own a ha
    rw [hv, rowX_len] at h5
    obtain ⟨⟨cs, hcs⟩, -, -⟩ := own_heap h5 (g := gr) rfl
    exact ((KeepI.refl w).set hcs _).drewN k
  · refine (shorten_no gr n cr v _ _ w hvn cc h).mono ?_
    rintro e w' ⟨rfl, k, rfl⟩
    exact ⟨X, false, rfl, hX, .inr ⟨rfl, rfl, sh_cz (by omega) (by omega) hL.1 h⟩, hO.drewN k, hT.drewN k, below_drewN (Below.refl B w) k, (KeepI.refl w).drewN k⟩
theorem Chg.two {X0 X Y : Nat → Nat → Int} {n : Nat} {b t : Bool} {C D E : Prop} (h : Chg X0 X n b C) (k : Chg X Y n t D) (hE : X0 = X → X = Y → C → D → E) : Chg X0 Y n (b || t) E := by
  rcases h with ⟨rfl, h1⟩ | ⟨rfl, h1, h2⟩ <;> rcases k with ⟨rfl, k1⟩ | ⟨rfl, k1, k2⟩
  · exact .inl ⟨rfl, by omega⟩
  · subst k1; exact .inl ⟨rfl, h1⟩
  · subst h1; exact .inl ⟨rfl, k1⟩
  · exact .inr ⟨rfl, k1.trans h1, hE h1.symm k1.symm h2 k2⟩
end Go.Proofs.Ytkgomgfhhhdnjab
namespace Go.Proofs.Ytkgomgfhhhdnjab
open Go.ChangeShapes Go.WideShapes Go.ChangeAt Go.RowKit
set_option linter.unusedVariables false
set_option maxRecDepth 4000

set_option maxHeartbeats 1600000 in
theorem addStreet_any (w : World) (B n g c u v : Nat) (VR : Nat → Value) (ss : List Str) (X0 : Nat → Nat → Int) (L : Int) (hn7 : n ≤ 7) (hX : Rlx ss n X0) (hO : Outer w B n (.slice (some ⟨g, 0, none⟩) n c) VR) (hT : TT w B n VR (rowX X0 n))
    (hBw : B ≤ w.heap.size) (hu : u < n) (hv : v < n) (hL : 1 ≤ L ∧ L ≤ 9) (he : SE ss u v L) :
    Calls Try.prog 64 #[.slice (some ⟨g, 0, none⟩) n c, .agg #[.int .i64 u, .int .i64 v, .int .i64 L]] w (StepT w B n g c VR ss X0 (∀ a, a < n → Cz X0 a u v L ∧ Cz X0 a v u L)) := by
  have HX := Lib.hid hX
  have HO := Lib.hid hO
  have HT := Lib.hid hT
  have He := Lib.hid he
  have hb0 := (Below.refl B w).alloc hBw (.cells #[.int .i64 u, .int .i64 v, .int .i64 L] 74)
  have hbs := (Below.refl w.heap.size w).alloc (Nat.le_refl _) (.cells #[.int .i64 u, .int .i64 v, .int .i64 L] 74)
  have hcs : (w.alloc (.cells #[.int .i64 u, .int .i64 v, .int .i64 L] 74)).heap[w.heap.size]? = some (.cells #[.int .i64 u, .int .i64 v, .int .i64 L] 74) := heap_alloc_new w _
  have hk0 := (KeepI.refl w).alloc (.cells #[.int .i64 u, .int .i64 v, .int .i64 L] 74)
  have HO0 := Lib.hid (ownN_below hO hbs)
  have HT0 := Lib.hid (hT.below hbs)
  have HB0 := Lib.hid hb0
  have HK0 := Lib.hid hk0
  have HS0 := Lib.hid hcs
  clear hX hO hT he hb0 hbs hcs hk0
  go_enter Try.func64, Try.ntmps64
  go_wp2
  go_loopw [5, 12] (fun b i wr => ∃ a : Nat, ∃ X t, a ≤ n ∧ i = .int .i64 a ∧ b = .bool t ∧ Hid (Rlx ss n X) ∧ Hid (Chg X0 X n t (∀ k, k < a → Cz X0 k u v L ∧ Cz X0 k v u L)) ∧ Hid (Outer wr B n (.slice (some ⟨g, 0, none⟩) n c) VR) ∧ Hid (TT wr B n VR (rowX X n)) ∧ Hid (Below B w wr) ∧ Hid (KeepI w wr) ∧ Hid (wr.heap[w.heap.size]? = some (.cells #[.int .i64 u, .int .i64 v, .int .i64 L] 74))) (fun _ i _ => n - (intOf i).toNat)
  case atStart => exact ⟨0, X0, false, by omega, rfl, rfl, HX, .inr ⟨rfl, rfl, fun k hk => by omega⟩, HO0, HT0, HB0, HK0, HS0⟩
  case round =>
    clear HO0 HT0 HB0 HK0 HS0
    obtain ⟨a, X, t, ha, rfl, rfl, HX1, HC1, HO1, HT1, HB1, HK1, HS1⟩ := hrel
    by_cases hlt : a < n
    · obtain ⟨gr, cr, hVR, cg, cu, -⟩ := tab_cells HO1.out HT1.out hlt hu
      obtain ⟨gr', cr', hVR', -, cv, -⟩ := tab_cells HO1.out HT1.out hlt hv
      have hsame := hVR.symm.trans hVR'
      injection hsame with e1 e2 e3
      injection e1 with e1
      injection e1 with e1
      subst e1 e3
      have s0 : wr.cell? ⟨w.heap.size, 0, none⟩ = some (.int .i64 u) := by rw [cell_of_row _ _ _ _ _ _ HS1.out]; rfl
      have s1 : wr.cell? ⟨w.heap.size, 1, none⟩ = some (.int .i64 v) := by rw [cell_of_row _ _ _ _ _ _ HS1.out]; rfl
      have s2 : wr.cell? ⟨w.heap.size, 2, none⟩ = some (.int .i64 L) := by rw [cell_of_row _ _ _ _ _ _ HS1.out]; rfl
      have hbu := HX1.out.le hn7 hlt hu
      obtain ⟨xu, Hxu⟩ : ∃ x, Hid (X a u = x) := ⟨_, rfl⟩
      rw [Hxu.out] at cu hbu
      have Hj : Hid (∀ W, Calls Try.prog 107 #[.int .i64 xu, .int .i64 L] W fun e w' => e = .returned (.int .i64 (jn xu L)) ∧ w' = W) := fun W => (joined_any xu L W (by omega) (by omega)).mono fun _ _ ⟨h1, h2⟩ => ⟨h1, h2.symm⟩
      go_wp2
      refine wp_region_still_tail 11 (by kernel_rfl) (by kernel_rfl) ?_
      simp only [List.take_succ_cons, List.take_zero, List.drop_succ_cons, List.drop_zero]
      obtain ⟨wd, HWD⟩ : ∃ W, Hid (wr.drewN 1 = W) := ⟨_, rfl⟩
      have HO2 := Lib.hid (HO1.out.drewN 1)
      have HT2 := Lib.hid (HT1.out.drewN 1)
      have HB2 := Lib.hid (below_drewN HB1.out 1)
      have HK2 := Lib.hid (HK1.out.drewN 1)
      have HS2 : Hid ((wr.drewN 1).heap[w.heap.size]? = some (.cells #[.int .i64 u, .int .i64 v, .int .i64 L] 74)) := HS1.out
      have cu2 : (wr.drewN 1).cell? ⟨gr, u, none⟩ = some (.int .i64 xu) := cu
      have s02 : (wr.drewN 1).cell? ⟨w.heap.size, 0, none⟩ = some (.int .i64 u) := s0
      have s12 : (wr.drewN 1).cell? ⟨w.heap.size, 1, none⟩ = some (.int .i64 v) := s1
      have s22 : (wr.drewN 1).cell? ⟨w.heap.size, 2, none⟩ = some (.int .i64 L) := s2
      clear cu s0 s1 s2 cv cg
      show wpStill Try.prog _ (wr.drewN 1) (fun a' => wpList Try.prog _ _ _ a' (wr.drewN 1)) _ _
      rw [HWD.out] at HO2 HT2 HB2 HK2 HS2 cu2 s02 s12 s22 ⊢
      repeat still_step
      still_call (Hj.out wd)
      repeat still_step
      try refine wpStill_nil ?_
      have Hsh := Lib.hid (shortenT_any wd B n g c a u v gr cr VR ss X L hn7 HX1.out HO2.out HT2.out hVR hlt hu hv hL He.out)
      rw [Hxu.out] at Hsh
      clear cu2 s02 s12 s22 Hxu Hj hbu
      go_wp2_with fail
      refine Hsh.out.mono ?_
      rintro e w2 ⟨X1, t1, rfl, hX1, hC1, hO1, hT1, hB1, hK1⟩
      have hS3 := hK1 _ _ _ _ (by decide) HS2.out
      have s0 : w2.cell? ⟨w.heap.size, 0, none⟩ = some (.int .i64 u) := by rw [cell_of_row _ _ _ _ _ _ hS3]; rfl
      have s1 : w2.cell? ⟨w.heap.size, 1, none⟩ = some (.int .i64 v) := by rw [cell_of_row _ _ _ _ _ _ hS3]; rfl
      have s2 : w2.cell? ⟨w.heap.size, 2, none⟩ = some (.int .i64 L) := by rw [cell_of_row _ _ _ _ _ _ hS3]; rfl
      obtain ⟨gr', cr', hVR', -, cv, -⟩ := tab_cells hO1 hT1 hlt hv
      have hsame := hVR.symm.trans hVR'
      injection hsame with e1 e2 e3
      injection e1 with e1
      injection e1 with e1
      subst e1 e3
      have hbu := hX1.le hn7 hlt hv
      obtain ⟨xv, Hxv⟩ : ∃ x, Hid (X1 a v = x) := ⟨_, rfl⟩
      rw [Hxv.out] at cv hbu
      have Hj : Hid (∀ W, Calls Try.prog 107 #[.int .i64 xv, .int .i64 L] W fun e w' => e = .returned (.int .i64 (jn xv L)) ∧ w' = W) := fun W => (joined_any xv L W (by omega) (by omega)).mono fun _ _ ⟨h1, h2⟩ => ⟨h1, h2.symm⟩
      have HX4 := Lib.hid hX1
      have HC4 := Lib.hid (HC1.out.two hC1 (E := ∀ k, k < a + 1 → (k < a → Cz X0 k v u L) ∧ Cz X0 k u v L) (fun h1 h2 h3 h4 k hk => by
        by_cases e : k = a
        · subst e; exact ⟨fun h => by omega, by rw [h1]; exact h4⟩
        · exact ⟨fun _ => (h3 k (by omega)).2, (h3 k (by omega)).1⟩))
      have HO5 := Lib.hid (hO1.drewN 1)
      have HT5 := Lib.hid (hT1.drewN 1)
      have HB5 := Lib.hid (below_drewN (HB2.out.trans hB1) 1)
      have HK5 := Lib.hid ((HK2.out.trans hK1).drewN 1)
      have HS5 : Hid ((w2.drewN 1).heap[w.heap.size]? = some (.cells #[.int .i64 u, .int .i64 v, .int .i64 L] 74)) := hS3
      clear hX1 hC1 hO1 hT1 hB1 hK1 hS3 HC1 HO1 HT1 HB1 HK1 HS1 HO2 HT2 HB2 HK2 HS2 HX1
      go_wp2
      refine wp_region_still_tail 11 (by kernel_rfl) (by kernel_rfl) ?_
      simp only [List.take_succ_cons, List.take_zero, List.drop_succ_cons, List.drop_zero]
      obtain ⟨wz, HWZ⟩ : ∃ W, Hid (w2.drewN 1 = W) := ⟨_, rfl⟩
      have cv2 : (w2.drewN 1).cell? ⟨gr, v, none⟩ = some (.int .i64 xv) := cv
      have s02 : (w2.drewN 1).cell? ⟨w.heap.size, 0, none⟩ = some (.int .i64 u) := s0
      have s12 : (w2.drewN 1).cell? ⟨w.heap.size, 1, none⟩ = some (.int .i64 v) := s1
      have s22 : (w2.drewN 1).cell? ⟨w.heap.size, 2, none⟩ = some (.int .i64 L) := s2
      clear cv s0 s1 s2
      show wpStill Try.prog _ (w2.drewN 1) (fun a' => wpList Try.prog _ _ _ a' (w2.drewN 1)) _ _
      rw [HWZ.out] at HO5 HT5 HB5 HK5 HS5 cv2 s02 s12 s22 ⊢
      repeat still_step
      still_call (Hj.out wz)
      repeat still_step
      try refine wpStill_nil ?_
      have Hsh2 := Lib.hid (shortenT_any wz B n g c a v u gr cr VR ss X1 L hn7 HX4.out HO5.out HT5.out hVR hlt hv hu hL He.out.symm)
      rw [Hxv.out] at Hsh2
      clear cv2 s02 s12 s22 Hxv Hj hbu
      go_wp2_with fail
      refine Hsh2.out.mono ?_
      rintro e w3 ⟨X2, t2, rfl, hX2, hC2, hO2, hT2, hB2, hK2⟩
      have HC6 := Lib.hid (HC4.out.two hC2 (E := ∀ k, k < a + 1 → Cz X0 k u v L ∧ Cz X0 k v u L) (fun h1 h2 h3 h4 k hk => by
        by_cases e : k = a
        · subst e; exact ⟨(h3 k hk).2, by rw [h1]; exact h4⟩
        · exact ⟨(h3 k hk).2, (h3 k hk).1 (by omega)⟩))
      have HX6 := Lib.hid hX2
      have HO6 := Lib.hid hO2
      have HT6 := Lib.hid hT2
      have HB6 := Lib.hid (HB5.out.trans hB2)
      have HK6 := Lib.hid (HK5.out.trans hK2)
      have HS6 := Lib.hid (hK2 _ _ _ _ (by decide) HS5.out)
      clear hX2 hC2 hO2 hT2 hB2 hK2 HC4 HO5 HT5 HB5 HK5 HS5 HX4
      cases t <;> cases t1 <;> cases t2
      all_goals
        go_wp2
        go_roundw
        case rel => exact ⟨a + 1, X2, _, by omega, by go_num, rfl, HX6, HC6, HO6, HT6, HB6, HK6, HS6⟩
        case measure => simp [intOf]; omega
    · go_wp2
      go_ret
      exact ⟨X, t, rfl, HX1.out, HC1.out.imp fun h k hk => h k (by omega), HO1.out, HT1.out, HB1.out, HK1.out⟩
end Go.Proofs.Ytkgomgfhhhdnjab
namespace Go.Proofs.Ytkgomgfhhhdnjab
open Go.ChangeShapes Go.WideShapes Go.ChangeAt Go.RowKit
set_option linter.unusedVariables false
set_option maxRecDepth 4000

def half (VR : Nat → Value) (k n : Nat) : List Value := (List.range n).map fun j => if j < k then VR j else .slice none 0 0
theorem half_get {VR : Nat → Value} {k n : Nat} {v : Value} (h : k < n) : (half VR k n).set k v = half (upd VR k v) (k + 1) n := by
  unfold half
  apply List.ext_getElem?
  intro i
  rw [List.getElem?_set]
  by_cases hi : i < n
  · by_cases e : k = i
    · subst e; simp [hi, upd_at]
    · by_cases hik : i < k
      · simp [hi, e, hik, upd_other VR v (fun h => e h.symm), show i < k + 1 by omega]
      · simp [hi, e, hik, show ¬ i < k + 1 by omega]
  · simp [hi]; omega
theorem half_all (VR : Nat → Value) (n : Nat) : half VR n n = (List.range n).map VR := List.map_congr_left fun i hi => if_pos (List.mem_range.1 hi)
theorem half_none (n : Nat) : (madeCells (Value.slice none 0 0).cells n).toList = half (fun _ => .slice none 0 0) 0 n := by
  rw [show (Value.slice none 0 0).cells = #[Value.slice none 0 0] from rfl, toList_madeCells_one]
  unfold half
  apply List.ext_getElem?
  intro i
  by_cases hi : i < n <;> simp [hi]
theorem ownN_base {w : World} {B B' n : Nat} {v : Value} {xs : List Value} (h : w.ownsRow B 3 1 v n xs) (hB : B' ≤ B) : w.ownsRow B' 3 1 v n xs := by
  obtain ⟨h1, h2⟩ := h
  refine ⟨h1, ?_⟩
  rcases h2 with h2 | ⟨g, cap, cur, hv, hg, r⟩
  · exact .inl h2
  · exact .inr ⟨g, cap, cur, hv, Nat.le_trans hB hg, r⟩
theorem ownG_base {w : World} {B B' n s : Nat} {e : TypeId} {v : Value} {xs : List Value} (h : w.ownsRow B e s v n xs) (hB : B' ≤ B) : w.ownsRow B' e s v n xs := by
  obtain ⟨h1, h2⟩ := h
  refine ⟨h1, ?_⟩
  rcases h2 with h2 | ⟨g, cap, cur, hv, hg, r⟩
  · exact .inl h2
  · exact .inr ⟨g, cap, cur, hv, Nat.le_trans hB hg, r⟩
theorem TT.base {w : World} {B B' m : Nat} {VR : Nat → Value} {ls : Nat → List Int} (h : TT w B m VR ls) (hB : B' ≤ B) : TT w B' m VR ls :=
  ⟨fun j hj => ownG_base (h.own j hj) hB, h.dis⟩
/-- A row stored into the table. -/
theorem tabH_step {wr wC : World} {B n k g : Nat} {VR : Nat → Value} {ls : Nat → List Int} {v : Value} (hk : k < n) (hB : B ≤ wr.heap.size) (hT : TT wr B k VR ls) (hO : wr.ownsRow B 33 1 (.slice (some ⟨g, 0, none⟩) n n) n (half VR k n))
    (hb : Below wr.heap.size wr wC) (hrow : wC.ownsRow wr.heap.size 3 1 v (ls k).length ((ls k).map (Value.int .i64))) :
    (∃ x, wC.cell? ⟨g, k, none⟩ = some x) ∧ wC.frozen? ⟨g, k, none⟩ = false ∧ (wC.setCell ⟨g, k, none⟩ v).ownsRow B 33 1 (.slice (some ⟨g, 0, none⟩) n n) n (half (upd VR k v) (k + 1) n) ∧
      TT (wC.setCell ⟨g, k, none⟩ v) B (k + 1) (upd VR k v) ls ∧ B ≤ g := by
  have hOC := ownN_below hO hb
  have hTC := hT.below hb
  obtain ⟨x, hx⟩ := own_cell hOC (j := k) (by omega) (by simp [half])
  obtain ⟨⟨cs, hc⟩, hgB, _⟩ := own_heap hOC (g := g) rfl
  have hst := (hOC.stored k v).1
  rw [half_get hk] at hst
  have hrow2 : (wC.setCell ⟨g, k, none⟩ v).ownsRow B 3 1 v (ls k).length ((ls k).map (Value.int .i64)) := ownN_base (ownsRow_setCell_other hrow (fun e => by
    obtain ⟨⟨cs', hc'⟩, _⟩ := own_heap hrow e
    exact types_apart hc hc' (by decide) rfl) _) hB
  refine ⟨⟨x, hx⟩, hOC.frozenAt k, hst, ⟨fun j hj => ?_, fun i j g' hi hj h1 h2 => ?_⟩, hgB⟩
  · by_cases e : j = k
    · subst e
      rw [upd_at]
      exact hrow2
    · rw [upd_other _ _ e]
      exact (hTC.store (g := g) (k := k) (v := v) hc (by decide)).own j (by omega)
  · have hlt : ∀ {i}, i < k → (VR i).ownBlock = some g' → g' < wr.heap.size := fun hi e => (own_heap (hT.own _ hi) e).2.2
    by_cases e1 : i = k <;> by_cases e2 : j = k
    · omega
    · rw [e1, upd_at] at h1; rw [upd_other _ _ e2] at h2
      have := (own_heap hrow h1).2.1
      have := hlt (by omega) h2; omega
    · rw [e2, upd_at] at h2; rw [upd_other _ _ e1] at h1
      have := (own_heap hrow h2).2.1
      have := hlt (by omega) h1; omega
    · rw [upd_other _ _ e1] at h1; rw [upd_other _ _ e2] at h2
      exact hT.dis i j g' (by omega) (by omega) h1 h2
/-- A row's element changed. -/
theorem TT.setAt {w : World} {B m R c n j : Nat} {VR : Nat → Value} {ls : Nat → List Int} (hT : TT w B m VR ls) (hj : j < m) (hl : (ls j).length = n) (he : VR j = .slice (some ⟨R, 0, none⟩) n c) (b : Nat) (x : Int) :
    TT (w.setCell ⟨R, b, none⟩ (.int .i64 x)) B m VR (upd ls j ((ls j).set b x)) ∧ B ≤ R := by
  have h1 := hT.own j hj
  rw [he, hl] at h1
  obtain ⟨⟨cs, hcs⟩, hB, -⟩ := own_heap h1 (g := R) rfl
  refine ⟨⟨fun i hi => ?_, hT.dis⟩, hB⟩
  by_cases e : i = j
  · subst e
    have h2 := (World.ownsRow.stored h1 b (.int .i64 x)).1
    rw [upd_at, he, List.length_set, hl]
    rw [← List.map_set] at h2
    exact h2
  · rw [upd_other _ _ e]
    exact ownsRow_setCell_other (hT.own i hi) (fun e' => e (hT.dis i j R hi hj e' (by rw [he]; rfl))) _
/-- The table itself is not touched by that. -/
theorem outer_setInt {w : World} {B n R b : Nat} {v : Value} {xs : List Value} {u : Value} (hO : w.ownsRow B 33 1 v n xs) {cs : Array Value} {z : Nat × Nat} (hR : w.heap[R]? = some (.cells cs 3 z)) : (w.setCell ⟨R, b, none⟩ u).ownsRow B 33 1 v n xs :=
  ownsRow_setCell_other hO (fun e => by
    obtain ⟨⟨cs', hc'⟩, _⟩ := own_heap hO e
    exact types_apart hR hc' (by decide) rfl) _
end Go.Proofs.Ytkgomgfhhhdnjab
namespace Go.Proofs.Ytkgomgfhhhdnjab
open Go.ChangeShapes Go.WideShapes Go.ChangeAt Go.RowKit
set_option linter.unusedVariables false

theorem mask_small (a : Nat) (ha : a ≤ 1000000) : bits .and .u64 (a : Int) 4294967295 = (a : Int) := by
  rw [Mul64.maskN a (by omega), Nat.mod_eq_of_lt (by omega)]
theorem high_small (a : Nat) (ha : a ≤ 1000000) : (a : Int) / 4294967296 = 0 := by omega
theorem wrap_small (a : Nat) (ha : a ≤ 1000000) : IntKind.u64.wrap (a : Int) = (a : Int) := Mul64.wrapN a (by omega)
theorem mul_high (x y : Nat) (hx : x ≤ 1000) (hy : y ≤ 1000) : IntKind.u64.wrap (IntKind.u64.wrap (IntKind.u64.wrap ((x : Int) / 4294967296 * ((y : Int) / 4294967296)) + IntKind.u64.wrap (IntKind.u64.wrap ((x : Int) / 4294967296 * bits BinOp.and IntKind.u64 (y : Int) 4294967295) + IntKind.u64.wrap (bits BinOp.and IntKind.u64 (x : Int) 4294967295 * bits BinOp.and IntKind.u64 (y : Int) 4294967295) / 4294967296) / 4294967296) + IntKind.u64.wrap (bits BinOp.and IntKind.u64 (IntKind.u64.wrap (IntKind.u64.wrap ((x : Int) / 4294967296 * bits BinOp.and IntKind.u64 (y : Int) 4294967295) + IntKind.u64.wrap (bits BinOp.and IntKind.u64 (x : Int) 4294967295 * bits BinOp.and IntKind.u64 (y : Int) 4294967295) / 4294967296)) 4294967295 + IntKind.u64.wrap (bits BinOp.and IntKind.u64 (x : Int) 4294967295 * ((y : Int) / 4294967296))) / 4294967296) = 0 := by
  have hxy : x * y ≤ 1000 * 1000 := Nat.mul_le_mul hx hy
  have hm := mask_small 0 (by omega)
  have hw := wrap_small 0 (by omega)
  simp only [mask_small x (by omega), mask_small y (by omega), high_small x (by omega), high_small y (by omega), Mul64.mulN, wrap_small (x * y) (by omega), high_small (x * y) (by omega)]
  simp at hm hw ⊢
  simp [hm, hw]

set_option maxHeartbeats 1000000 in
theorem mul64_small (x y : Nat) (hx : x ≤ 1000) (hy : y ≤ 1000) (w : World) :
    Calls Try.prog 125 #[.int .u64 x, .int .u64 y] w fun e w' => e = .returned (.tuple #[.int .u64 0, .int .u64 ((x * y : Nat) : Int)]) ∧ w = w' := by
  have Hh := Lib.hid (mul_high x y hx hy)
  have hxy : x * y ≤ 1000 * 1000 := Nat.mul_le_mul hx hy
  go_enter Try.func125, Try.ntmps125
  go_wp2
  go_ret2
  refine ⟨?_, rfl⟩
  show Ending.returned (.tuple #[.int .u64 _, .int .u64 _]) = _
  rw [Hh.out, Mul64.mulN]
set_option maxHeartbeats 1000000 in
theorem mul_small (x y : Nat) (hx : x ≤ 1000) (hy : y ≤ 1000) (w : World) :
    Calls Try.prog 116 #[.int .u64 x, .int .u64 y] w fun e w' => e = .returned (.tuple #[.int .u64 0, .int .u64 ((x * y : Nat) : Int)]) ∧ w = w' := by
  obtain ⟨p, Hp⟩ : ∃ p, Hid (x * y = p) := ⟨_, rfl⟩
  have H := Lib.hid (mul64_small x y hx hy w)
  rw [Hp.out] at H ⊢
  go_enter Try.func116, Try.ntmps116
  go_wp2_with (go_at_call 125; refine H.out.mono ?_; rintro e w' ⟨rfl, rfl⟩)
  go_ret2
  exact ⟨rfl, rfl⟩
end Go.Proofs.Ytkgomgfhhhdnjab
