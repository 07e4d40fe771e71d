/-
  goToAll of the program, walked: from call to call, as each comes.
  Conditions: as each theorem states.
-/
import Derived.Test.YthgllpiclaihjaaJF
import Derived.RegionTactic
namespace Go.Proofs.Ythgllpiclaihjaa
open Go.ChangeShapes Go.WideShapes Go.ChangeAt Go.RowKit
set_option linter.unusedVariables false
set_option maxRecDepth 4000

/-- From call to call: how far, and where both stand. -/
def itW (L H D : Int → Int → Int → Int) : Int → Int → List Int → Int
  | _, _, [] => 0
  | a, b, c :: r => D a b c + itW L H D (L a b c) (H a b c) r
def itL (L H : Int → Int → Int → Int) : Int → Int → List Int → Int
  | a, _, [] => a
  | a, b, c :: r => itL L H (L a b c) (H a b c) r
def itH (L H : Int → Int → Int → Int) : Int → Int → List Int → Int
  | _, b, [] => b
  | a, b, c :: r => itH L H (L a b c) (H a b c) r
theorem bw_it : ∀ (r : List Int) (a b : Int), itW bthL bthH bthW a b r = bwF a b r
  | [], _, _ => rfl
  | c :: r, a, b => by simp only [itW, bwF]; rw [bw_it r]
theorem beL_it : ∀ (r : List Int) (a b : Int), itL bthL bthH a b r = beL a b r
  | [], _, _ => rfl
  | c :: r, a, b => by simp only [itL, beL]; rw [beL_it r]
theorem beH_it : ∀ (r : List Int) (a b : Int), itH bthL bthH a b r = beH a b r
  | [], _, _ => rfl
  | c :: r, a, b => by simp only [itH, beH]; rw [beH_it r]
def ngL (a b c : Int) : Int := if gapI a c ≤ gapI b c then min c b else min a c
def ngH (a b c : Int) : Int := if gapI a c ≤ gapI b c then max c b else max a c
def ngW (a b c : Int) : Int := if gapI a c ≤ gapI b c then gapI a c else gapI b c
theorem gw_it : ∀ (r : List Int) (a b : Int), itW ngL ngH ngW a b r = gwF a b r
  | [], _, _ => rfl
  | c :: r, a, b => by
    simp only [itW, gwF]
    unfold ngL ngH ngW
    by_cases h : gapI a c ≤ gapI b c
    · simp only [if_pos h]; rw [← gw_it r]; rfl
    · simp only [if_neg h]; rw [← gw_it r]; rfl
/-- How helpers go to a call. -/
def GoOk (V : Value) (a b c d l h : Int) : Prop :=
  (V = .iface 65 (.agg #[.int .i64 a, .int .i64 c]) ∧ d = gapI a c ∧ l = min c b ∧ h = max c b) ∨
  (V = .iface 66 (.agg #[.int .i64 b, .int .i64 c]) ∧ d = gapI b c ∧ l = min a c ∧ h = max a c) ∨
  (∃ e, V = .iface 68 (.agg #[.int .i64 e]) ∧ P50 e ∧ d = 2 * e ∧ l = a + e ∧ h = b - e)
/-- What a choice of who goes must answer. -/
def ChOk (F : Nat) (L H D : Int → Int → Int → Int) : Prop := ∀ (a b c : Int) (w : World), P50 a → P50 b → a ≤ b → P50 c →
  ∃ V, GoOk V a b c (D a b c) (L a b c) (H a b c) ∧ Calls Try.prog F #[.agg #[.int .i64 a, .int .i64 b], .int .i64 c] w fun e w' => e = .returned V ∧ Below w.heap.size w w'
/-- Where both stand stays on the line. -/
def StOk (L H D : Int → Int → Int → Int) : Prop := ∀ a b c : Int, P50 a → P50 b → a ≤ b → P50 c → P50 (L a b c) ∧ P50 (H a b c) ∧ L a b c ≤ H a b c ∧ 0 ≤ D a b c ∧ D a b c ≤ 50
theorem m_both (x : Int) (w : World) : (method 185 68 (.agg #[.int .i64 x]) "loop.example/helpersinreach/impl.length").run Try.prog w = .ok (80, .agg #[.int .i64 x]) w := by kernel_rfl
/-- How they go, asked: how far, and where they stand then. -/
theorem go_length {V : Value} {a b c d l h : Int} (hV : GoOk V a b c d l h) (ha : P50 a) (hb : P50 b) (hc : P50 c) : ∃ T x F, V = .iface T x ∧ (∀ w : World, (method 185 T x "loop.example/helpersinreach/impl.length").run Try.prog w = .ok (F, x) w) ∧
    ((F = 78) ∨ (F = 79) ∨ (F = 80)) ∧
    (∀ w : World, Calls Try.prog F #[x] w fun e w' => e = .returned (.int .i64 d) ∧ Below w.heap.size w w') ∧
    (∀ w : World, Calls Try.prog 62 #[.agg #[.int .i64 a, .int .i64 b], .iface T x] w fun e w' => e = .returned (.agg #[.int .i64 l, .int .i64 h]) ∧ Below w.heap.size w w') := by
  rcases hV with ⟨rfl, rfl, rfl, rfl⟩ | ⟨rfl, rfl, rfl, rfl⟩ | ⟨e, rfl, he, rfl, rfl, rfl⟩
  · exact ⟨_, _, _, rfl, fun w => m_low a c w, .inl rfl, fun w => lowLength_any a c w ha hc, fun w => behindLow_any a b a c w⟩
  · exact ⟨_, _, _, rfl, fun w => m_high b c w, .inr (.inl rfl), fun w => highLength_any b c w hb hc, fun w => behindHigh_any a b b c w⟩
  · exact ⟨_, _, _, rfl, fun w => m_both e w, .inr (.inr rfl), fun w => bothLength_any e w he, fun w => behindBoth_any a b e w (by have := ha.1; omega) (by have := ha.2; omega) (by have := hb.1; omega) (by have := hb.2; omega) he.1 (by have := he.2; omega)⟩
theorem frozen_of_rowJ (w : World) (g j : Nat) (cs : Array Value) (t : TypeId) (hh : w.heap[g]? = some (.cells cs t (0, 0))) : w.frozen? ⟨g, j, none⟩ = false := by simp [World.frozen?, hh]
theorem set_twoJ (w : World) (S : Nat) (x y a b : Value) (t : TypeId) (h : w.heap[S]? = some (.cells #[x, y] t (0, 0))) : ((w.setCell ⟨S, 0, none⟩ a).setCell ⟨S, 1, none⟩ b).heap[S]? = some (.cells #[a, b] t (0, 0)) := by
  simp [World.setCell, Array.getElem?_modify, h]
theorem drop_consJ {zs : List Int} {k : Nat} {x : Int} (hk : k < zs.length) (hx : zs.getD k 0 = x) : zs.drop k = x :: zs.drop (k + 1) := by
  rw [List.drop_eq_getElem_cons hk]
  have e1 : zs.getD k 0 = zs[k] := by simp [List.getD, List.getElem?_eq_getElem hk]
  rw [← hx, e1]
/-- Where goToAll is, k calls on. -/
structure At (L H D : Int → Int → Int → Int) (a b : Int) (zs : List Int) (k : Nat) (t lo hi : Int) : Prop where
  way : itW L H D a b zs = t + itW L H D lo hi (zs.drop k)
  low : itL L H a b zs = itL L H lo hi (zs.drop k)
  high : itH L H a b zs = itH L H lo hi (zs.drop k)
  plo : P50 lo
  phi : P50 hi
  ord : lo ≤ hi
  t0 : 0 ≤ t
  t1 : t ≤ 50 * k
theorem At.step {L H D : Int → Int → Int → Int} {a b t lo hi c : Int} {zs : List Int} {k : Nat} (h : At L H D a b zs k t lo hi) (hs : StOk L H D) (hk : k < zs.length) (hc : zs.getD k 0 = c) (pc : P50 c) : At L H D a b zs (k + 1) (t + D lo hi c) (L lo hi c) (H lo hi c) := by
  obtain ⟨s1, s2, s3, s4, s5⟩ := hs lo hi c h.plo h.phi h.ord pc
  have e := drop_consJ hk hc
  have h1 := h.way
  have h2 := h.low
  have h3 := h.high
  rw [e] at h1 h2 h3
  simp only [itW, itL, itH] at h1 h2 h3
  have := h.t0
  have := h.t1
  exact ⟨by rw [h1]; omega, h2, h3, s1, s2, s3, by omega, by omega⟩
theorem At.done {L H D : Int → Int → Int → Int} {a b t lo hi : Int} {zs : List Int} {k : Nat} (h : At L H D a b zs k t lo hi) (hk : zs.length ≤ k) : itW L H D a b zs = t ∧ itL L H a b zs = lo ∧ itH L H a b zs = hi := by
  have h1 := h.way
  have h2 := h.low
  have h3 := h.high
  rw [List.drop_of_length_le hk] at h1 h2 h3
  simp only [itW, itL, itH] at h1 h2 h3
  exact ⟨by omega, h2, h3⟩
def GoneAll (L H D : Int → Int → Int → Int) (a b : Int) (zs : List Int) (w : World) (e : Ending) (w' : World) : Prop :=
  e = .returned (.tuple #[.int .i64 (itW L H D a b zs), .agg #[.int .i64 (itL L H a b zs), .int .i64 (itH L H a b zs)]]) ∧ Below w.heap.size w w'

set_option maxHeartbeats 800000 in
theorem bothNear_any (a b c : Int) (w : World) (ha : P50 a) (hb : P50 b) (hc : P50 c) (hab : a ≤ b) :
    Calls Try.prog 51 #[.agg #[.int .i64 a, .int .i64 b], .int .i64 c] w fun e w' => e = .returned (if c < a ∨ b < c then (if gapI a c ≤ gapI b c then .iface 65 (.agg #[.int .i64 a, .int .i64 c]) else .iface 66 (.agg #[.int .i64 b, .int .i64 c])) else .iface 68 (.agg #[.int .i64 (min (c - a) (b - c))])) ∧ Below w.heap.size w w' := by
  have HB := Lib.hid ((Below.refl w.heap.size w).alloc (Nat.le_refl _) (.cells #[.int .i64 a, .int .i64 b] 45))
  have HN := Lib.hid (fun W => nearer_any a b c W ha hb hc)
  obtain ⟨N, hN⟩ : ∃ N, Hid ((if gapI a c ≤ gapI b c then Value.iface 65 (.agg #[.int .i64 a, .int .i64 c]) else .iface 66 (.agg #[.int .i64 b, .int .i64 c])) = N) := ⟨_, rfl⟩
  rw [hN.out] at HN ⊢
  obtain ⟨ha0, ha1⟩ := ha
  obtain ⟨hb0, hb1⟩ := hb
  obtain ⟨hc0, hc1⟩ := hc
  by_cases h1 : c < a
  · rw [if_pos (.inl h1)]
    have hd : decide (c < a) = true := decide_eq_true h1
    go_enter Try.func51, Try.ntmps51
    go_wp2_with fail
    refine (HN.out _).mono ?_
    rintro e w1 ⟨rfl, hq⟩
    go_wp2
    go_ret
    exact ⟨rfl, HB.out.trans (hq.mono HB.out.size)⟩
  · have hd : decide (c < a) = false := decide_eq_false h1
    by_cases h2 : b < c
    · rw [if_pos (.inr h2)]
      go_enter Try.func51, Try.ntmps51
      go_wp2_with fail
      refine (HN.out _).mono ?_
      rintro e w1 ⟨rfl, hq⟩
      go_wp2
      go_ret
      exact ⟨rfl, HB.out.trans (hq.mono HB.out.size)⟩
    · rw [if_neg (by omega)]
      have hd2 : decide (b < c) = false := decide_eq_false h2
      obtain ⟨m, Hm⟩ : ∃ m, Hid (min (c - a) (b - c) = m) := ⟨_, rfl⟩
      rw [Hm.out]
      have Hmv : Hid ((c - a ≤ b - c ∧ m = c - a) ∨ (b - c < c - a ∧ m = b - c)) := by
        show _ ∨ _
        have := Hm.out
        omega
      have hw1 : IntKind.i64.wrap (c - a) = c - a := IntWalk.i64_in _ (by omega)
      have hw2 : IntKind.i64.wrap (b - c) = b - c := IntWalk.i64_in _ (by omega)
      go_enter Try.func51, Try.ntmps51
      rcases Hmv.out with ⟨h3, e⟩ | ⟨h3, e⟩
      all_goals
        subst e
        go_wp2
      all_goals
        go_ret
        exact ⟨rfl, HB.out⟩
theorem near_ok : ChOk 50 ngL ngH ngW := by
  intro a b c w ha hb hab hc
  refine ⟨_, ?_, nearer_any a b c w ha hb hc⟩
  unfold ngL ngH ngW
  by_cases h : gapI a c ≤ gapI b c
  · simp only [if_pos h]; exact .inl ⟨rfl, rfl, rfl, rfl⟩
  · simp only [if_neg h]; exact .inr (.inl ⟨rfl, rfl, rfl, rfl⟩)
theorem near_st : StOk ngL ngH ngW := by
  intro a b c ha hb hab hc
  have g1 := gapI_nonneg a c
  have g2 := gapI_nonneg b c
  have g3 := gapI_in50 ha.1 ha.2 hc.1 hc.2
  have g4 := gapI_in50 hb.1 hb.2 hc.1 hc.2
  unfold P50 at *
  unfold ngL ngH ngW
  by_cases h : gapI a c ≤ gapI b c
  · simp only [if_pos h]; omega
  · simp only [if_neg h]; omega
theorem both_ok : ChOk 51 bthL bthH bthW := by
  intro a b c w ha hb hab hc
  refine ⟨_, ?_, bothNear_any a b c w ha hb hc hab⟩
  unfold bthL bthH bthW
  by_cases h : c < a ∨ b < c
  · rw [if_pos h]
    by_cases h1 : gapI a c ≤ gapI b c
    · rw [if_pos h1]
      refine .inl ⟨rfl, ?_⟩
      unfold gapI at *
      by_cases e1 : c ≤ a
      · simp only [if_pos e1]; split at h1 <;> split at h1 <;> split <;> omega
      · simp only [if_neg e1]
        by_cases e2 : b ≤ c
        · simp only [if_pos e2]; split at h1 <;> split at h1 <;> split <;> omega
        · omega
    · rw [if_neg h1]
      refine .inr (.inl ⟨rfl, ?_⟩)
      unfold gapI at *
      by_cases e1 : c ≤ a
      · simp only [if_pos e1]; split at h1 <;> split at h1 <;> split <;> omega
      · simp only [if_neg e1]
        by_cases e2 : b ≤ c
        · simp only [if_pos e2]; split at h1 <;> split at h1 <;> split <;> omega
        · omega
  · rw [if_neg h]
    obtain ⟨ha0, ha1⟩ := ha
    obtain ⟨hb0, hb1⟩ := hb
    refine .inr (.inr ⟨_, rfl, ⟨by omega, by omega⟩, ?_⟩)
    by_cases e1 : c ≤ a
    · simp only [if_pos e1]; omega
    · simp only [if_neg e1]
      by_cases e2 : b ≤ c
      · simp only [if_pos e2]; omega
      · simp only [if_neg e2]; exact ⟨trivial, trivial, trivial⟩
theorem both_st : StOk bthL bthH bthW := by
  intro a b c ha hb hab hc
  have h1 := bth_in (c := c) hab
  have h2 := bth_bd ha.1 hab hb.2 hc.1 hc.2
  unfold P50 at *
  omega

set_option maxHeartbeats 3200000 in
theorem goToAll_near (L H D : Int → Int → Int → Int) (hCh : ChOk 50 L H D) (hSt : StOk L H D) (a b : Int) (A : Option Addr) (c n : Nat) (zs : List Int) (w : World) (h : CallsIn w A c n zs) (ha : P50 a) (hb : P50 b) (hab : a ≤ b) (h8 : n ≤ 8) (h50 : On50 zs) :
    Calls Try.prog 49 #[.agg #[.int .i64 a, .int .i64 b], .slice A n c, .func (.func 50) #[] #[]] w (GoneAll L H D a b zs w) := by
  obtain ⟨W, HW⟩ : ∃ W, Hid ((w.alloc (.cells #[.int .i64 a, .int .i64 b] 45)).alloc (.cells #[.int .i64 0, .int .i64 0] 45) = W) := ⟨_, rfl⟩
  have hB : Below w.heap.size w W := by
    rw [← HW.out]
    exact ((Below.refl _ w).alloc (Nat.le_refl _) _).alloc (by rw [sz1J]; omega) _
  have hs0 : W.heap[w.heap.size]? = some (.cells #[.int .i64 a, .int .i64 b] 45) := by
    rw [← HW.out]; exact heap_past _ _ _ _ (heap_alloc_new w _)
  have hs1 : W.heap[w.heap.size + 1]? = some (.cells #[.int .i64 0, .int .i64 0] 45) := by
    rw [← HW.out]; exact heap_newJ _ _ _ (sz1J _ _)
  have HS0 := Lib.hid hs0
  have HS1 := Lib.hid hs1
  have HB := Lib.hid hB
  have HR := Lib.hid h.rd
  have Hn := Lib.hid h.len
  have HCh := Lib.hid hCh
  have HSt := Lib.hid hSt
  have H50 : Hid (∀ k x, k < n → zs.getD k 0 = x → P50 x) := fun k x hk hx => h50 x (by rw [← hx]; simp [List.getD, List.getElem?_eq_getElem (show k < zs.length by rw [h.len]; exact hk)])
  have HA0 : Hid (At L H D a b zs 0 0 a b) := ⟨by rw [List.drop_zero]; omega, by rw [List.drop_zero], by rw [List.drop_zero], ha, hb, hab, by omega, by omega⟩
  clear h ha hb hab h50 hs0 hs1 hB hCh hSt
  go_enter Try.func49, Try.ntmps49
  go_wp2
  rw [HW.out]
  go_loopw [8, 14] (fun t i wr => ∃ k : Nat, ∃ t' lo hi : Int, k ≤ n ∧ i = .int .i64 k ∧ t = .int .i64 t' ∧ Hid (At L H D a b zs k t' lo hi) ∧ Hid (wr.heap[w.heap.size]? = some (.cells #[.int .i64 lo, .int .i64 hi] 45 (0, 0))) ∧ Hid (wr.heap[w.heap.size + 1]? = some (.cells #[.int .i64 0, .int .i64 0] 45 (0, 0))) ∧ Hid (Below w.heap.size w wr)) (fun _ i _ => n - (intOf i).toNat)
  case atStart => exact ⟨0, 0, a, b, Nat.zero_le _, rfl, rfl, HA0, HS0, HS1, HB⟩
  case round =>
    clear HA0 HS0 HS1 HB
    obtain ⟨k, t', lo, hi, hk, rfl, rfl, HA, HS0, HS1, HB⟩ := hrel
    have c0 : wr.cell? ⟨w.heap.size, 0, none⟩ = some (.int .i64 lo) := by rw [cell_of_row _ _ _ _ _ _ HS0.out]; rfl
    have c1 : wr.cell? ⟨w.heap.size, 1, none⟩ = some (.int .i64 hi) := by rw [cell_of_row _ _ _ _ _ _ HS0.out]; rfl
    have l0 : w.heap.size < wr.heap.size := World.block_lt_of_cell? wr _ c0
    have l1 : w.heap.size + 1 < wr.heap.size := (Array.getElem?_eq_some_iff.1 HS1.out).1
    by_cases hlt : k < n
    · obtain ⟨bx, ox, x, rfl, hbx, Hx, hcx0⟩ := HR.out.x (k := k) (by rw [Hn.out]; exact hlt)
      have hcx : wr.cell? ⟨bx, ox + k, none⟩ = some (.int .i64 x) := (HB.out.cell (p := ⟨bx, ox + k, none⟩) hbx).trans hcx0
      have px := H50.out k x hlt Hx.out
      obtain ⟨V', hgo', hch⟩ := HCh.out lo hi x wr HA.out.plo HA.out.phi HA.out.ord px
      obtain ⟨T, v, F, rfl, hme, hF, hle, hbe⟩ := go_length hgo' HA.out.plo HA.out.phi px
      have HA2 := Lib.hid (HA.out.step HSt.out (by rw [Hn.out]; exact hlt) Hx.out px)
      have Hch := Lib.hid hch
      have Hle := Lib.hid hle
      have Hbe := Lib.hid hbe
      obtain ⟨d, Hd⟩ : ∃ d, Hid (D lo hi x = d) := ⟨_, rfl⟩
      obtain ⟨lo', Hlo⟩ : ∃ d, Hid (L lo hi x = d) := ⟨_, rfl⟩
      obtain ⟨hi', Hhi⟩ : ∃ d, Hid (H lo hi x = d) := ⟨_, rfl⟩
      rw [Hd.out, Hlo.out, Hhi.out] at HA2
      rw [Hd.out] at Hle
      rw [Hlo.out, Hhi.out] at Hbe
      have ht0 := HA.out.t0
      have ht1 := HA.out.t1
      have ht2 := HA2.out.t0
      have ht3 := HA2.out.t1
      have hwt : IntKind.i64.wrap (t' + d) = t' + d := IntWalk.i64_in _ (by omega)
      clear hgo' hch hle hbe hcx0 px
      go_wp2_with fail
      refine (Hch.out).mono ?_
      rintro e w1 ⟨rfl, hq1⟩
      have Hq1 := Lib.hid hq1
      clear hq1 c0 c1 hcx
      rcases hF with rfl | rfl | rfl
      all_goals
        go_wp2_with fail
        refine (Hle.out w1).mono ?_
        rintro e w2 ⟨rfl, hq2⟩
        have hq12 := Hq1.out.trans (hq2.mono Hq1.out.size)
        have c0 : w2.cell? ⟨w.heap.size, 0, none⟩ = some (.int .i64 lo) := (hq12.cell (p := ⟨w.heap.size, 0, none⟩) l0).trans (by rw [cell_of_row _ _ _ _ _ _ HS0.out]; rfl)
        have c1 : w2.cell? ⟨w.heap.size, 1, none⟩ = some (.int .i64 hi) := (hq12.cell (p := ⟨w.heap.size, 1, none⟩) l0).trans (by rw [cell_of_row _ _ _ _ _ _ HS0.out]; rfl)
        have Hq12 := Lib.hid hq12
        clear hq2 hq12
        go_wp2_with fail
        refine (Hbe.out w2).mono ?_
        rintro e w3 ⟨rfl, hq3⟩
        have hq13 := Hq12.out.trans (hq3.mono Hq12.out.size)
        have hs3 := (hq13.block _ l0).trans HS0.out
        have hs4 := (hq13.block _ l1).trans HS1.out
        have d0 : w3.cell? ⟨w.heap.size, 0, none⟩ = some (.int .i64 lo) := by rw [cell_of_row _ _ _ _ _ _ hs3]; rfl
        have d1 : w3.cell? ⟨w.heap.size, 1, none⟩ = some (.int .i64 hi) := by rw [cell_of_row _ _ _ _ _ _ hs3]; rfl
        have f0 : w3.frozen? ⟨w.heap.size, 0, none⟩ = false := frozen_of_rowJ _ _ _ _ _ hs3
        have f1 : w3.frozen? ⟨w.heap.size, 1, none⟩ = false := frozen_of_rowJ _ _ _ _ _ hs3
        have HS5 : Hid (((w3.setCell ⟨w.heap.size, 0, none⟩ (.int .i64 lo')).setCell ⟨w.heap.size, 1, none⟩ (.int .i64 hi')).heap[w.heap.size]? = some (.cells #[.int .i64 lo', .int .i64 hi'] 45 (0, 0))) := set_twoJ _ _ _ _ _ _ _ hs3
        have HS6 : Hid (((w3.setCell ⟨w.heap.size, 0, none⟩ (.int .i64 lo')).setCell ⟨w.heap.size, 1, none⟩ (.int .i64 hi')).heap[w.heap.size + 1]? = some (.cells #[.int .i64 0, .int .i64 0] 45 (0, 0))) :=
          (Below.heap_setCell _ _ _ _ (by simp)).trans ((Below.heap_setCell _ _ _ _ (by simp)).trans hs4)
        have HB7 : Hid (Below w.heap.size w ((w3.setCell ⟨w.heap.size, 0, none⟩ (.int .i64 lo')).setCell ⟨w.heap.size, 1, none⟩ (.int .i64 hi'))) :=
          ((HB.out.trans (hq13.mono HB.out.size)).setCell (p := ⟨w.heap.size, 0, none⟩) (Nat.le_refl _) _).setCell (p := ⟨w.heap.size, 1, none⟩) (Nat.le_refl _) _
        clear hq3 hq13 hs3 hs4 c0 c1 Hq1 Hq12 HS0 HS1 HB
        go_wp2
        go_roundw
        case rel => exact ⟨k + 1, t' + d, lo', hi', by omega, by go_num, rfl, HA2, HS5, HS6, HB7⟩
        case measure => simp [intOf]; omega
    · obtain rfl : k = n := by omega
      obtain ⟨e1, e2, e3⟩ := HA.out.done (by rw [Hn.out]; omega)
      have r0 : wr.cell? ⟨w.heap.size + 1, 0, none⟩ = some (.int .i64 0) := by rw [cell_of_row _ _ _ _ _ _ HS1.out]; rfl
      have r1 : wr.cell? ⟨w.heap.size + 1, 1, none⟩ = some (.int .i64 0) := by rw [cell_of_row _ _ _ _ _ _ HS1.out]; rfl
      have f0 : wr.frozen? ⟨w.heap.size + 1, 0, none⟩ = false := frozen_of_rowJ _ _ _ _ _ HS1.out
      have f1 : wr.frozen? ⟨w.heap.size + 1, 1, none⟩ = false := frozen_of_rowJ _ _ _ _ _ HS1.out
      have E1 := Lib.hid e1
      have E2 := Lib.hid e2
      have E3 := Lib.hid e3
      clear e1 e2 e3
      go_wp2
      go_region
      all_goals
        go_wp2
        have hs := set_twoJ wr (w.heap.size + 1) _ _ (.int .i64 lo) (.int .i64 hi) _ HS1.out
        have q0 : ((wr.setCell ⟨w.heap.size + 1, 0, none⟩ (.int .i64 lo)).setCell ⟨w.heap.size + 1, 1, none⟩ (.int .i64 hi)).cell? ⟨w.heap.size + 1, 0, none⟩ = some (.int .i64 lo) := by rw [cell_of_row _ _ _ _ _ _ hs]; rfl
        have q1 : ((wr.setCell ⟨w.heap.size + 1, 0, none⟩ (.int .i64 lo)).setCell ⟨w.heap.size + 1, 1, none⟩ (.int .i64 hi)).cell? ⟨w.heap.size + 1, 1, none⟩ = some (.int .i64 hi) := by rw [cell_of_row _ _ _ _ _ _ hs]; rfl
        exact bodyPost_ret (v := .tuple #[.int .i64 t', .agg #[.int .i64 lo, .int .i64 hi]]) (by simp [results, Try.results49, go_sem, q0, q1]) rfl ⟨by rw [E1.out, E2.out, E3.out], ((HB.out.setCell (p := ⟨w.heap.size + 1, 0, none⟩) (by simp) _).setCell (p := ⟨w.heap.size + 1, 1, none⟩) (by simp) _).drew⟩

set_option maxHeartbeats 3200000 in
theorem goToAll_both (L H D : Int → Int → Int → Int) (hCh : ChOk 51 L H D) (hSt : StOk L H D) (a b : Int) (A : Option Addr) (c n : Nat) (zs : List Int) (w : World) (h : CallsIn w A c n zs) (ha : P50 a) (hb : P50 b) (hab : a ≤ b) (h8 : n ≤ 8) (h50 : On50 zs) :
    Calls Try.prog 49 #[.agg #[.int .i64 a, .int .i64 b], .slice A n c, .func (.func 51) #[] #[]] w (GoneAll L H D a b zs w) := by
  obtain ⟨W, HW⟩ : ∃ W, Hid ((w.alloc (.cells #[.int .i64 a, .int .i64 b] 45)).alloc (.cells #[.int .i64 0, .int .i64 0] 45) = W) := ⟨_, rfl⟩
  have hB : Below w.heap.size w W := by
    rw [← HW.out]
    exact ((Below.refl _ w).alloc (Nat.le_refl _) _).alloc (by rw [sz1J]; omega) _
  have hs0 : W.heap[w.heap.size]? = some (.cells #[.int .i64 a, .int .i64 b] 45) := by
    rw [← HW.out]; exact heap_past _ _ _ _ (heap_alloc_new w _)
  have hs1 : W.heap[w.heap.size + 1]? = some (.cells #[.int .i64 0, .int .i64 0] 45) := by
    rw [← HW.out]; exact heap_newJ _ _ _ (sz1J _ _)
  have HS0 := Lib.hid hs0
  have HS1 := Lib.hid hs1
  have HB := Lib.hid hB
  have HR := Lib.hid h.rd
  have Hn := Lib.hid h.len
  have HCh := Lib.hid hCh
  have HSt := Lib.hid hSt
  have H50 : Hid (∀ k x, k < n → zs.getD k 0 = x → P50 x) := fun k x hk hx => h50 x (by rw [← hx]; simp [List.getD, List.getElem?_eq_getElem (show k < zs.length by rw [h.len]; exact hk)])
  have HA0 : Hid (At L H D a b zs 0 0 a b) := ⟨by rw [List.drop_zero]; omega, by rw [List.drop_zero], by rw [List.drop_zero], ha, hb, hab, by omega, by omega⟩
  clear h ha hb hab h50 hs0 hs1 hB hCh hSt
  go_enter Try.func49, Try.ntmps49
  go_wp2
  rw [HW.out]
  go_loopw [8, 14] (fun t i wr => ∃ k : Nat, ∃ t' lo hi : Int, k ≤ n ∧ i = .int .i64 k ∧ t = .int .i64 t' ∧ Hid (At L H D a b zs k t' lo hi) ∧ Hid (wr.heap[w.heap.size]? = some (.cells #[.int .i64 lo, .int .i64 hi] 45 (0, 0))) ∧ Hid (wr.heap[w.heap.size + 1]? = some (.cells #[.int .i64 0, .int .i64 0] 45 (0, 0))) ∧ Hid (Below w.heap.size w wr)) (fun _ i _ => n - (intOf i).toNat)
  case atStart => exact ⟨0, 0, a, b, Nat.zero_le _, rfl, rfl, HA0, HS0, HS1, HB⟩
  case round =>
    clear HA0 HS0 HS1 HB
    obtain ⟨k, t', lo, hi, hk, rfl, rfl, HA, HS0, HS1, HB⟩ := hrel
    have c0 : wr.cell? ⟨w.heap.size, 0, none⟩ = some (.int .i64 lo) := by rw [cell_of_row _ _ _ _ _ _ HS0.out]; rfl
    have c1 : wr.cell? ⟨w.heap.size, 1, none⟩ = some (.int .i64 hi) := by rw [cell_of_row _ _ _ _ _ _ HS0.out]; rfl
    have l0 : w.heap.size < wr.heap.size := World.block_lt_of_cell? wr _ c0
    have l1 : w.heap.size + 1 < wr.heap.size := (Array.getElem?_eq_some_iff.1 HS1.out).1
    by_cases hlt : k < n
    · obtain ⟨bx, ox, x, rfl, hbx, Hx, hcx0⟩ := HR.out.x (k := k) (by rw [Hn.out]; exact hlt)
      have hcx : wr.cell? ⟨bx, ox + k, none⟩ = some (.int .i64 x) := (HB.out.cell (p := ⟨bx, ox + k, none⟩) hbx).trans hcx0
      have px := H50.out k x hlt Hx.out
      obtain ⟨V', hgo', hch⟩ := HCh.out lo hi x wr HA.out.plo HA.out.phi HA.out.ord px
      obtain ⟨T, v, F, rfl, hme, hF, hle, hbe⟩ := go_length hgo' HA.out.plo HA.out.phi px
      have HA2 := Lib.hid (HA.out.step HSt.out (by rw [Hn.out]; exact hlt) Hx.out px)
      have Hch := Lib.hid hch
      have Hle := Lib.hid hle
      have Hbe := Lib.hid hbe
      obtain ⟨d, Hd⟩ : ∃ d, Hid (D lo hi x = d) := ⟨_, rfl⟩
      obtain ⟨lo', Hlo⟩ : ∃ d, Hid (L lo hi x = d) := ⟨_, rfl⟩
      obtain ⟨hi', Hhi⟩ : ∃ d, Hid (H lo hi x = d) := ⟨_, rfl⟩
      rw [Hd.out, Hlo.out, Hhi.out] at HA2
      rw [Hd.out] at Hle
      rw [Hlo.out, Hhi.out] at Hbe
      have ht0 := HA.out.t0
      have ht1 := HA.out.t1
      have ht2 := HA2.out.t0
      have ht3 := HA2.out.t1
      have hwt : IntKind.i64.wrap (t' + d) = t' + d := IntWalk.i64_in _ (by omega)
      clear hgo' hch hle hbe hcx0 px
      go_wp2_with fail
      refine (Hch.out).mono ?_
      rintro e w1 ⟨rfl, hq1⟩
      have Hq1 := Lib.hid hq1
      clear hq1 c0 c1 hcx
      rcases hF with rfl | rfl | rfl
      all_goals
        go_wp2_with fail
        refine (Hle.out w1).mono ?_
        rintro e w2 ⟨rfl, hq2⟩
        have hq12 := Hq1.out.trans (hq2.mono Hq1.out.size)
        have c0 : w2.cell? ⟨w.heap.size, 0, none⟩ = some (.int .i64 lo) := (hq12.cell (p := ⟨w.heap.size, 0, none⟩) l0).trans (by rw [cell_of_row _ _ _ _ _ _ HS0.out]; rfl)
        have c1 : w2.cell? ⟨w.heap.size, 1, none⟩ = some (.int .i64 hi) := (hq12.cell (p := ⟨w.heap.size, 1, none⟩) l0).trans (by rw [cell_of_row _ _ _ _ _ _ HS0.out]; rfl)
        have Hq12 := Lib.hid hq12
        clear hq2 hq12
        go_wp2_with fail
        refine (Hbe.out w2).mono ?_
        rintro e w3 ⟨rfl, hq3⟩
        have hq13 := Hq12.out.trans (hq3.mono Hq12.out.size)
        have hs3 := (hq13.block _ l0).trans HS0.out
        have hs4 := (hq13.block _ l1).trans HS1.out
        have d0 : w3.cell? ⟨w.heap.size, 0, none⟩ = some (.int .i64 lo) := by rw [cell_of_row _ _ _ _ _ _ hs3]; rfl
        have d1 : w3.cell? ⟨w.heap.size, 1, none⟩ = some (.int .i64 hi) := by rw [cell_of_row _ _ _ _ _ _ hs3]; rfl
        have f0 : w3.frozen? ⟨w.heap.size, 0, none⟩ = false := frozen_of_rowJ _ _ _ _ _ hs3
        have f1 : w3.frozen? ⟨w.heap.size, 1, none⟩ = false := frozen_of_rowJ _ _ _ _ _ hs3
        have HS5 : Hid (((w3.setCell ⟨w.heap.size, 0, none⟩ (.int .i64 lo')).setCell ⟨w.heap.size, 1, none⟩ (.int .i64 hi')).heap[w.heap.size]? = some (.cells #[.int .i64 lo', .int .i64 hi'] 45 (0, 0))) := set_twoJ _ _ _ _ _ _ _ hs3
        have HS6 : Hid (((w3.setCell ⟨w.heap.size, 0, none⟩ (.int .i64 lo')).setCell ⟨w.heap.size, 1, none⟩ (.int .i64 hi')).heap[w.heap.size + 1]? = some (.cells #[.int .i64 0, .int .i64 0] 45 (0, 0))) :=
          (Below.heap_setCell _ _ _ _ (by simp)).trans ((Below.heap_setCell _ _ _ _ (by simp)).trans hs4)
        have HB7 : Hid (Below w.heap.size w ((w3.setCell ⟨w.heap.size, 0, none⟩ (.int .i64 lo')).setCell ⟨w.heap.size, 1, none⟩ (.int .i64 hi'))) :=
          ((HB.out.trans (hq13.mono HB.out.size)).setCell (p := ⟨w.heap.size, 0, none⟩) (Nat.le_refl _) _).setCell (p := ⟨w.heap.size, 1, none⟩) (Nat.le_refl _) _
        clear hq3 hq13 hs3 hs4 c0 c1 Hq1 Hq12 HS0 HS1 HB
        go_wp2
        go_roundw
        case rel => exact ⟨k + 1, t' + d, lo', hi', by omega, by go_num, rfl, HA2, HS5, HS6, HB7⟩
        case measure => simp [intOf]; omega
    · obtain rfl : k = n := by omega
      obtain ⟨e1, e2, e3⟩ := HA.out.done (by rw [Hn.out]; omega)
      have r0 : wr.cell? ⟨w.heap.size + 1, 0, none⟩ = some (.int .i64 0) := by rw [cell_of_row _ _ _ _ _ _ HS1.out]; rfl
      have r1 : wr.cell? ⟨w.heap.size + 1, 1, none⟩ = some (.int .i64 0) := by rw [cell_of_row _ _ _ _ _ _ HS1.out]; rfl
      have f0 : wr.frozen? ⟨w.heap.size + 1, 0, none⟩ = false := frozen_of_rowJ _ _ _ _ _ HS1.out
      have f1 : wr.frozen? ⟨w.heap.size + 1, 1, none⟩ = false := frozen_of_rowJ _ _ _ _ _ HS1.out
      have E1 := Lib.hid e1
      have E2 := Lib.hid e2
      have E3 := Lib.hid e3
      clear e1 e2 e3
      go_wp2
      go_region
      all_goals
        go_wp2
        have hs := set_twoJ wr (w.heap.size + 1) _ _ (.int .i64 lo) (.int .i64 hi) _ HS1.out
        have q0 : ((wr.setCell ⟨w.heap.size + 1, 0, none⟩ (.int .i64 lo)).setCell ⟨w.heap.size + 1, 1, none⟩ (.int .i64 hi)).cell? ⟨w.heap.size + 1, 0, none⟩ = some (.int .i64 lo) := by rw [cell_of_row _ _ _ _ _ _ hs]; rfl
        have q1 : ((wr.setCell ⟨w.heap.size + 1, 0, none⟩ (.int .i64 lo)).setCell ⟨w.heap.size + 1, 1, none⟩ (.int .i64 hi)).cell? ⟨w.heap.size + 1, 1, none⟩ = some (.int .i64 hi) := by rw [cell_of_row _ _ _ _ _ _ hs]; rfl
        exact bodyPost_ret (v := .tuple #[.int .i64 t', .agg #[.int .i64 lo, .int .i64 hi]]) (by simp [results, Try.results49, go_sem, q0, q1]) rfl ⟨by rw [E1.out, E2.out, E3.out], ((HB.out.setCell (p := ⟨w.heap.size + 1, 0, none⟩) (by simp) _).setCell (p := ⟨w.heap.size + 1, 1, none⟩) (by simp) _).drew⟩
end Go.Proofs.Ythgllpiclaihjaa
