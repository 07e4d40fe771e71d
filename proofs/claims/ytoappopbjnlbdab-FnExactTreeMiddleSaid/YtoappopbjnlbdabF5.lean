/-
  The parts that are left without a node, and whether none has more than half of all people.
  Conditions: none beyond what each theorem states.
-/
import Derived.Test.YtoappopbjnlbdabV3
import Derived.Test.YtoappopbjnlbdabF2
namespace Go.Proofs.Ytoappopbjnlbdab
open Go.ChangeShapes Go.WideShapes Go.ChangeAt Go.RowKit
set_option linter.unusedVariables false
set_option maxRecDepth 4000

/-- The people in the part behind node b, without node i. -/
def pp (t : List (Int × Int)) (fs : List Int) (n i b : Nat) : Int := if b < i then tot fs n - beh t fs i n else beh t fs b n
theorem sumN_beh (t : List (Int × Int)) (fs : List Int) (c : Nat) : ∀ m, sumN (fun j => if Bh t c j then fs.getD j 0 else 0) m = beh t fs c m
  | 0 => rfl
  | m + 1 => by
    simp only [sumN, beh, sumN_beh t fs c m]
    by_cases h : Bh t c m
    · rw [if_pos h, if_pos h]
    · rw [if_neg h, if_neg h]
theorem sumN_not (t : List (Int × Int)) (fs : List Int) (c : Nat) : ∀ m, sumN (fun j => if ¬ Bh t c j then fs.getD j 0 else 0) m = tot fs m - beh t fs c m
  | 0 => by simp [sumN, tot, beh]
  | m + 1 => by
    simp only [sumN, tot, beh, sumN_not t fs c m]
    by_cases h : Bh t c m
    · rw [if_neg (fun h' => h' h), if_pos h]; omega
    · rw [if_pos h, if_neg h]; omega
theorem nb_mem {t : List (Int × Int)} (ht : Ahead t) : ∀ n, n ≤ t.length → ∀ i, i < n → ∀ b l, (b, l) ∈ nb t n i ↔ ((1 ≤ i ∧ b = tto t i ∧ l = tlg t i) ∨ (i < b ∧ b < n ∧ tto t b = i ∧ l = tlg t b))
  | 0, _, i, hi, _, _ => by omega
  | n + 1, hn, i, hi, b, l => by
    by_cases e : i = n
    · subst e
      by_cases h0 : i = 0
      · subst h0
        simp only [nb, if_true]
        constructor
        · intro h; cases h
        · rintro (h | h) <;> omega
      · rw [nb_new (by omega)]
        simp only [List.mem_singleton, Prod.mk.injEq]
        constructor
        · rintro ⟨rfl, rfl⟩; exact .inl ⟨by omega, rfl, rfl⟩
        · rintro (⟨_, h2, h3⟩ | h)
          · exact ⟨h2, h3⟩
          · omega
    · have hi' : i < n := by omega
      rw [nb_old hi', List.mem_append, nb_mem ht n (by omega) i hi' b l]
      by_cases hp : tto t n = i
      · rw [if_pos hp]
        simp only [List.mem_singleton, Prod.mk.injEq]
        constructor
        · rintro ((h | h) | ⟨rfl, rfl⟩)
          · exact .inl h
          · exact .inr ⟨h.1, by omega, h.2.2⟩
          · exact .inr ⟨hi', by omega, hp, rfl⟩
        · rintro (h | ⟨h1, h2, h3, h4⟩)
          · exact .inl (.inl h)
          · by_cases hb : b = n
            · subst hb; exact .inr ⟨rfl, h4⟩
            · exact .inl (.inr ⟨h1, by omega, h3, h4⟩)
      · rw [if_neg hp]
        simp only [List.not_mem_nil, or_false]
        constructor
        · rintro (h | h)
          · exact .inl h
          · exact .inr ⟨h.1, by omega, h.2.2⟩
        · rintro (h | ⟨h1, h2, h3, h4⟩)
          · exact .inl h
          · by_cases hb : b = n
            · subst hb; exact absurd h3 hp
            · exact .inr ⟨h1, by omega, h3, h4⟩
/-- A walk into a part: its people. -/
theorem part_walk {t : List (Int × Int)} (ht : Ahead t) {fs : List Int} {n i b : Nat} {l : Int} (hn : n ≤ t.length) (hn7 : n ≤ 7) (hi : i < n) (hb : (b, l) ∈ nb t n i) :
    ∃ M, VisL (nb t n) b (some i) 0 (nb t n b) M ∧ psum fs ((b, 0) :: M) = pp t fs n i b ∧ M.length + 1 ≤ n ∧ ∀ y ∈ (b, (0 : Int)) :: M, y.1 < n ∧ 0 ≤ y.2 ∧ y.2 ≤ 1000000 := by
  have hbn := nb_lt ht n hn i hi b l hb
  have h9 : ∀ j, j < n → 0 ≤ dn t n b j ∧ dn t n b j ≤ 1000 := fun j hj => by
    have := dn_bd ht n b j hn hbn hj
    omega
  rcases (nb_mem ht n hn i hi b l).1 hb with ⟨h1, rfl, _⟩ | ⟨h1, h2, h3, _⟩
  · obtain ⟨M, hV, hs⟩ := walks_up ht n hn i h1 hi 0
    refine ⟨M, hV, ?_, visited_len hs, fun y hy => ?_⟩
    · have := hs fun i _ => fs.getD i 0
      rw [sumN_not] at this
      have hlt := (ht i h1 (by omega)).1
      unfold pp
      rw [if_pos hlt, ← this]; rfl
    · obtain ⟨g1, _, g2⟩ := visited_way hs y hy
      have := h9 y.1 g1
      omega
  · obtain ⟨M, hV, hs⟩ := walks_down ht n hn b (by omega) h2 0
    rw [h3] at hV
    refine ⟨M, hV, ?_, visited_len hs, fun y hy => ?_⟩
    · have := hs fun i _ => fs.getD i 0
      rw [sumN_beh] at this
      unfold pp
      rw [if_neg (by omega), ← this]; rfl
    · obtain ⟨g1, _, g2⟩ := visited_way hs y hy
      have := h9 y.1 g1
      omega
/-- None of the parts without node i has more than half of all people. -/
def midOk (t : List (Int × Int)) (fs : List Int) (n i : Nat) : Bool := (nb t n i).all fun x => !decide (tot fs n < 2 * pp t fs n i x.1)
theorem pp_bd {t : List (Int × Int)} {fs : List Int} {n i b : Nat} (hf : ∀ i, 0 ≤ fs.getD i 0) : 0 ≤ pp t fs n i b ∧ pp t fs n i b ≤ tot fs n := by
  unfold pp
  have h1 := beh_le_tot (t := t) hf i n
  have h2 := beh_nonneg (t := t) hf i n
  have h3 := beh_le_tot (t := t) hf b n
  have h4 := beh_nonneg (t := t) hf b n
  split <;> omega
theorem tot_bd {fs : List Int} {n : Nat} (hf : ∀ i, i < n → 0 ≤ fs.getD i 0 ∧ fs.getD i 0 ≤ 20) : ∀ m, m ≤ n → 0 ≤ tot fs m ∧ tot fs m ≤ 20 * m
  | 0, _ => by simp [tot]
  | m + 1, hm => by
    have h1 := tot_bd hf m (by omega)
    have h2 := hf m (by omega)
    simp only [tot]; omega
theorem fk_nonneg {n : Nat} {fs : List Int} (h : fk n fs = true) : ∀ i, 0 ≤ fs.getD i 0 := fun i => by
  obtain ⟨h1, h2⟩ := fk_iff h
  by_cases hi : i < n
  · exact (h2 i hi).1
  · simp [List.getD, List.getElem?_eq_none (show fs.length ≤ i by omega)]

/-- One part. -/
def PartAns (t : List (Int × Int)) (fs : List Int) (n i b : Nat) (w : World) (e : Ending) (w' : World) : Prop := e = .returned (.bool (decide (tot fs n < 2 * pp t fs n i b))) ∧ Below w.heap.size w w'
set_option maxHeartbeats 1600000 in
theorem part_any (w : World) (P : Nat → Nat) (RV : Nat → Value) (B B' n i b mb fb ab cf : Nat) (l : Int) (Af : Option Addr) (fs : List Int) (t : List (Int × Int)) (ht : Ahead t) (hn : t.length = n) (hn7 : n ≤ 7) (hlk : LkN w B n P RV t) (hi : i < n) (hb : (b, l) ∈ nb t n i)
    (hf : fk n fs = true) (hrf : RdI w B' Af fs) (hB' : B' ≤ w.heap.size) (cm : w.cell? ⟨mb, 0, none⟩ = some (.pointer (some ⟨P i, 0, none⟩))) (cfb : w.cell? ⟨fb, 0, none⟩ = some (.slice Af fs.length cf)) (ca : w.cell? ⟨ab, 0, none⟩ = some (.int .i64 (tot fs n))) :
    Calls Try.prog 77 #[.agg #[.pointer (some ⟨P b, 0, none⟩), .int .i64 l], .pointer (some ⟨mb, 0, none⟩), .pointer (some ⟨fb, 0, none⟩), .pointer (some ⟨ab, 0, none⟩)] w (PartAns t fs n i b w) := by
  have hbn := nb_lt ht n (by omega) i hi b l hb
  obtain ⟨M, hV, hps, hlen, hF⟩ := part_walk (fs := fs) ht (by omega) hn7 hi hb
  have hfk := fk_iff hf
  have hppb := pp_bd (t := t) (n := n) (i := i) (b := b) (fk_nonneg hf)
  have htb := tot_bd hfk.2 n (Nat.le_refl _)
  have hmb := World.block_lt_of_cell? w _ cm
  have hfb := World.block_lt_of_cell? w _ cfb
  have hab := World.block_lt_of_cell? w _ ca
  have b1 := (Below.refl w.heap.size w).alloc (Nat.le_refl _) (.cells #[.pointer (some ⟨P b, 0, none⟩), .int .i64 l] 92)
  have b2 := b1.alloc b1.size (.cells #[.int .i64 0] 3)
  have hR := heap_alloc_new (w.alloc (.cells #[.pointer (some ⟨P b, 0, none⟩), .int .i64 l] 92)) (.cells #[.int .i64 0] 3)
  rw [size_alloc1] at hR
  have c1 : ∀ o1 o2, ((w.alloc o1).alloc o2).cell? ⟨mb, 0, none⟩ = some (.pointer (some ⟨P i, 0, none⟩)) := fun o1 o2 => ((((Below.refl w.heap.size w).alloc (Nat.le_refl _) o1).alloc (by rw [size_alloc1]; omega) o2).cell (p := ⟨mb, 0, none⟩) hmb).trans cm
  have hvis := visitH_any _ P RV B (w.heap.size + 1) fb n cf Af fs ((b, 0) :: M) t (hlk.below b2) ⟨_, hR⟩ (by simp only at hfb; omega) ((b2.cell (p := ⟨fb, 0, none⟩) hfb).trans cfb) B' (hrf.below (b2.mono hB')) (by omega) (by have := b2.size; omega) hfk.1 hn7 hfk.2 (fun y hy => (hF y hy).1) (by simp; omega)
  have hcall := walkH_any _ P RV B (w.heap.size + 1) n _ _ (pplObj fs) t ht (by omega) hn7 (hlk.below b2) ⟨_, _, _, hR, by decide, by decide⟩ hR b (some i) M hbn (fun g e => by injection e with e; omega) hV hvis (fun y hy => (hF y hy).2)
  have ca2 := (b2.cell (p := ⟨ab, 0, none⟩) hab).trans ca
  have Hcall := Lib.hid hcall
  have B2 := Lib.hid b2
  have CA2 := Lib.hid ca2
  have Hps := Lib.hid hps
  have Hab : Hid (ab < w.heap.size) := hab
  clear hcall b1 b2 ca2 hvis hV hF hps hR hlk hrf hf hfk hb hab hmb hfb cm cfb ca
  obtain ⟨X, HX⟩ : ∃ X, Hid (pp t fs n i b = X) := ⟨_, rfl⟩
  obtain ⟨T, HT⟩ : ∃ T, Hid (tot fs n = T) := ⟨_, rfl⟩
  rw [HX.out, HT.out] at hppb
  rw [HT.out] at htb
  have HCA2 := CA2.out
  rw [HT.out] at HCA2
  have CA3 := Lib.hid HCA2
  clear HCA2
  have w2' : IntKind.i64.wrap (2 * X) = 2 * X := IntWalk.i64_in _ (by omega)
  go_enter Try.func77, Try.ntmps77
  go_wp2_with fail
  refine Hcall.out.mono ?_
  rintro e w3 ⟨rfl, h3, hg3⟩
  have cr : w3.cell? ⟨w.heap.size + 1, 0, none⟩ = some (.int .i64 X) := by
    rw [cell_of_row _ _ _ _ _ _ h3, Hps.out, HX.out]; rfl
  have ca3 : w3.cell? ⟨ab, 0, none⟩ = some (.int .i64 T) := (World.cell?_of_block (hg3.block ab (Nat.lt_of_lt_of_le Hab.out B2.out.size) (fun e => by injection e with e; have := Hab.out; omega))).trans CA3.out
  have hb3 : Below w.heap.size w w3 := B2.out.grown hg3 B2.out.size (fun g e => by injection e with e; omega)
  have HB3 := Lib.hid hb3
  clear h3 hg3 hb3 c1
  go_wp2
  go_ret
  exact ⟨ret_bool (by rw [HX.out, HT.out]), HB3.out⟩
end Go.Proofs.Ytoappopbjnlbdab
