/-
  The program's states of busy helpers: they are made, and summed up.
  Conditions: at most ten calls in one to ten times, at most five helpers.
-/
import Derived.Test.YtbbmjfnjpmefpaaIC
import Derived.Test.YtbbmjfnjpmefpaaUG
namespace Go.Proofs.Ytbbmjfnjpmefpaa
open Go.ChangeShapes Go.WideShapes Go.ChangeAt Go.RowKit
set_option linter.unusedVariables false
set_option maxRecDepth 4000

theorem lit2B (w : World) (x y : Value) (t : TypeId) : ∀ j u, [x, y][j]? = some u → (w.alloc (.cells #[x, y] t)).cell? ((⟨w.heap.size, 0, none⟩ : Addr).add j) = some u := by
  intro j u hu
  rw [addr_add0, cell_of_row _ _ _ _ t (0, 0) (heap_alloc_new w _)]
  simpa using hu
theorem stateInfo : (Try.prog.info? 48).map (fun i => (i.zero, i.size, i.bytes)) = some (some (.agg #[.int .i64 0, .int .i64 0]), 2, 16) := by kernel_rfl

/-- The states as they lie in memory. -/
def stL (a d k : Nat) : Nat → List Int
  | 0 => []
  | n + 1 => stL a d k n ++ [(n : Int), (bzI a d k n : Int)]
theorem stL_len (a d k n : Nat) : (stL a d k n).length = n * 2 := by
  induction n with
  | zero => rfl
  | succ n ih => simp [stL, ih]; omega
theorem stL_at (a d k n i : Nat) (h : i < n) : (stL a d k n).getD (i * 2) 0 = (i : Int) ∧ (stL a d k n).getD (i * 2 + 1) 0 = (bzI a d k i : Int) := by
  induction n with
  | zero => omega
  | succ n ih =>
    have hl := stL_len a d k n
    by_cases e : i = n
    · subst e
      constructor
      · simp only [stL, List.getD]; rw [List.getElem?_append_right (by omega), hl]; simp
      · simp only [stL, List.getD]; rw [List.getElem?_append_right (by omega), hl]; simp
    · have := ih (by omega)
      constructor
      · rw [← this.1]; simp only [stL, List.getD]; rw [List.getElem?_append_left (by omega)]
      · rw [← this.2]; simp only [stL, List.getD]; rw [List.getElem?_append_left (by omega)]
/-- Behind block b lie n states, of the weights f. -/
def StIn (w : World) (b n : Nat) (f : Nat → Nat) : Prop := b < w.heap.size ∧ ∀ i, i < n → w.cell? ⟨b, i * 2, none⟩ = some (.int .i64 i) ∧ w.cell? ⟨b, i * 2 + 1, none⟩ = some (.int .i64 (f i))
theorem StIn.below {w w' : World} {b n : Nat} {f : Nat → Nat} (h : StIn w b n f) (hb : Below w.heap.size w w') : StIn w' b n f :=
  ⟨Nat.lt_of_lt_of_le h.1 hb.size, fun i hi => ⟨(hb.cell (p := ⟨b, i * 2, none⟩) h.1).trans (h.2 i hi).1, (hb.cell (p := ⟨b, i * 2 + 1, none⟩) h.1).trans (h.2 i hi).2⟩⟩
def StOut (a d k : Nat) (w : World) (e : Ending) (w' : World) : Prop :=
  ∃ b c, e = .returned (.slice (some ⟨b, 0, none⟩) (k + 1) c) ∧ k + 1 ≤ c ∧ c ≤ 9223372036854775807 ∧ w.heap.size ≤ b ∧ Hid (StIn w' b (k + 1) (bzI a d k)) ∧ Below w.heap.size w w'
def StRel (a d k : Nat) (w : World) (s7 s9 s10 : Value) (wr : World) : Prop :=
  ∃ j x : Nat, s7 = .int .i64 x ∧ s10 = .int .i64 (j + 1 : Nat) ∧ j ≤ k ∧ Hid (bzI a d k j = x) ∧ wr.ownsRow w.heap.size 48 2 s9 (j + 1) ((stL a d k (j + 1)).map (Value.int .i64)) ∧ Below w.heap.size w wr
def WtRel (d k : Nat) (w : World) (s7 s8 : Value) (wr : World) : Prop :=
  ∃ j x : Nat, s7 = .int .i64 x ∧ s8 = .int .i64 (j + 1 : Nat) ∧ j ≤ k ∧ Hid (bzO d j = x) ∧ w = wr

set_option maxHeartbeats 1600000 in
theorem busyStates_any (a d k : Nat) (w : World) (ha : a < 11) (hd : d < 11) (hd1 : 1 ≤ d) (hk : k < 6) :
    Calls Try.prog 32 #[.int .i64 a, .int .i64 d, .int .i64 k] w (StOut a d k w) := by
  obtain ⟨i0, hi0, hz0, hz1, hz2⟩ := info_parts stateInfo
  go_enter Try.func32, Try.ntmps32
  go_wp2
  go_loopw [7, 8] (fun s7 s8 wr => WtRel d k w s7 s8 wr) (fun _ s8 _ => k + 1 - (intOf s8).toNat)
  case atStart => exact ⟨0, 1, rfl, rfl, by omega, rfl, rfl⟩
  case round =>
    obtain ⟨j, x, rfl, rfl, hj, Hx, rfl⟩ := hrel
    have hx : x ≤ 12000000 := by rw [← Hx.out]; exact bzO_bd d hd j (by omega)
    by_cases hlt : j < k
    · obtain ⟨e, He⟩ : ∃ e, Hid (d * (j + 1) = e) := ⟨_, rfl⟩
      have he : e ≤ 60 := by rw [← He.out]; calc d * (j + 1) ≤ 10 * 6 := Nat.mul_le_mul (by omega) (by omega)
                              _ = 60 := rfl
      obtain ⟨y, Hy⟩ : ∃ y, Hid (x * e = y) := ⟨_, rfl⟩
      have Hn : Hid (bzO d (j + 1) = y) := by show bzO d j * (d * (j + 1)) = y; rw [Hx.out, He.out, Hy.out]
      have hy : y ≤ 12000000 := by rw [← Hn.out]; exact bzO_bd d hd (j + 1) (by omega)
      have p1 : (d : Int) * ((j : Int) + 1) = (e : Int) := by rw [← He.out]; push_cast; rfl
      have p2 : (x : Int) * (e : Int) = (y : Int) := by rw [← Hy.out]; push_cast; rfl
      go_wp2
      go_roundw
      case rel => exact ⟨j + 1, y, rfl, by go_num, by omega, Hn, rfl⟩
      case measure => simp [intOf]; omega
    · obtain rfl : j = k := by omega
      have Hx0 : Hid (bzI a d j 0 = x) := Hx.out
      have hown0 : (w.alloc (.cells #[.int .i64 0, .int .i64 x] 48)).ownsRow w.heap.size 48 2 (.slice (some ⟨w.heap.size, 0, none⟩) 1 1) 1 [.int .i64 0, .int .i64 x] :=
        World.ownsRow_lit w #[.int .i64 0, .int .i64 x] 1 (Nat.le_refl _) (by decide) rfl
      have Hown0 : Hid ((w.alloc (.cells #[.int .i64 0, .int .i64 x] 48)).ownsRow w.heap.size 48 2 (.slice (some ⟨w.heap.size, 0, none⟩) 1 1) (0 + 1) ((stL a d j (0 + 1)).map (Value.int .i64))) := by
        show World.ownsRow _ _ _ _ _ _ _
        simpa [stL, Hx0.out] using hown0
      clear hown0 Hx
      have hcast : ((j + 1 : Nat) : Int) = (j : Int) + 1 := by push_cast; rfl
      go_wp2
      simp only [hcast]
      clear hcast
      go_loopw [7, 9, 10] (fun s7 s9 s10 wr => StRel a d j w s7 s9 s10 wr) (fun _ _ s10 _ => j + 1 - (intOf s10).toNat)
      case atStart => exact ⟨0, x, rfl, rfl, by omega, Hx0, Hown0.out, (Below.refl _ _).alloc (Nat.le_refl _) _⟩
      case round =>
        clear Hx0 Hown0
        obtain ⟨i, x1, rfl, rfl, hi, Hx1, hown, hb⟩ := hrel
        have hx1 : x1 ≤ 12000000 := by rw [← Hx1.out, bzI_eq a ha d hd hd1 j hk i (by omega)]; exact bzW_bd a ha d hd hd1 j hk i (by omega)
        have Hown := Lib.hid hown
        have hwo := hown.lt
        obtain ⟨A, c, rfl, hc1, hc2, hA⟩ := own_sliceN hown
        obtain ⟨g, rfl, hg1, hg2⟩ := hA (by omega)
        have Hb := Lib.hid hb
        clear hown hb hwo
        by_cases hlt : i < j
        · obtain ⟨e, He⟩ : ∃ e, Hid (d * (i + 1) = e) := ⟨_, rfl⟩
          have he : e ≤ 60 := by rw [← He.out]; calc d * (i + 1) ≤ 10 * 6 := Nat.mul_le_mul (by omega) (by omega)
                              _ = 60 := rfl
          have he1 : 1 ≤ e := by rw [← He.out]; exact Nat.mul_pos hd1 (by omega)
          obtain ⟨z, Hz⟩ : ∃ z, Hid (x1 / e = z) := ⟨_, rfl⟩
          have hz : z ≤ 12000000 := by have := div_le Hz.out; omega
          obtain ⟨y, Hy⟩ : ∃ y, Hid (z * a = y) := ⟨_, rfl⟩
          have Hn : Hid (bzI a d j (i + 1) = y) := by show bzI a d j i / (d * (i + 1)) * a = y; rw [Hx1.out, He.out, Hz.out, Hy.out]
          have hy : y ≤ 12000000 := by rw [← Hn.out, bzI_eq a ha d hd hd1 j hk (i + 1) (by omega)]; exact bzW_bd a ha d hd hd1 j hk (i + 1) (by omega)
          have p1 : (d : Int) * ((i : Int) + 1) = (e : Int) := by rw [← He.out]; push_cast; rfl
          have p2 : (x1 : Int).tdiv (e : Int) = (z : Int) := div_cast Hz.out
          have p3 : (z : Int) * (a : Int) = (y : Int) := by rw [← Hy.out]; push_cast; rfl
          have t1 : ¬ (e : Int) = 0 := by omega
          have t2 : ¬ e = 0 := by omega
          go_wp2_with (at_builtin; refine wpList_append_own _ rfl _ _ 45 rfl w.heap.size 48 i0 _ 2 16 Try.underlying45 hi0 hz0 hz1 hz2 rfl (by decide) _ _ _ rfl (Hown.out.alloc _) ⟨wr.heap.size, 0, none⟩ 1 1 [.int .i64 (i + 1 : Nat), .int .i64 y] rfl rfl ?c1 ?c2 ?c3 ?c4 ?c5 ?_)
          case c1 => exact lit2B _ _ _ _
          case c2 => intro u hu; simp at hu; rcases hu with rfl | rfl <;> rfl
          case c3 => unfold maxLen; omega
          case c4 => omega
          case c5 => rw [size_alloc1]; omega
          intro v' w3 hown' hgrow _
          have Hb3 : Hid (Below w.heap.size w w3) := (Hb.out.alloc (by have := Hb.out.size; omega) _).grown hgrow (by have := Hb.out.size; rw [size_alloc1]; omega) (fun q hq => by have := (Hown.out.lt q hq).1; omega)
          have Hown' : Hid (w3.ownsRow w.heap.size 48 2 v' (i + 1 + 1) ((stL a d j (i + 1 + 1)).map (Value.int .i64))) := by
            show World.ownsRow _ _ _ _ _ _ _
            rw [stL, List.map_append, Hn.out]
            exact hown'
          clear hown' hgrow
          go_wp2
          go_roundw
          case rel => exact ⟨i + 1, y, rfl, by go_num, by omega, Hn, Hown'.out, Hb3.out⟩
          case measure => simp [intOf]; omega
        · obtain rfl : i = j := by omega
          have hrd := rdI_of_ownN Hown.out (stL_len a d i (i + 1))
          have hl := stL_len a d i (i + 1)
          have HS : Hid (StIn wr g (i + 1) (bzI a d i)) := by
            refine ⟨hg2, fun m hm => ?_⟩
            obtain ⟨b', off', e', hb', hc'⟩ := hrd (by omega)
            injection e' with e'
            injection e' with e1 e2
            subst e1 e2
            have h0 := hc' (m * 2) (by omega)
            have h1 := hc' (m * 2 + 1) (by omega)
            rw [Nat.zero_add] at h0 h1
            rw [(stL_at a d i (i + 1) m hm).1] at h0
            rw [(stL_at a d i (i + 1) m hm).2] at h1
            exact ⟨h0, h1⟩
          clear hrd hl Hown
          go_wp2
          go_ret
          exact ⟨g, c, rfl, hc1, hc2, hg1, HS, Hb.out⟩
end Go.Proofs.Ytbbmjfnjpmefpaa
