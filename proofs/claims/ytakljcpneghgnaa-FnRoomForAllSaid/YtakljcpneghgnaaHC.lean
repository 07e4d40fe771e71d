/-
  Helpers and calls of the program as rows of two cells each; helpersWith, callsOf and roomOf, walked.
  Conditions: the lists are those of helpers with room.
-/
import Derived.Test.YtakljcpneghgnaaRV
import Derived.Test.YtakljcpneghgnaaVA
namespace Go.Proofs.Ytakljcpneghgnaa
open Go.ChangeShapes Go.WideShapes Go.ChangeAt Go.RowKit
set_option linter.unusedVariables false
set_option maxRecDepth 4000

/-- Rows of two cells an element. -/
def cell2 (P Q : Nat → Value) (j : Nat) : Value := if j % 2 = 0 then P (j / 2) else Q (j / 2)
def row2 (P Q : Nat → Value) (n : Nat) : List Value := (List.range (n * 2)).map (cell2 P Q)
theorem row2_len (P Q : Nat → Value) (n : Nat) : (row2 P Q n).length = n * 2 := by simp [row2]
theorem row2_get0 {P Q : Nat → Value} {n i : Nat} (hi : i < n) : (row2 P Q n)[i * 2]? = some (P i) := by
  unfold row2
  rw [List.getElem?_map, List.getElem?_range (by omega)]
  simp only [Option.map_some, cell2]
  rw [if_pos (by omega), show i * 2 / 2 = i by omega]
theorem row2_get1 {P Q : Nat → Value} {n i : Nat} (hi : i < n) : (row2 P Q n)[i * 2 + 1]? = some (Q i) := by
  unfold row2
  rw [List.getElem?_map, List.getElem?_range (by omega)]
  simp only [Option.map_some, cell2]
  rw [if_neg (by omega), show (i * 2 + 1) / 2 = i by omega]
theorem row2_set0 {P Q : Nat → Value} {n i : Nat} (v : Value) (hi : i < n) : (row2 P Q n).set (i * 2) v = row2 (upd P i v) Q n := by
  unfold row2
  apply List.ext_getElem?
  intro j
  rw [List.getElem?_set]
  by_cases hj : j < n * 2
  · by_cases e : i * 2 = j
    · subst e
      simp only [List.length_map, List.length_range, hj, if_true, List.getElem?_map, List.getElem?_range, Option.map_some, cell2]
      rw [if_pos (by omega), show i * 2 / 2 = i by omega, upd_at]
    · rw [if_neg e, List.getElem?_map, List.getElem?_map, List.getElem?_range hj]
      simp only [Option.map_some, cell2]
      by_cases h2 : j % 2 = 0
      · rw [if_pos h2, if_pos h2, upd_other P v (by omega)]
      · rw [if_neg h2, if_neg h2]
  · have h1 : ¬ i * 2 = j := by omega
    rw [if_neg h1, List.getElem?_eq_none (by simp; omega), List.getElem?_eq_none (by simp; omega)]
theorem row2_set1 {P Q : Nat → Value} {n i : Nat} (v : Value) (hi : i < n) : (row2 P Q n).set (i * 2 + 1) v = row2 P (upd Q i v) n := by
  unfold row2
  apply List.ext_getElem?
  intro j
  rw [List.getElem?_set]
  by_cases hj : j < n * 2
  · by_cases e : i * 2 + 1 = j
    · subst e
      simp only [List.length_map, List.length_range, hj, if_true, List.getElem?_map, List.getElem?_range, Option.map_some, cell2]
      rw [if_neg (by omega), show (i * 2 + 1) / 2 = i by omega, upd_at]
    · rw [if_neg e, List.getElem?_map, List.getElem?_map, List.getElem?_range hj]
      simp only [Option.map_some, cell2]
      by_cases h2 : j % 2 = 0
      · rw [if_pos h2, if_pos h2]
      · rw [if_neg h2, if_neg h2, upd_other Q v (by omega)]
  · have h1 : ¬ i * 2 + 1 = j := by omega
    rw [if_neg h1, List.getElem?_eq_none (by simp; omega), List.getElem?_eq_none (by simp; omega)]
theorem row2_congr {P P' Q Q' : Nat → Value} {n : Nat} (h : ∀ i, i < n → P i = P' i ∧ Q i = Q' i) : row2 P Q n = row2 P' Q' n := by
  unfold row2
  refine List.map_congr_left fun j hj => ?_
  have hj := List.mem_range.1 hj
  simp only [cell2]
  rw [(h (j / 2) (by omega)).1, (h (j / 2) (by omega)).2]
theorem row2_made (a b : Value) (n : Nat) (z : Array Value) (hz : z = #[a, b]) : (madeCells z (n * 2)).toList = row2 (fun _ => a) (fun _ => b) n := by
  subst hz
  unfold row2
  apply List.ext_getElem?
  intro j
  by_cases hj : j < n * 2
  · have h2 : j % 2 = 0 ∨ j % 2 = 1 := by omega
    rcases h2 with h2 | h2 <;> simp [madeCells, cell2, hj, h2]
  · simp [madeCells, hj]
theorem row2_snoc (P Q : Nat → Value) (n : Nat) : row2 P Q (n + 1) = row2 P Q n ++ [P n, Q n] := by
  unfold row2
  rw [show (n + 1) * 2 = n * 2 + 1 + 1 by omega, List.range_succ, List.range_succ, List.map_append, List.map_append, List.append_assoc]
  congr 1
  simp only [List.map_cons, List.map_nil, List.singleton_append, cell2]
  rw [if_pos (by omega), if_neg (by omega), show n * 2 / 2 = n by omega, show (n * 2 + 1) / 2 = n by omega]

/-- The set of the first k helpers of a list. -/
def mB (l : List Int) : Nat → Nat
  | 0 => 0
  | k + 1 => mB l k ||| 2 ^ (l.getD k 0).toNat
def mS (wish : List (List Int)) (i : Nat) : Nat := mB (wish.getD i []) (wish.getD i []).length
theorem mB_lt {l : List Int} : ∀ {k}, (∀ j, j < k → 0 ≤ l.getD j 0 ∧ l.getD j 0 ≤ 3) → mB l k < 16
  | 0, _ => by simp [mB]
  | k + 1, h => by
    have h1 := mB_lt (l := l) (k := k) fun j hj => h j (by omega)
    have h2 := h k (by omega)
    simp only [mB]
    have h3 : 2 ^ (l.getD k 0).toNat < 16 := (Nat.pow_lt_pow_right (by omega) (by omega) : 2 ^ (l.getD k 0).toNat < 2 ^ 4)
    exact Nat.or_lt_two_pow (n := 4) h1 h3
theorem mB_bit {l : List Int} {h : Nat} : ∀ {k}, (mB l k).testBit h = true ↔ ∃ j, j < k ∧ (l.getD j 0).toNat = h
  | 0 => by simp [mB]
  | k + 1 => by
    have ih := mB_bit (l := l) (h := h) (k := k)
    simp only [mB, Nat.testBit_or, Bool.or_eq_true, ih, Nat.testBit_two_pow, decide_eq_true_eq]
    constructor
    · rintro (⟨j, h1, h2⟩ | h1)
      · exact ⟨j, by omega, h2⟩
      · exact ⟨k, by omega, h1⟩
    · rintro ⟨j, h1, h2⟩
      by_cases e : j = k
      · subst e; exact .inr h2
      · exact .inl ⟨j, by omega, h2⟩
theorem wish_bd {room : List Int} {wish : List (List Int)} (hv : vroom room wish = true) {i j : Nat} (hi : i < wish.length) (hj : j < (wish.getD i []).length) : 0 ≤ (wish.getD i []).getD j 0 ∧ (wish.getD i []).getD j 0 ≤ 3 := by
  obtain ⟨h4, -, -, hW⟩ := (vroom_iff _ _).1 hv
  have := hW i hi j hj
  omega
theorem mS_lt {room : List Int} {wish : List (List Int)} (hv : vroom room wish = true) {i : Nat} (hi : i < wish.length) : mS wish i < 16 := mB_lt fun j hj => wish_bd hv hi hj
theorem mS_may {room : List Int} {wish : List (List Int)} (hv : vroom room wish = true) {i : Nat} (hi : i < wish.length) (h : Nat) : (mS wish i).testBit h = true ↔ mayW wish i h := by
  unfold mS mayW
  rw [mB_bit]
  constructor
  · rintro ⟨j, h1, h2⟩
    have := wish_bd hv hi h1
    exact ⟨j, h1, by omega⟩
  · rintro ⟨j, h1, h2⟩
    exact ⟨j, h1, by omega⟩
theorem orM_all : ∀ s : Fin 16, ∀ i : Fin 4, bits BinOp.or IntKind.u64 (s.val : Int) (IntKind.u64.wrap ((2 : Int) ^ i.val)) = ((s.val ||| 2 ^ i.val : Nat) : Int) := by decide +kernel
theorem powM_all : ∀ i : Fin 4, IntKind.u64.wrap ((2 : Int) ^ i.val) = ((2 ^ i.val : Nat) : Int) := by decide +kernel
theorem andNotM_all : ∀ m : Fin 16, ∀ s : Fin 16, (bits BinOp.andNot IntKind.u64 (m.val : Int) (s.val : Int) != 0) = decide (∃ h : Fin 4, m.val.testBit h.val = true ∧ ¬ s.val.testBit h.val = true) := by decide +kernel
theorem shrM_all : ∀ s : Fin 16, ∀ i : Fin 4, (bits BinOp.and IntKind.u64 ((s.val : Int) / 2 ^ i.val) 1 == 1) = s.val.testBit i.val := by decide +kernel
/-- Whether a call is blocked otherwise, as the program sees it. -/
theorem oW_set {room : List Int} {wish : List (List Int)} (hv : vroom room wish = true) {i S : Nat} (hi : i < wish.length) (hS : S < 16) : (bits BinOp.andNot IntKind.u64 (mS wish i : Int) (S : Int) != 0) = oW wish S i := by
  have h1 := andNotM_all ⟨mS wish i, mS_lt hv hi⟩ ⟨S, hS⟩
  simp only at h1
  rw [h1, Bool.eq_iff_iff, decide_eq_true_iff, oW_iff hv S i hi]
  constructor
  · rintro ⟨h, h2, h3⟩
    exact ⟨h.val, (mS_may hv hi h.val).1 h2, h3⟩
  · rintro ⟨h, h2, h3⟩
    have h4 := mayW_lt hv i h hi h2
    have h5 := ((vroom_iff _ _).1 hv).1
    exact ⟨⟨h, by omega⟩, (mS_may hv hi h).2 h2, h3⟩

theorem callInfo : (Try.prog.info? 55).map (fun i => (i.zero, i.size, i.bytes)) = some (some (.agg #[.int .i64 0, .int .u64 0]), 2, 16) := by kernel_rfl
theorem helperInfo : (Try.prog.info? 75).map (fun i => (i.zero, i.size, i.bytes)) = some (some (.agg #[.int .u64 0, .int .i64 0]), 2, 16) := by kernel_rfl
def cP (N : Nat → Int) (i : Nat) : Value := .int .i64 (N i)
def cQ (M : Nat → Nat) (i : Nat) : Value := .int .u64 (M i)
def MadeCalls (wish : List (List Int)) (n : Nat) (w : World) (e : Ending) (w' : World) : Prop :=
  ∃ b, e = .returned (.slice (some ⟨b, 0, none⟩) n n) ∧ w.heap.size ≤ b ∧ Hid (w'.ownsRow w.heap.size 55 2 (.slice (some ⟨b, 0, none⟩) n n) n (row2 (cP fun i => i) (cQ (mS wish)) n)) ∧ Hid (Below w.heap.size w w')
set_option maxHeartbeats 1600000 in
theorem callsOf_any (A : Option Addr) (c n : Nat) (room : List Int) (wish : List (List Int)) (w : World) (B : Nat) (hw : RdV w B A wish) (hB : B ≤ w.heap.size) (hn : wish.length = n) (hv : vroom room wish = true) :
    Calls Try.prog 51 #[.slice A n c] w (MadeCalls wish n w) := by
  obtain ⟨i0, hi0, hz0, hz1, hz2⟩ := info_parts callInfo
  have h7 := ((vroom_iff _ _).1 hv).2.1
  rw [hn] at h7
  have Hn := Lib.hid hn
  have Hw := Lib.hid hw
  have Hv := Lib.hid hv
  clear hn hw hv
  go_enter Try.func51, Try.ntmps51
  go_wp2_with (at_make; refine wpList_make_full _ rfl _ _ 49 rfl w.heap.size 55 i0 _ 2 Try.underlying49 hi0 hz0 hz1 _ _ _ _ n rfl rfl rfl rfl (by rw [hz2]; omega) (by unfold maxLen; omega) (Nat.le_refl _) ?_; intro w1 hown1 hg1)
  have hs1 : w.heap.size < w1.heap.size := (hown1.lt w.heap.size rfl).2
  have hnx1 : Below w.heap.size w w1 := (Below.refl _ _).grown hg1 (Nat.le_refl _) (fun j hj => by cases hj)
  rw [row2_made (.int .i64 0) (.int .u64 0) n (Value.agg #[.int .i64 0, .int .u64 0]).cells rfl] at hown1
  have HO1 : Hid (w1.ownsRow w.heap.size 55 2 (.slice (some ⟨w.heap.size, 0, none⟩) n n) n (row2 (cP fun _ => 0) (cQ fun _ => 0) n)) := hown1
  have HB1 := Lib.hid hnx1
  clear hown1 hg1 hnx1
  go_loopw [13] (fun i wr => ∃ k : Nat, ∃ N M, k ≤ n ∧ i = .int .i64 k ∧ Hid ((∀ i, i < k → N i = (i : Int) ∧ M i = mS wish i) ∧ ∀ i, k ≤ i → M i = 0) ∧ Hid (wr.ownsRow w.heap.size 55 2 (.slice (some ⟨w.heap.size, 0, none⟩) n n) n (row2 (cP N) (cQ M) n)) ∧ Hid (Below w.heap.size w wr)) (fun i _ => n - (intOf i).toNat)
  case atStart => exact ⟨0, _, _, Nat.zero_le _, rfl, ⟨fun i hi => by omega, fun i hi => rfl⟩, HO1, HB1⟩
  case round =>
    clear HO1 HB1
    obtain ⟨k, N, M, hk, rfl, HM, HO, HB⟩ := hrel
    by_cases hlt : k < n
    · obtain ⟨b, off, a, ca, ls, rfl, hbw, Hl, hcl0, hca, hcm, hrl⟩ := Hw.out.x (k := k) (by rw [Hn.out]; exact hlt)
      obtain ⟨t, Ht⟩ : ∃ t, Hid (ls.length = t) := ⟨_, rfl⟩
      have hcl := ((HB.out.mono hB).cell hbw).trans hcl0
      rw [Ht.out] at hcl hca
      clear hcl0
      have c0 : wr.cell? ⟨w.heap.size, k * 2, none⟩ = some (.int .i64 (N k)) := (HO.out.cellAt (k * 2) (by omega)).trans (row2_get0 hlt)
      have f0 := HO.out.frozenAt (k * 2)
      have hst := (HO.out.stored (k * 2) (.int .i64 (k : Int))).1
      rw [row2_set0 _ hlt] at hst
      have HN2 : Hid ((wr.setCell ⟨w.heap.size, k * 2, none⟩ (.int .i64 (k : Int))).ownsRow w.heap.size 55 2 (.slice (some ⟨w.heap.size, 0, none⟩) n n) n (row2 (cP (upd N k (k : Int))) (cQ M) n)) := by
        rw [show row2 (cP (upd N k (k : Int))) (cQ M) n = row2 (upd (cP N) k (.int .i64 (k : Int))) (cQ M) n from row2_congr fun i hi => ⟨by
          by_cases e : i = k
          · subst e; simp only [cP]; rw [upd_at, upd_at]
          · simp only [cP]; rw [upd_other _ _ e, upd_other _ _ e]; rfl, rfl⟩]
        exact hst
      have HB2 := Lib.hid (HB.out.setCell (p := ⟨w.heap.size, k * 2, none⟩) (Nat.le_refl _) (.int .i64 (k : Int)))
      have Hrl := Lib.hid hrl
      have HM0 : Hid (M k = mB ls 0) := HM.out.2 k (Nat.le_refl _)
      have Hbd : Hid (∀ j, j < t → 0 ≤ ls.getD j 0 ∧ ls.getD j 0 ≤ 3) := fun j hj => by
        have := wish_bd Hv.out (i := k) (j := j) (by rw [Hn.out]; exact hlt) (by rw [Hl.out, Ht.out]; exact hj)
        rw [Hl.out] at this; exact this
      clear hst hrl HO HB
      go_wp2
      generalize wr.setCell ⟨w.heap.size, k * 2, none⟩ (.int .i64 (k : Int)) = W1 at HN2 HB2 ⊢
      go_loopw [25] (fun i wr => ∃ j : Nat, ∃ M', j ≤ t ∧ i = .int .i64 j ∧ Hid (M' k = mB ls j ∧ ∀ i, i ≠ k → M' i = M i) ∧ Hid (wr.ownsRow w.heap.size 55 2 (.slice (some ⟨w.heap.size, 0, none⟩) n n) n (row2 (cP (upd N k (k : Int))) (cQ M') n)) ∧ Hid (Below w.heap.size w wr)) (fun i _ => t - (intOf i).toNat)
      case atStart => exact ⟨0, M, Nat.zero_le _, rfl, ⟨HM0.out, fun i _ => rfl⟩, HN2, HB2⟩
      case round =>
        clear HN2 HB2
        obtain ⟨j, M', hj, rfl, HM', HO, HB⟩ := hrel
        by_cases hlj : j < t
        · obtain ⟨b', off', x, rfl, hbb, Hx, hcx0⟩ := Hrl.out.x (k := j) (by rw [Ht.out]; exact hlj)
          have hcx : wr.cell? ⟨b', off' + j, none⟩ = some (.int .i64 x) := ((HB.out.mono hB).cell hbb).trans hcx0
          have hxb := Hbd.out j hlj
          rw [Hx.out] at hxb
          obtain ⟨h, rfl⟩ := Int.eq_ofNat_of_zero_le hxb.1
          have hh4 : h < 4 := by omega
          have hm16 : mB ls j < 16 := mB_lt fun i hi => Hbd.out i (by omega)
          obtain ⟨m, Hm⟩ : ∃ m, Hid (mB ls j = m) := ⟨_, rfl⟩
          have hMk : M' k = m := HM'.out.1.trans Hm.out
          rw [Hm.out] at hm16
          have c1 : wr.cell? ⟨w.heap.size, k * 2 + 1, none⟩ = some (.int .u64 (m : Nat)) := (HO.out.cellAt (k * 2 + 1) (by omega)).trans (by rw [row2_get1 hlt]; simp only [cQ]; rw [hMk])
          have f1 := HO.out.frozenAt (k * 2 + 1)
          have hor := orM_all ⟨m, hm16⟩ ⟨h, hh4⟩
          simp only at hor
          have HMn : Hid (mB ls (j + 1) = m ||| 2 ^ h) := by show _ = _; simp only [mB]; rw [Hm.out, Hx.out]; rfl
          have hst := (HO.out.stored (k * 2 + 1) (.int .u64 ((m ||| 2 ^ h : Nat) : Int))).1
          rw [row2_set1 _ hlt] at hst
          have HST : Hid ((wr.setCell ⟨w.heap.size, k * 2 + 1, none⟩ (.int .u64 ((m ||| 2 ^ h : Nat) : Int))).ownsRow w.heap.size 55 2 (.slice (some ⟨w.heap.size, 0, none⟩) n n) n (row2 (cP (upd N k (k : Int))) (cQ (upd M' k (m ||| 2 ^ h))) n)) := by
            rw [show row2 (cP (upd N k (k : Int))) (cQ (upd M' k (m ||| 2 ^ h))) n = row2 (cP (upd N k (k : Int))) (upd (cQ M') k (.int .u64 ((m ||| 2 ^ h : Nat) : Int))) n from row2_congr fun i hi => ⟨rfl, by
              by_cases e : i = k
              · subst e; simp only [cQ]; rw [upd_at, upd_at]
              · simp only [cQ]; rw [upd_other _ _ e, upd_other _ _ e]; rfl⟩]
            exact hst
          have HB2 := Lib.hid (HB.out.setCell (p := ⟨w.heap.size, k * 2 + 1, none⟩) (Nat.le_refl _) (.int .u64 ((m ||| 2 ^ h : Nat) : Int)))
          have HM2 : Hid (upd M' k (m ||| 2 ^ h) k = mB ls (j + 1) ∧ ∀ i, i ≠ k → upd M' k (m ||| 2 ^ h) i = M i) := ⟨by rw [upd_at, HMn.out], fun i hi => by rw [upd_other _ _ hi]; exact HM'.out.2 i hi⟩
          clear hst HO HB hMk hcx0
          go_wp2
          go_region
          go_wp2
          go_roundw
          case rel => exact ⟨j + 1, _, by omega, by go_num, HM2, World.ownsRow.drew HST.out, HB2.out.drew⟩
          case measure => simp [intOf]; omega
        · obtain rfl : j = t := by omega
          have HM2 : Hid ((∀ i, i < k + 1 → upd N k (k : Int) i = (i : Int) ∧ M' i = mS wish i) ∧ ∀ i, k + 1 ≤ i → M' i = 0) := ⟨fun i hi => by
            by_cases e : i = k
            · subst e
              refine ⟨upd_at _ _ _, ?_⟩
              rw [HM'.out.1]; unfold mS; rw [Hl.out, Ht.out]
            · rw [upd_other _ _ e, HM'.out.2 i e]
              exact HM.out.1 i (by omega), fun i hi => by rw [HM'.out.2 i (by omega)]; exact HM.out.2 i (by omega)⟩
          go_wp2
          go_roundw
          case rel => exact ⟨k + 1, _, _, by omega, by go_num, HM2, HO, HB⟩
          case measure => simp [intOf]; omega
    · obtain rfl : k = n := by omega
      have HE : Hid (wr.ownsRow w.heap.size 55 2 (.slice (some ⟨w.heap.size, 0, none⟩) k k) k (row2 (cP fun i => i) (cQ (mS wish)) k)) := by
        rw [← row2_congr (P := cP N) (Q := cQ M) fun i hi => ⟨by simp only [cP]; rw [(HM.out.1 i hi).1], by simp only [cQ]; rw [(HM.out.1 i hi).2]⟩]
        exact HO.out
      go_wp2
      go_ret
      exact ⟨_, rfl, Nat.le_refl _, HE, HB⟩
end Go.Proofs.Ytakljcpneghgnaa
