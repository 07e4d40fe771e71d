/-
  The program's sets of near nodes over a table, and the most of them without a common one.
  Conditions: at most seven nodes.
  The model's sets: powers, bits; the most nodes no two of which are near one node, over all sets.
  Conditions: at most seven nodes.
  TreeApart of the program: sets of near nodes, and the most without a common one.
  Conditions: none beyond what each theorem states.
  TreeSum: the model answers the sum over all nodes of people times the way.
  Conditions: fewer than 2^60 roads and numbers.
  The model's packing: the most nodes no two of which are near one node, over all sets.
  Conditions: at most seven nodes.
-/
import Derived.Test.YtdhelapgdgekfaaZ2
import Derived.Test.YtdhelapgdgekfaaZ4
import Derived.Test.YtdhelapgdgekfaaZ0
import Derived.Test.YtdhelapgdgekfaaZ14
import Derived.Test.YtdhelapgdgekfaaZ9
import Derived.Test.YtdhelapgdgekfaaZ12
import Derived.Test.YtdhelapgdgekfaaZ13
import Derived.Deep.RegionWith
namespace Go.Proofs.Ytdhelapgdgekfaa
open Go.ChangeShapes Go.WideShapes Go.ChangeAt Go.RowKit
set_option linter.unusedVariables false
set_option maxRecDepth 4000

/-- The nodes below m that have a way of at most far from node i, as bits. -/
def nmk (d : Nat → Nat → Int) (far : Int) (i : Nat) : Nat → Nat
  | 0 => 0
  | m + 1 => if ¬ d i m = -1 ∧ d i m ≤ far then nmk d far i m ||| 2 ^ m else nmk d far i m
theorem nmk_lt (d : Nat → Nat → Int) (far : Int) (i : Nat) : ∀ m, nmk d far i m < 2 ^ m
  | 0 => by simp [nmk]
  | m + 1 => by
    have h := nmk_lt d far i m
    have h2 : 2 ^ m < 2 ^ (m + 1) := Nat.pow_lt_pow_right (by omega) (by omega)
    simp only [nmk]
    split
    · exact Nat.or_lt_two_pow (by omega) h2
    · omega
theorem nmk_bit (d : Nat → Nat → Int) (far : Int) (i : Nat) : ∀ m v, (nmk d far i m).testBit v = true ↔ v < m ∧ ¬ d i v = -1 ∧ d i v ≤ far
  | 0, v => by simp [nmk]
  | m + 1, v => by
    have h := nmk_bit d far i m v
    simp only [nmk]
    split
    · rename_i hd
      rw [Nat.testBit_or, Bool.or_eq_true, h, Nat.testBit_two_pow]
      simp only [decide_eq_true_eq]
      constructor
      · rintro (⟨h1, h2⟩ | rfl)
        · exact ⟨by omega, h2⟩
        · exact ⟨by omega, hd⟩
      · rintro ⟨h1, h2⟩
        by_cases e : m = v
        · exact .inr e
        · exact .inl ⟨by omega, h2⟩
    · rename_i hd
      rw [h]
      constructor
      · rintro ⟨h1, h2⟩; exact ⟨by omega, h2⟩
      · rintro ⟨h1, h2⟩
        by_cases e : v = m
        · subst e; exact absurd h2 hd
        · exact ⟨by omega, h2⟩
theorem or_u64 : ∀ s : Fin 128, ∀ i : Fin 7, bits BinOp.or IntKind.u64 (s.val : Int) ((2 ^ i.val : Nat) : Int) = ((s.val ||| 2 ^ i.val : Nat) : Int) := by decide +kernel
theorem wrap_pow : ∀ i : Fin 7, IntKind.u64.wrap ((2 : Int) ^ i.val) = ((2 ^ i.val : Nat) : Int) := by decide +kernel
theorem wrap_pow8 : ∀ i : Fin 8, IntKind.u64.wrap ((2 : Int) ^ i.val) = ((2 ^ i.val : Nat) : Int) := by decide +kernel
theorem bc_le : ∀ f s, bc f s ≤ f
  | 0, _ => Nat.le_refl _
  | f + 1, s => by have := bc_le f (s / 2); simp only [bc]; omega
theorem or2_u64 : ∀ s : Fin 128, ∀ t : Fin 128, bits BinOp.or IntKind.u64 (s.val : Int) (t.val : Int) = ((s.val ||| t.val : Nat) : Int) := by decide +kernel
theorem and2_u64 : ∀ s : Fin 128, ∀ t : Fin 128, bits BinOp.and IntKind.u64 (s.val : Int) (t.val : Int) = ((s.val &&& t.val : Nat) : Int) := by decide +kernel
theorem vfar_any (x : Int) (w : World) : Calls Try.prog 64 #[.int .i64 x] w fun e w' => e = .returned (.bool (decide (0 ≤ x) && decide (x ≤ 50))) ∧ w = w' := by
  by_cases h1 : 0 ≤ x <;> by_cases h2 : x ≤ 50
  all_goals
    go_enter Try.func64, Try.ntmps64
    go_wp2
    go_ret
    exact ⟨ret_bool (by simp [h1, h2]), rfl⟩
theorem farOk_yes (x : Int) (w : World) (h1 : 0 ≤ x) (h2 : x ≤ 50) : Calls Try.prog 64 #[.int .i64 x] w fun e w' => e = .returned (.bool true) ∧ w = w' :=
  (vfar_any x w).mono fun _ _ ⟨he, hw⟩ => ⟨by rw [he]; simp [h1, h2], hw⟩
theorem farOk_no (x : Int) (w : World) (h : x < 0 ∨ 50 < x) : Calls Try.prog 64 #[.int .i64 x] w fun e w' => e = .returned (.bool false) ∧ w = w' :=
  (vfar_any x w).mono fun _ _ ⟨he, hw⟩ => ⟨by rw [he]; rcases h with h | h <;> simp <;> omega, hw⟩
def Ms (d : Nat → Nat → Int) (far : Int) (n i m : Nat) : List Value := (List.range n).map fun j => .int .u64 ((if j < i then nmk d far j n else if j = i then nmk d far i m else 0 : Nat) : Int)
theorem Ms_len (d : Nat → Nat → Int) (far : Int) (n i m : Nat) : (Ms d far n i m).length = n := by simp [Ms]
theorem Ms_get {d : Nat → Nat → Int} {far : Int} {n i m : Nat} (hi : i < n) : (Ms d far n i m)[i]? = some (.int .u64 (nmk d far i m : Nat)) := by simp [Ms, hi]
theorem Ms_set {d : Nat → Nat → Int} {far : Int} {n i m : Nat} (hi : i < n) : (Ms d far n i m).set i (.int .u64 (nmk d far i (m + 1) : Nat)) = Ms d far n i (m + 1) := by
  unfold Ms
  apply List.ext_getElem?
  intro j
  rw [List.getElem?_set]
  by_cases hj : j < n
  · by_cases e : i = j
    · subst e; simp [hi]
    · simp [hj, e, show ¬ j = i from fun h => e h.symm]
  · simp [hj]; omega
theorem Ms_next {d : Nat → Nat → Int} {far : Int} {n i : Nat} : Ms d far n i n = Ms d far n (i + 1) 0 := by
  unfold Ms
  refine List.map_congr_left fun j hj => ?_
  by_cases h1 : j < i
  · rw [if_pos h1, if_pos (by omega)]
  · by_cases h2 : j = i
    · subst h2; rw [if_neg h1, if_pos rfl, if_pos (by omega)]
    · rw [if_neg h1, if_neg h2, if_neg (by omega)]
      by_cases h3 : j = i + 1
      · rw [if_pos h3]; rfl
      · rw [if_neg h3]
theorem uInfo : (Try.prog.info? 86).map (fun i => (i.zero, i.size, i.bytes)) = some (some (.int .u64 0), 1, 8) := by kernel_rfl
def SetsPost (d : Nat → Nat → Int) (far : Int) (n : Nat) (w : World) (e : Ending) (w' : World) : Prop :=
  ∃ g, e = .returned (.slice (some ⟨g, 0, none⟩) n n) ∧ w'.ownsRow w.heap.size 86 1 (.slice (some ⟨g, 0, none⟩) n n) n (Ms d far n n 0) ∧ Below w.heap.size w w'
set_option maxHeartbeats 1600000 in
theorem nearSets_any (w : World) (B n g0 c : Nat) (far : Int) (VR : Nat → Value) (X : Nat → Nat → Int) (hn1 : 1 ≤ n) (hn7 : n ≤ 7) (hO : Outer w B n (.slice (some ⟨g0, 0, none⟩) n c) VR) (hT : TT w B n VR (rowX X n)) :
    Calls Try.prog 70 #[.slice (some ⟨g0, 0, none⟩) n c, .int .i64 far] w (SetsPost X far n w) := by
  obtain ⟨iu, hiu, hzu0, hzu1, hzu2⟩ := info_parts uInfo
  have HO := Lib.hid hO
  have HT := Lib.hid hT
  clear hO hT
  have hbi : iu.bytes * n ≤ 281474976710656 := by rw [hzu2]; omega
  have hml : n ≤ maxLen := by unfold maxLen; omega
  go_enter Try.func70, Try.ntmps70
  go_wp2_with (at_make; refine wpList_make_full _ rfl _ _ 84 rfl w.heap.size 86 iu _ 1 Try.underlying84 hiu hzu0 hzu1 _ _ _ _ n rfl rfl rfl rfl hbi hml (Nat.le_refl _) ?_; intro w1 hown1 hg1)
  have hb1 : Below w.heap.size w w1 := (Below.refl _ _).grown hg1 (Nat.le_refl _) (fun j hj => by cases hj)
  have ho1 : w1.ownsRow w.heap.size 86 1 (.slice (some ⟨w.heap.size, 0, none⟩) n n) n (Ms X far n 0 0) := by
    rw [Nat.mul_one] at hown1
    have e : (madeCells (Value.int .u64 0).cells n).toList = Ms X far n 0 0 := by
      rw [show (Value.int .u64 0).cells = #[Value.int .u64 0] from rfl, toList_madeCells_one]
      unfold Ms
      apply List.ext_getElem?
      intro i
      by_cases hi : i < n
      · by_cases h0 : i = 0
        · subst h0; simp [hi, nmk]
        · simp [hi, h0]
      · simp [hi]
    rw [← e]; exact hown1
  obtain ⟨G, HG⟩ : ∃ G, Hid (w.heap.size = G) := ⟨_, rfl⟩
  have hGB : w.heap.size ≤ G := Nat.le_of_eq HG.out
  rw [HG.out] at ho1
  rw [HG.out]
  rw [← HG.out] at ho1
  have ho2 : w1.ownsRow w.heap.size 86 1 (.slice (some ⟨G, 0, none⟩) n n) n (Ms X far n 0 0) := by rw [← HG.out]; exact ho1
  have HO1 := Lib.hid ho2
  have HB1 := Lib.hid hb1
  clear hown1 hg1 ho1 hb1 ho2
  go_loopw [15] (fun i wr => ∃ k : Nat, k ≤ n ∧ i = .int .i64 k ∧ wr.ownsRow w.heap.size 86 1 (.slice (some ⟨G, 0, none⟩) n n) n (Ms X far n k 0) ∧ Below w.heap.size w wr) (fun i _ => n - (intOf i).toNat)
  case atStart => exact ⟨0, by omega, rfl, HO1.out, HB1.out⟩
  case round =>
    clear HO1 HB1
    obtain ⟨k, hk, rfl, hown, hnx⟩ := hrel
    by_cases hlt : k < n
    · obtain ⟨Ak, ck, ek, hrk⟩ := HT.out.row hlt
      have cc := (hnx.cell (p := ⟨g0, k, none⟩) (own_heap HO.out (g := g0) rfl).2.2).trans (Outer.cell HO.out hlt)
      rw [ek, rowX_len] at cc
      have HRK := Lib.hid hrk
      have HOW := Lib.hid hown
      have HNX := Lib.hid hnx
      clear ek hrk hown hnx
      go_wp2
      go_loopw [22] (fun i wr => ∃ m : Nat, m ≤ n ∧ i = .int .i64 m ∧ wr.ownsRow w.heap.size 86 1 (.slice (some ⟨G, 0, none⟩) n n) n (Ms X far n k m) ∧ Below w.heap.size w wr) (fun i _ => n - (intOf i).toNat)
      case atStart => exact ⟨0, by omega, rfl, HOW.out, HNX.out⟩
      case round =>
        clear HOW HNX cc
        obtain ⟨m, hm, rfl, hown, hnx⟩ := hrel
        by_cases hlm : m < n
        · obtain ⟨b, off, x, rfl, -, Hx, hcx⟩ := (HRK.out.below hnx).x (k := m) (by rw [rowX_len]; exact hlm)
          have hx := Hx.out
          rw [rowX_get X hlm] at hx
          by_cases hd : ¬ x = -1 ∧ x ≤ far
          · have hx1 : (x != -1) = true := by rw [bne_iff_ne]; exact hd.1
            have hd2 := hd.2
            have cs : _ = some (Value.int .u64 (nmk X far k m : Nat)) := (hown.cellAt k (by omega)).trans (Ms_get hlt)
            have fs := hown.frozenAt k
            have h128 : nmk X far k m < 128 := pow_128 (by omega) (nmk_lt _ _ _ _)
            have hor := or_u64 ⟨nmk X far k m, h128⟩ ⟨m, by omega⟩
            have hst := (hown.stored k (.int .u64 (nmk X far k (m + 1) : Nat)))
            rw [Ms_set hlt] at hst
            have hnk : Hid (nmk X far k (m + 1) = nmk X far k m ||| 2 ^ m) := by show _ = _; simp only [nmk]; rw [if_pos (by rw [hx]; exact hd)]
            simp only at hor
            obtain ⟨S, HS⟩ : ∃ S, Hid (nmk X far k m = S) := ⟨_, rfl⟩
            rw [HS.out] at cs hor hnk
            have hval : bits BinOp.or IntKind.u64 (S : Int) (IntKind.u64.wrap ((2 : Int) ^ m)) = ((nmk X far k (m + 1) : Nat) : Int) := by
              rw [wrap_pow ⟨m, by omega⟩, hor, hnk.out]
            rw [← hval] at hst
            have HST := Lib.hid hst.1
            have HB2 := Lib.hid (hnx.grown hst.2 hnx.size (fun j e => by injection e with e; omega))
            clear hst hown hnx hx hor hval hd
            go_wp2
            go_region
            go_wp2
            go_roundw
            case rel => exact ⟨m + 1, by omega, by go_num, HST.out, HB2.out.drew⟩
            case measure => simp [intOf]; omega
          · have hnk : Hid (Ms X far n k (m + 1) = Ms X far n k m) := by
              have hz : nmk X far k (m + 1) = nmk X far k m := by simp only [nmk]; rw [if_neg (by rw [hx]; exact hd)]
              show _ = _
              unfold Ms
              refine List.map_congr_left fun j _ => ?_
              by_cases e : j = k
              · rw [e, hz]
              · rw [if_neg e, if_neg e]
            have HOW := Lib.hid hown
            have HNX := Lib.hid hnx
            clear hown hnx hx
            by_cases h1 : x = -1
            · subst h1
              go_wp2
              go_roundw
              case rel => exact ⟨m + 1, by omega, by go_num, by rw [hnk.out]; exact HOW.out, HNX.out⟩
              case measure => simp [intOf]; omega
            · have hx1 : (x != -1) = true := by rw [bne_iff_ne]; exact h1
              have hd2 : ¬ x ≤ far := fun h => hd ⟨h1, h⟩
              go_wp2
              go_roundw
              case rel => exact ⟨m + 1, by omega, by go_num, by rw [hnk.out]; exact HOW.out, HNX.out⟩
              case measure => simp [intOf]; omega
        · have hmn : m = n := by omega
          subst hmn
          rw [Ms_next] at hown
          have HOW := Lib.hid hown
          have HNX := Lib.hid hnx
          clear hown hnx
          go_wp2
          go_roundw
          case rel => exact ⟨k + 1, by omega, by go_num, HOW.out, HNX.out⟩
          case measure => simp [intOf]; omega
    · have hkn : k = n := by omega
      subst hkn
      have HOW := Lib.hid hown
      have HNX := Lib.hid hnx
      clear hown hnx
      go_wp2
      go_ret
      exact ⟨G, rfl, HOW.out, HNX.out⟩
/-- The slice with address A reads as the sets N k, .. (m of them), at offset off. -/
def RdU (w : World) (A : Option Addr) (N : Nat → Nat) (k m : Nat) : Prop := 0 < m → ∃ b off, A = some ⟨b, off, none⟩ ∧ ∀ i, i < m → w.cell? ⟨b, off + i, none⟩ = some (.int .u64 (N (k + i) : Nat))
set_option maxHeartbeats 600000 in
theorem mostW_any (N : Nat → Nat) (hN : ∀ i, N i < 128) : ∀ (m k T c : Nat) (A : Option Addr) (w : World), RdU w A N k m → m ≤ c → m ≤ 7 → T < 128 →
    Calls Try.prog 69 #[.slice A m c, .int .u64 T] w fun e w' => e = .returned (.int .i64 (mw N m k T : Nat)) ∧ ∃ q, w' = w.drewN q
  | 0, k, T, c, A, w, _, _, _, _ => by
    go_enter Try.func69, Try.ntmps69
    go_wp2
    go_ret
    exact ⟨rfl, 0, rfl⟩
  | m + 1, k, T, c, A, w, hr, hc, h7, hT => by
    obtain ⟨b, off, rfl, hcell⟩ := hr (by omega)
    have c0 := hcell 0 (by omega)
    rw [Nat.add_zero, Nat.add_zero] at c0
    obtain ⟨A2, hA2, hrest⟩ : ∃ A2 : Option Addr, ((c = 1 ∧ m = 0 ∧ A2 = some ⟨b, off, none⟩) ∨ (¬ c = 1 ∧ A2 = some ⟨b, off + 1, none⟩)) ∧ ∀ q, RdU (w.drewN q) A2 N (k + 1) m := by
      by_cases hc1 : c = 1
      · exact ⟨_, .inl ⟨hc1, by omega, rfl⟩, fun q hm => by omega⟩
      · refine ⟨_, .inr ⟨hc1, rfl⟩, fun q hm => ⟨b, off + 1, rfl, fun i hi => ?_⟩⟩
        have := hcell (i + 1) (by omega)
        rw [show off + (i + 1) = off + 1 + i by omega, show k + (i + 1) = k + 1 + i by omega] at this
        exact this
    have hand := and2_u64 ⟨N k, hN k⟩ ⟨T, hT⟩
    have hor := or2_u64 ⟨T, hT⟩ ⟨N k, hN k⟩
    simp only at hand hor
    have hT2 : T ||| N k < 128 := Nat.or_lt_two_pow (n := 7) hT (hN k)
    have ih1 := mostW_any N hN m (k + 1) T (c - 1) A2 w (hrest 0) (by omega) (by omega) hT
    have ih2 := fun q => mostW_any N hN m (k + 1) (T ||| N k) (c - 1) A2 (w.drewN q) (hrest q) (by omega) (by omega) hT2
    have b1 := mw_bd N m (k + 1) T
    have b2 := mw_bd N m (k + 1) (T ||| N k)
    have hz : (((m + 1 : Nat) : Int) == 0) = false := by rw [beq_eq_false_iff_ne]; omega
    have H1 := Lib.hid ih1
    have H2 := Lib.hid ih2
    obtain ⟨M1, HM1⟩ : ∃ M, Hid (mw N m (k + 1) T = M) := ⟨_, rfl⟩
    obtain ⟨M2, HM2⟩ : ∃ M, Hid (mw N m (k + 1) (T ||| N k) = M) := ⟨_, rfl⟩
    have hmw0 : Hid (mw N (m + 1) k T = if N k &&& T = 0 then max M1 (1 + M2) else M1) := by show _ = _; simp only [mw]; rw [HM1.out, HM2.out]
    rw [HM1.out] at H1 b1
    rw [HM2.out] at H2 b2
    clear ih1 ih2 hrest hcell hr
    by_cases hd : N k &&& T = 0
    · rw [hd] at hand
      have hmw : Hid (mw N (m + 1) k T = max M1 (1 + M2)) := by show _ = _; rw [hmw0.out, if_pos hd]
      have hS1 : bits BinOp.and IntKind.u64 (N k : Int) (T : Int) = 0 := hand
      clear hand hd hmw0
      have w1' : IntKind.i64.wrap (1 + (M2 : Int)) = 1 + (M2 : Int) := IntWalk.i64_in _ (by omega)
      rcases hA2 with ⟨rfl, rfl, rfl⟩ | ⟨hc1, rfl⟩
      all_goals
        go_enter Try.func69, Try.ntmps69
        go_wp2_with fail
        refine H1.out.mono ?_
        rintro e w1 ⟨rfl, q1, rfl⟩
        have Hd := Lib.hid (H2.out (q1 + 1))
        have Hdr : Hid ((w.drewN q1).drew = w.drewN (q1 + 1)) := rfl
        have cq : ∀ a, (w.drewN a).cell? ⟨b, off, none⟩ = some (.int .u64 (N k : Nat)) := fun a => c0
        have cq2 : (w.drewN q1).drew.cell? ⟨b, off, none⟩ = some (.int .u64 (N k : Nat)) := c0
        go_wp2
        go_region_with (
          go_at_call 69
          refine Hd.out.mono ?_
          rintro e wz ⟨rfl, q3, rfl⟩)
        all_goals
          go_wp2
          all_goals
            go_ret
            refine ⟨ret_int (Eq.trans (b := ((max M1 (1 + M2) : Nat) : Int)) ?_ (congrArg (fun x : Nat => (x : Int)) hmw.out.symm)), _, rfl⟩
            rw [Nat.max_def]
            split <;> omega
    · have hmw : Hid (mw N (m + 1) k T = M1) := by show _ = _; rw [hmw0.out, if_neg hd]
      have hne : (((N k &&& T : Nat) : Int) == 0) = false := by rw [beq_eq_false_iff_ne]; omega
      clear hmw0
      rcases hA2 with ⟨rfl, rfl, rfl⟩ | ⟨hc1, rfl⟩
      all_goals
        go_enter Try.func69, Try.ntmps69
        go_wp2_with fail
        refine H1.out.mono ?_
        rintro e w1 ⟨rfl, q1, rfl⟩
        go_wp2
        go_ret
        exact ⟨ret_int (by rw [hmw.out]), _, rfl⟩
end Go.Proofs.Ytdhelapgdgekfaa
namespace Go.Proofs.Ytdhelapgdgekfaa
open Go.ChangeShapes Go.WideShapes Go.ChangeAt Go.RowKit
set_option linter.unusedVariables false
set_option maxRecDepth 4000

theorem power_any (n : Nat) (w : World) (hn : n ≤ 7) : Calls Try.prog 111 #[.int .i64 n] w fun e w' => e = .returned (.int .i64 ((2 ^ n : Nat) : Int)) ∧ w = w' := by
  go_enter Try.func111, Try.ntmps111
  go_wp2
  go_loop [0, 3] (fun a o => ∃ k m : Nat, k + m = n ∧ a = .int .i64 m ∧ o = .int .i64 ((2 ^ k : Nat) : Int)) (fun a _ => (intOf a).toNat)
  case atStart => exact ⟨0, n, by omega, rfl, rfl⟩
  case round =>
    obtain ⟨k, m, hkm, rfl, rfl⟩ := hrel
    by_cases hm : 0 < m
    · have hp : 2 ^ k ≤ 2 ^ 7 := Nat.pow_le_pow_right (by omega) (by omega)
      have hs : Hid (2 ^ (k + 1) = 2 * 2 ^ k) := by show _ = _; rw [Nat.pow_succ]; omega
      obtain ⟨P, HP⟩ : ∃ P : Nat, Hid (2 ^ k = P) := ⟨2 ^ k, rfl⟩
      rw [HP.out] at hp hs ⊢
      go_wp2
      go_round
      case rel => exact ⟨k + 1, m - 1, by omega, by go_num, by rw [hs.out]; go_num⟩
      case measure => simp [intOf]; omega
    · have hkn : k = n := by omega
      subst hkn
      go_wp2
      go_ret
      exact ⟨rfl, rfl⟩
theorem bit_num : ∀ s : Fin 128, ∀ i : Fin 7, ((s.val : Int).tdiv ((2 ^ i.val : Nat) : Int)).tmod 2 = if s.val.testBit i.val = true then 1 else 0 := by decide +kernel
theorem bit_is (s i : Nat) (w : World) (hs : s < 128) (hi : i < 7) {z : Int} (hz : (if s.testBit i = true then (1 : Int) else 0) = z) : Calls Try.prog 112 #[.int .i64 s, .int .i64 i] w fun e w' => e = .returned (.int .i64 z) ∧ w = w' := by
  have hb := bit_num ⟨s, hs⟩ ⟨i, hi⟩
  simp only at hb
  rw [hz] at hb
  have hp : 0 < 2 ^ i := Nat.two_pow_pos i
  have Hp := Lib.hid (power_any i w (by omega))
  obtain ⟨P, HP⟩ : ∃ P : Nat, Hid (2 ^ i = P) := ⟨2 ^ i, rfl⟩
  have hd : s / P ≤ s := Nat.div_le_self _ _
  rw [HP.out] at hp hb Hp
  have hdv : (s : Int).tdiv (P : Int) = ((s / P : Nat) : Int) := (Int.ofNat_tdiv s P).symm
  have hdv2 : (s : Int) / (P : Int) = ((s / P : Nat) : Int) := (Int.natCast_ediv s P).symm
  rw [hdv] at hb
  obtain ⟨D, HD⟩ : ∃ D : Nat, Hid (s / P = D) := ⟨s / P, rfl⟩
  rw [HD.out] at hb hdv hdv2 hd
  have Hb := Lib.hid hb
  clear hb hz
  have hne : ¬ (P : Int) = 0 := by omega
  go_enter Try.func112, Try.ntmps112
  go_wp2_with fail
  refine Hp.out.mono ?_
  rintro e w' ⟨rfl, rfl⟩
  go_wp2
  go_ret
  exact ⟨ret_int Hb.out, rfl⟩
theorem bit_any (s i : Nat) (w : World) (hs : s < 128) (hi : i < 7) : Calls Try.prog 112 #[.int .i64 s, .int .i64 i] w fun e w' => e = .returned (.int .i64 (if s.testBit i = true then 1 else 0)) ∧ w = w' := bit_is s i w hs hi rfl
theorem bits_num : ∀ s : Fin 128, bc 7 s.val = s.val % 2 + bc 7 (s.val / 2) := by decide +kernel
theorem bits_any (s : Nat) (w : World) (hs : s < 128) : Calls Try.prog 113 #[.int .i64 s] w fun e w' => e = .returned (.int .i64 ((bc 7 s : Nat) : Int)) ∧ w = w' := by
  go_enter Try.func113, Try.ntmps113
  go_wp2
  go_loop [0, 3] (fun a o => ∃ r k : Nat, Hid (k + bc 7 r = bc 7 s) ∧ r ≤ s ∧ k ≤ 1000 - r ∧ a = .int .i64 r ∧ o = .int .i64 k) (fun a _ => (intOf a).toNat)
  case atStart => exact ⟨s, 0, Nat.zero_add _, Nat.le_refl _, Nat.zero_le _, rfl, rfl⟩
  case round =>
    obtain ⟨r, k, Hr, hrs, hk, rfl, rfl⟩ := hrel
    by_cases hr0 : 0 < r
    · have hn := bits_num ⟨r, by omega⟩
      simp only at hn
      have H2 : Hid (k + r % 2 + bc 7 (r / 2) = bc 7 s) := by show _ = _; rw [← Hr.out, hn]; omega
      clear hn
      have hm2 : r % 2 ≤ 1 := by omega
      have hd2 : r / 2 < r := by omega
      have e1 : (r : Int).tmod 2 = ((r % 2 : Nat) : Int) := (Int.ofNat_tmod r 2).symm
      have e2 : (r : Int).tdiv 2 = ((r / 2 : Nat) : Int) := (Int.ofNat_tdiv r 2).symm
      obtain ⟨a, Ha⟩ : ∃ a, Hid (r % 2 = a) := ⟨_, rfl⟩
      obtain ⟨b, Hb⟩ : ∃ b, Hid (r / 2 = b) := ⟨_, rfl⟩
      rw [Ha.out] at H2 hm2 e1
      rw [Hb.out] at H2 hd2 e2
      go_wp2
      go_round
      case rel => exact ⟨b, k + a, H2, by omega, by omega, by first | rfl | (congr 1; omega), by first | go_num | (congr 1; omega)⟩
      case measure => simp [intOf]; omega
    · have h0 : r = 0 := by omega
      subst h0
      have H2 : Hid (k = bc 7 s) := Hr.out
      go_wp2
      go_ret
      exact ⟨ret_int (by rw [← H2.out]), rfl⟩
theorem fnB_false {d : Nat → Nat → Int} {far : Int} {s n v : Nat} (h : fnB d far s n v = false) : ∀ m, v ≤ m → fnB d far s n m = false := by
  intro m hm
  induction m with
  | zero => have : v = 0 := by omega
            subst this; exact h
  | succ m ih =>
    by_cases e : v = m + 1
    · subst e; exact h
    · simp only [fnB, ih (by omega)]; rfl
theorem nrB_bd (d : Nat → Nat → Int) (far : Int) (s v : Nat) : ∀ m, nrB d far s v m ≤ m
  | 0 => Nat.le_refl _
  | m + 1 => by have := nrB_bd d far s v m; simp only [nrB]; split <;> omega
theorem bc_bd : ∀ f s, bc f s ≤ f
  | 0, _ => Nat.le_refl _
  | f + 1, s => by have := bc_bd f (s / 2); simp only [bc]; omega
theorem pkB_bd (d : Nat → Nat → Int) (far : Int) (n : Nat) : ∀ S, pkB d far n S ≤ 7
  | 0 => Nat.zero_le _
  | S + 1 => by
    have := pkB_bd d far n S
    have := bc_bd 7 S
    simp only [pkB]; split <;> omega

set_option maxHeartbeats 2000000 in
theorem packX_any (w : World) (B n g0 c : Nat) (far : Int) (VR : Nat → Value) (X : Nat → Nat → Int) (hn1 : 1 ≤ n) (hn7 : n ≤ 7) (hO : Outer w B n (.slice (some ⟨g0, 0, none⟩) n c) VR) (hT : TT w B n VR (rowX X n)) :
    Calls Try.prog 73 #[.slice (some ⟨g0, 0, none⟩) n c, .int .i64 far] w fun e w' => e = .returned (.int .i64 ((pkB X far n (2 ^ n) : Nat) : Int)) ∧ w = w' := by
  have HO := Lib.hid hO
  have HT := Lib.hid hT
  have HPW := Lib.hid (power_any n w hn7)
  have hP7 : 2 ^ n ≤ 128 := (Nat.pow_le_pow_right (by omega) hn7 : 2 ^ n ≤ 2 ^ 7)
  obtain ⟨P, HP⟩ : ∃ P : Nat, Hid (2 ^ n = P) := ⟨2 ^ n, rfl⟩
  rw [HP.out] at HPW hP7 ⊢
  clear hO hT
  go_enter Try.func73, Try.ntmps73
  go_wp2
  go_loop [5, 6] (fun b s => ∃ S : Nat, S ≤ P ∧ s = .int .i64 S ∧ b = .int .i64 ((pkB X far n S : Nat) : Int)) (fun _ s => P - (intOf s).toNat)
  case atStart => exact ⟨0, Nat.zero_le _, rfl, rfl⟩
  case round =>
    obtain ⟨S, hS, rfl, rfl⟩ := hrel
    by_cases hlt : S < P
    · have hS128 : S < 128 := by omega
      obtain ⟨K, HK⟩ : ∃ K, Hid (pkB X far n S = K) := ⟨_, rfl⟩
      have hK7 := pkB_bd X far n S
      rw [HK.out] at hK7 ⊢
      go_wp2_with fail
      refine HPW.out.mono ?_
      rintro e w' ⟨rfl, rfl⟩
      go_wp2
      go_loop [7, 8] (fun f v => ∃ k : Nat, k ≤ n ∧ v = .int .i64 k ∧ f = .bool (fnB X far S n k)) (fun _ v => n - (intOf v).toNat)
      case atStart => exact ⟨0, Nat.zero_le _, rfl, rfl⟩
      case round =>
        obtain ⟨v, hv, rfl, rfl⟩ := hrel
        obtain ⟨F, HF⟩ : ∃ F, Hid (fnB X far S n v = F) := ⟨_, rfl⟩
        rw [HF.out]
        by_cases hvn : v < n
        · cases F with
          | true =>
            obtain ⟨Av, cv, ev, hrv⟩ := HT.out.row hvn
            have cc := Outer.cell HO.out hvn
            rw [ev, rowX_len] at cc
            have HRV := Lib.hid hrv
            clear ev hrv
            go_wp2
            go_loop [9, 10] (fun a i => ∃ m : Nat, m ≤ n ∧ i = .int .i64 m ∧ a = .int .i64 ((nrB X far S v m : Nat) : Int)) (fun _ i => n - (intOf i).toNat)
            case atStart => exact ⟨0, Nat.zero_le _, rfl, rfl⟩
            case round =>
              obtain ⟨m, hm, rfl, rfl⟩ := hrel
              obtain ⟨R, HR⟩ : ∃ R, Hid (nrB X far S v m = R) := ⟨_, rfl⟩
              have hR7 := nrB_bd X far S v m
              rw [HR.out] at hR7 ⊢
              by_cases hmn : m < n
              · obtain ⟨b, off, x, rfl, -, Hx, hcx⟩ := HRV.out.x (k := m) (by rw [rowX_len]; exact hmn)
                have hx := Hx.out
                rw [rowX_get X hmn] at hx
                have Hbit := Lib.hid (bit_any S m w hS128 (by omega))
                by_cases hb : S.testBit m = true
                · rw [if_pos hb] at Hbit
                  by_cases hx0 : 0 ≤ x
                  · by_cases hf : x ≤ far
                    · have hnx : Hid (nrB X far S v (m + 1) = R + 1) := by show _ = _; simp only [nrB]; rw [HR.out, if_pos ⟨hb, by rw [hx]; exact hx0, by rw [hx]; exact hf⟩]
                      clear hb hx
                      go_wp2_with fail
                      refine Hbit.out.mono ?_
                      rintro e w' ⟨rfl, rfl⟩
                      go_wp2
                      go_round
                      case rel => exact ⟨m + 1, by omega, by go_num, by rw [hnx.out]; go_num⟩
                      case measure => simp [intOf]; omega
                    · have hnx : Hid (nrB X far S v (m + 1) = R) := by show _ = _; simp only [nrB]; rw [HR.out, if_neg (by rintro ⟨_, _, h⟩; rw [hx] at h; exact hf h)]; rfl
                      clear hb hx
                      go_wp2_with fail
                      refine Hbit.out.mono ?_
                      rintro e w' ⟨rfl, rfl⟩
                      go_wp2
                      go_round
                      case rel => exact ⟨m + 1, by omega, by go_num, by rw [hnx.out]⟩
                      case measure => simp [intOf]; omega
                  · have hx0' : x < 0 := by omega
                    have hnx : Hid (nrB X far S v (m + 1) = R) := by show _ = _; simp only [nrB]; rw [HR.out, if_neg (by rintro ⟨_, h, _⟩; rw [hx] at h; exact hx0 h)]; rfl
                    clear hb hx
                    go_wp2_with fail
                    refine Hbit.out.mono ?_
                    rintro e w' ⟨rfl, rfl⟩
                    go_wp2
                    go_round
                    case rel => exact ⟨m + 1, by omega, by go_num, by rw [hnx.out]⟩
                    case measure => simp [intOf]; omega
                · rw [if_neg hb] at Hbit
                  have hnx : Hid (nrB X far S v (m + 1) = R) := by show _ = _; simp only [nrB]; rw [HR.out, if_neg (by rintro ⟨h, _⟩; exact hb h)]; rfl
                  clear hb hx
                  go_wp2_with fail
                  refine Hbit.out.mono ?_
                  rintro e w' ⟨rfl, rfl⟩
                  go_wp2
                  go_round
                  case rel => exact ⟨m + 1, by omega, by go_num, by rw [hnx.out]⟩
                  case measure => simp [intOf]; omega
              · have hmn2 : m = n := by omega
                subst hmn2
                have hnf : Hid (fnB X far S m (v + 1) = decide ((R : Int) ≤ 1)) := by
                  show _ = _
                  simp only [fnB]
                  rw [HF.out, HR.out]
                  by_cases h : R ≤ 1
                  · have : (R : Int) ≤ 1 := by omega
                    simp [h, this]
                  · have : ¬ (R : Int) ≤ 1 := by omega
                    simp [h, this]
                go_wp2
                go_round
                case rel => exact ⟨v + 1, by omega, by go_num, by rw [hnf.out]⟩
                case measure => simp [intOf]; omega
          | false =>
            have hff := Lib.hid (fnB_false HF.out n hv)
            have hpk : Hid (pkB X far n (S + 1) = K) := by show _ = _; simp only [pkB]; rw [if_neg (by rw [hff.out]; simp), HK.out]
            go_wp2
            go_round
            case rel => exact ⟨S + 1, by omega, by go_num, by rw [hpk.out]⟩
            case measure => simp [intOf]; omega
        · have hvn2 : v = n := by omega
          subst hvn2
          cases F with
          | true =>
            have Hbs := Lib.hid (bits_any S w hS128)
            have hpk : Hid (pkB X far v (S + 1) = max K (bc 7 S)) := by show _ = _; simp only [pkB]; rw [if_pos HF.out, HK.out]
            obtain ⟨C, HC⟩ : ∃ C, Hid (bc 7 S = C) := ⟨_, rfl⟩
            rw [HC.out] at Hbs hpk
            by_cases hKC : K < C
            · have hpk2 : Hid (pkB X far v (S + 1) = C) := by show _ = _; rw [hpk.out]; omega
              have hKC' : (K : Int) < (C : Int) := by omega
              go_wp2_with fail
              refine Hbs.out.mono ?_
              rintro e w' ⟨rfl, rfl⟩
              go_wp2
              go_round
              case rel => exact ⟨S + 1, by omega, by go_num, by rw [hpk2.out]⟩
              case measure => simp [intOf]; omega
            · have hpk2 : Hid (pkB X far v (S + 1) = K) := by show _ = _; rw [hpk.out]; omega
              have hKC' : ¬ (K : Int) < (C : Int) := by omega
              go_wp2_with fail
              refine Hbs.out.mono ?_
              rintro e w' ⟨rfl, rfl⟩
              go_wp2
              go_round
              case rel => exact ⟨S + 1, by omega, by go_num, by rw [hpk2.out]⟩
              case measure => simp [intOf]; omega
          | false =>
            have hpk : Hid (pkB X far v (S + 1) = K) := by show _ = _; simp only [pkB]; rw [if_neg (by rw [HF.out]; simp), HK.out]
            go_wp2
            go_round
            case rel => exact ⟨S + 1, by omega, by go_num, by rw [hpk.out]⟩
            case measure => simp [intOf]; omega
    · have hSP : S = P := by omega
      subst hSP
      go_wp2_with fail
      refine HPW.out.mono ?_
      rintro e w' ⟨rfl, rfl⟩
      go_wp2
      go_ret
      exact ⟨rfl, rfl⟩
end Go.Proofs.Ytdhelapgdgekfaa
namespace Go.Proofs.Ytdhelapgdgekfaa
open Go.ChangeShapes Go.WideShapes Go.ChangeAt Go.RowKit
set_option linter.unusedVariables false
set_option maxRecDepth 4000

theorem nearSetsT_any (w : World) (B n g0 c : Nat) (far : Int) (VR : Nat → Value) (t : List (Int × Int)) (hn1 : 1 ≤ n) (hn7 : n ≤ 7) (hO : Outer w B n (.slice (some ⟨g0, 0, none⟩) n c) VR) (hT : TT w B n VR (rowN t n)) :
    Calls Try.prog 70 #[.slice (some ⟨g0, 0, none⟩) n c, .int .i64 far] w (SetsPost (dn t n) far n w) :=
  nearSets_any w B n g0 c far VR (dn t n) hn1 hn7 hO hT
end Go.Proofs.Ytdhelapgdgekfaa
namespace Go.Proofs.Ytdhelapgdgekfaa
open Go.ChangeShapes Go.WideShapes Go.ChangeAt Go.RowKit
set_option linter.unusedVariables false
set_option maxRecDepth 4000

theorem tsm_bd {t : List (Int × Int)} {fs : List Int} (ht : Ahead t) {n a : Nat} (hn : n ≤ t.length) (hn7 : n ≤ 7) (ha : a < n) (hf : ∀ i, i < n → 0 ≤ fs.getD i 0 ∧ fs.getD i 0 ≤ 20) : ∀ m, m ≤ n → 0 ≤ tsm t fs n a m ∧ tsm t fs n a m ≤ 20000 * m
  | 0, _ => by simp [tsm]
  | m + 1, hm => by
    obtain ⟨h1, h2⟩ := tsm_bd ht hn hn7 ha hf m (by omega)
    obtain ⟨d1, d2⟩ := dn_bd ht n a m hn ha (by omega)
    obtain ⟨f1, f2⟩ := hf m (by omega)
    have m1 : 0 ≤ fs.getD m 0 * dn t n a m := Int.mul_nonneg f1 d1
    have m2 : fs.getD m 0 * dn t n a m ≤ 20 * 1000 := Int.mul_le_mul f2 (by omega) d1 (by omega)
    simp only [tsm]
    omega
theorem sValidTree_is (A : Option Addr) (c n : Nat) (ts : List (Int × Int)) (w : World) (B : Nat) (hr : RdR w B A ts) (hn : ts.length = n) (hb : n ≤ 1152921504606846976) {b : Bool} (h : vt ts = b) :
    Calls Try.prog 58 #[.slice A n c] w fun e w' => e = .returned (.bool b) ∧ w = w' := by
  subst h; exact sValidTree_in A c n ts w B hr hn hb
theorem sValidFolk_is (A : Option Addr) (c n m : Nat) (fs : List Int) (w : World) (B : Nat) (hr : RdI w B A fs) (hn : fs.length = n) (hb : n ≤ 1152921504606846976) {b : Bool} (h : fk m fs = b) :
    Calls Try.prog 83 #[.int .i64 m, .slice A n c] w fun e w' => e = .returned (.bool b) ∧ w = w' := by
  subst h; exact sValidFolk_any A c n m fs w B hr hn hb

set_option maxHeartbeats 1600000 in
theorem sTreeSum_any (A Af : Option Addr) (c n cf nf : Nat) (ts : List (Int × Int)) (fs : List Int) (a : Int) (w : World) (hr : RdR w w.heap.size A ts) (hn : ts.length = n) (hb : n ≤ 1152921504606846976)
    (hrf : RdI w w.heap.size Af fs) (hnf : fs.length = nf) (hbf : nf ≤ 1152921504606846976) (hwa : (Lit.int .i64 a).wf = true) :
    Calls Try.prog 35 #[.slice A n c, .slice Af nf cf, .int .i64 a] w fun e w' => e = .returned (.int .i64 (tsv ts fs a)) ∧ Below w.heap.size w w' := by
  by_cases hv : vt ts = true
  · obtain ⟨h1, h7, -⟩ := (vt_iff ts).1 hv
    rw [hn] at h1 h7
    have H1 := Lib.hid (sValidTree_is A c n ts w _ hr hn hb hv)
    by_cases hf : fk n fs = true
    · have H2 := Lib.hid (sValidFolk_is Af cf nf n fs w _ hrf hnf hbf hf)
      by_cases ha : a < 0 ∨ (n : Int) - 1 < a
      · have Hs := Lib.hid (tsv_no (a := a) (.inr (.inr ⟨hv, by rw [hn]; exact hf, by rw [hn]; omega⟩)))
        have w1 : IntKind.i64.wrap ((n : Int) - 1) = (n : Int) - 1 := IntWalk.i64_in _ (by omega)
        have H3 := Lib.hid (inRange_no a 0 ((n : Int) - 1) w ha)
        clear hv hf hr hrf hn hnf ha
        go_enter Try.func35, Try.ntmps35
        go_wp2_with fail
        refine H1.out.mono ?_
        rintro e w' ⟨rfl, rfl⟩
        go_wp2_with fail
        refine H2.out.mono ?_
        rintro e w' ⟨rfl, rfl⟩
        go_wp2_with fail
        refine H3.out.mono ?_
        rintro e w' ⟨rfl, rfl⟩
        go_wp2
        go_ret
        exact ⟨ret_int Hs.out.symm, Below.refl _ _⟩
      · obtain ⟨k, rfl⟩ := Int.eq_ofNat_of_zero_le (show 0 ≤ a by omega)
        have hk : k < n := by omega
        have Hs := Lib.hid (show tsv ts fs (k : Int) = tsm ts fs n k n by unfold tsv; rw [if_pos ⟨hv, by rw [hn]; exact hf, by omega, by rw [hn]; omega⟩, hn]; rfl)
        have H3 := Lib.hid (inRange_yes (k : Int) 0 ((n : Int) - 1) w (by omega) (by omega))
        have Ht := Lib.hid (treeTable_any A c n ts w hr hn hv)
        have Hn := Lib.hid hn
        have Hk := Lib.hid (fk_iff hf)
        have Hbd := Lib.hid (tsm_bd (fs := fs) (vt_ahead hv) (n := n) (a := k) (by omega) h7 hk (fk_iff hf).2)
        have Hdn := Lib.hid (fun j (hj : j < n) => dn_bd (vt_ahead hv) n k j (by omega) hk hj)
        have hnfn : nf = n := by have := (fk_iff hf).1; omega
        have Hnf := Lib.hid hnf
        subst hnfn
        clear hv hf hr ha hn hnf
        go_enter Try.func35, Try.ntmps35
        go_wp2_with fail
        refine H1.out.mono ?_
        rintro e w' ⟨rfl, rfl⟩
        go_wp2_with fail
        refine H2.out.mono ?_
        rintro e w' ⟨rfl, rfl⟩
        go_wp2_with fail
        refine H3.out.mono ?_
        rintro e w' ⟨rfl, rfl⟩
        go_wp2_with fail
        refine Ht.out.mono ?_
        rintro e w1 ⟨v, VR, rfl, hO, hT, hnx1⟩
        rw [Hn.out] at hO hT
        obtain ⟨A', c', rfl, -, -, hA⟩ := own_sliceN hO
        obtain ⟨g, rfl, -, -⟩ := hA (by omega)
        have HO := Lib.hid hO
        have HT := Lib.hid hT
        have HB1 := Lib.hid hnx1
        clear hO hT hnx1 hA
        go_wp2
        go_loopw [7, 9] (fun o i wr => ∃ m : Nat, ∃ q, m ≤ nf ∧ i = .int .i64 m ∧ o = .int .i64 (tsm ts fs nf k m) ∧ wr = w1.drewN q) (fun _ i _ => nf - (intOf i).toNat)
        case atStart => exact ⟨0, 0, Nat.zero_le _, rfl, rfl, rfl⟩
        case round =>
          obtain ⟨m, q, hm, rfl, rfl, rfl⟩ := hrel
          by_cases hlt : m < nf
          · obtain ⟨b, off, x, rfl, hbb, Hx, hcx⟩ := (hrf.below HB1.out).x (k := m) (by rw [Hnf.out]; exact hlt)
            obtain ⟨gk, ck, hvk, hck⟩ := HT.out.cells hk (k := m) (by rw [rowN_len]; exact hlt)
            have hok := Outer.cell HO.out hk
            rw [hvk, rowN_len] at hok
            rw [rowN_get ts hlt] at hck
            obtain ⟨d, Hd⟩ : ∃ d, Hid (dn ts nf k m = d) := ⟨_, rfl⟩
            have hdb := Hdn.out m hlt
            have hxb := Hk.out.2 m hlt
            have hs1 := Hbd.out m hm
            have hst : Hid (tsm ts fs nf k (m + 1) = tsm ts fs nf k m + x * d) := by
              show tsm ts fs nf k (m + 1) = _
              simp only [tsm]; rw [Hx.out, Hd.out]
            rw [Hd.out] at hck hdb
            rw [Hx.out] at hxb
            obtain ⟨S, HS⟩ : ∃ S, Hid (tsm ts fs nf k m = S) := ⟨_, rfl⟩
            rw [HS.out] at hs1 hst ⊢
            have hxd : 0 ≤ x * d := Int.mul_nonneg hxb.1 hdb.1
            have hxd2 : x * d ≤ 20 * 1000 := Int.mul_le_mul hxb.2 (by omega) hdb.1 (by omega)
            have w1' : IntKind.i64.wrap (x * d) = x * d := IntWalk.i64_in _ (by omega)
            have w2' : IntKind.i64.wrap (S + x * d) = S + x * d := IntWalk.i64_in _ (by omega)
            clear hvk
            go_wp2
            go_quiet (fail)
            clear w1' w2'
            go_wp2
            go_roundw
            case rel => exact ⟨m + 1, _, by omega, by go_num, by rw [hst.out], rfl⟩
            case measure => simp [intOf]; omega
          · have hmn : m = nf := by omega
            subst hmn
            go_wp2
            go_ret
            exact ⟨ret_int Hs.out.symm, below_drewN HB1.out _⟩
    · have hf' : fk n fs = false := by simpa using hf
      have Hs := Lib.hid (tsv_no (a := a) (.inr (.inl ⟨hv, by rw [hn]; exact hf'⟩)))
      have H2 := Lib.hid (sValidFolk_is Af cf nf n fs w _ hrf hnf hbf hf')
      clear hv hf hf' hr hrf hn hnf
      go_enter Try.func35, Try.ntmps35
      go_wp2_with fail
      refine H1.out.mono ?_
      rintro e w' ⟨rfl, rfl⟩
      go_wp2_with fail
      refine H2.out.mono ?_
      rintro e w' ⟨rfl, rfl⟩
      go_wp2
      go_ret
      exact ⟨ret_int Hs.out.symm, Below.refl _ _⟩
  · have hv' : vt ts = false := by simpa using hv
    have Hs := Lib.hid (tsv_no (fs := fs) (a := a) (.inl hv'))
    have H1 := Lib.hid (sValidTree_is A c n ts w _ hr hn hb hv')
    clear hv hv' hr hrf hn hnf
    go_enter Try.func35, Try.ntmps35
    go_wp2_with fail
    refine H1.out.mono ?_
    rintro e w' ⟨rfl, rfl⟩
    go_wp2
    go_ret
    exact ⟨ret_int Hs.out.symm, Below.refl _ _⟩
end Go.Proofs.Ytdhelapgdgekfaa
namespace Go.Proofs.Ytdhelapgdgekfaa
open Go.ChangeShapes Go.WideShapes Go.ChangeAt Go.RowKit
set_option linter.unusedVariables false
set_option maxRecDepth 4000

theorem packing_any (w : World) (B n g0 c : Nat) (far : Int) (VR : Nat → Value) (t : List (Int × Int)) (ht : Ahead t) (hnt : n ≤ t.length) (hn1 : 1 ≤ n) (hn7 : n ≤ 7) (hO : Outer w B n (.slice (some ⟨g0, 0, none⟩) n c) VR) (hT : TT w B n VR (rowN t n)) :
    Calls Try.prog 73 #[.slice (some ⟨g0, 0, none⟩) n c, .int .i64 far] w fun e w' => e = .returned (.int .i64 ((pkB (dn t n) far n (2 ^ n) : Nat) : Int)) ∧ w = w' :=
  packX_any w B n g0 c far VR (dn t n) hn1 hn7 hO hT
end Go.Proofs.Ytdhelapgdgekfaa
