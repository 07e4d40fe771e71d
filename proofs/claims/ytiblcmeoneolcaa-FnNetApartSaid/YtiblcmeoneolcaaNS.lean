/-
  The program's sets of near nodes over a table, and the most of them without a common one.
  Conditions: at most seven nodes.
-/
import Derived.Test.YtiblcmeoneolcaaUG
import Derived.Test.YtiblcmeoneolcaaB6
import Derived.Test.YtiblcmeoneolcaaT8
import Derived.Test.YtiblcmeoneolcaaE0
import Derived.Deep.RegionWith
namespace Go.Proofs.Ytiblcmeoneolcaa
open Go.ChangeShapes Go.WideShapes Go.ChangeAt Go.RowKit
set_option linter.unusedVariables false
set_option maxRecDepth 4000

/-- The nodes below m that have a way of at most far from node i, as bits. -/
def nmk (d : Nat → Nat → Int) (far : Int) (i : Nat) : Nat → Nat
  | 0 => 0
  | m + 1 => if ¬ d i m = -1 ∧ d i m ≤ far then nmk d far i m ||| 2 ^ m else nmk d far i m
theorem nmk_lt (d : Nat → Nat → Int) (far : Int) (i : Nat) : ∀ m, nmk d far i m < 2 ^ m
  | 0 => by simp [nmk]
  | m + 1 => by
    have h := nmk_lt d far i m
    have h2 : 2 ^ m < 2 ^ (m + 1) := Nat.pow_lt_pow_right (by omega) (by omega)
    simp only [nmk]
    split
    · exact Nat.or_lt_two_pow (by omega) h2
    · omega
theorem nmk_bit (d : Nat → Nat → Int) (far : Int) (i : Nat) : ∀ m v, (nmk d far i m).testBit v = true ↔ v < m ∧ ¬ d i v = -1 ∧ d i v ≤ far
  | 0, v => by simp [nmk]
  | m + 1, v => by
    have h := nmk_bit d far i m v
    simp only [nmk]
    split
    · rename_i hd
      rw [Nat.testBit_or, Bool.or_eq_true, h, Nat.testBit_two_pow]
      simp only [decide_eq_true_eq]
      constructor
      · rintro (⟨h1, h2⟩ | rfl)
        · exact ⟨by omega, h2⟩
        · exact ⟨by omega, hd⟩
      · rintro ⟨h1, h2⟩
        by_cases e : m = v
        · exact .inr e
        · exact .inl ⟨by omega, h2⟩
    · rename_i hd
      rw [h]
      constructor
      · rintro ⟨h1, h2⟩; exact ⟨by omega, h2⟩
      · rintro ⟨h1, h2⟩
        by_cases e : v = m
        · subst e; exact absurd h2 hd
        · exact ⟨by omega, h2⟩
theorem or_u64 : ∀ s : Fin 128, ∀ i : Fin 7, bits BinOp.or IntKind.u64 (s.val : Int) ((2 ^ i.val : Nat) : Int) = ((s.val ||| 2 ^ i.val : Nat) : Int) := by decide +kernel
theorem wrap_pow : ∀ i : Fin 7, IntKind.u64.wrap ((2 : Int) ^ i.val) = ((2 ^ i.val : Nat) : Int) := by decide +kernel
theorem wrap_pow8 : ∀ i : Fin 8, IntKind.u64.wrap ((2 : Int) ^ i.val) = ((2 ^ i.val : Nat) : Int) := by decide +kernel
theorem bc_le : ∀ f s, bc f s ≤ f
  | 0, _ => Nat.le_refl _
  | f + 1, s => by have := bc_le f (s / 2); simp only [bc]; omega
theorem or2_u64 : ∀ s : Fin 128, ∀ t : Fin 128, bits BinOp.or IntKind.u64 (s.val : Int) (t.val : Int) = ((s.val ||| t.val : Nat) : Int) := by decide +kernel
theorem and2_u64 : ∀ s : Fin 128, ∀ t : Fin 128, bits BinOp.and IntKind.u64 (s.val : Int) (t.val : Int) = ((s.val &&& t.val : Nat) : Int) := by decide +kernel
theorem vfar_any (x : Int) (w : World) : Calls Try.prog 67 #[.int .i64 x] w fun e w' => e = .returned (.bool (decide (0 ≤ x) && decide (x ≤ 50))) ∧ w = w' := by
  by_cases h1 : 0 ≤ x <;> by_cases h2 : x ≤ 50
  all_goals
    go_enter Try.func67, Try.ntmps67
    go_wp2
    go_ret
    exact ⟨ret_bool (by simp [h1, h2]), rfl⟩
theorem farOk_yes (x : Int) (w : World) (h1 : 0 ≤ x) (h2 : x ≤ 50) : Calls Try.prog 67 #[.int .i64 x] w fun e w' => e = .returned (.bool true) ∧ w = w' :=
  (vfar_any x w).mono fun _ _ ⟨he, hw⟩ => ⟨by rw [he]; simp [h1, h2], hw⟩
theorem farOk_no (x : Int) (w : World) (h : x < 0 ∨ 50 < x) : Calls Try.prog 67 #[.int .i64 x] w fun e w' => e = .returned (.bool false) ∧ w = w' :=
  (vfar_any x w).mono fun _ _ ⟨he, hw⟩ => ⟨by rw [he]; rcases h with h | h <;> simp <;> omega, hw⟩
def Ms (d : Nat → Nat → Int) (far : Int) (n i m : Nat) : List Value := (List.range n).map fun j => .int .u64 ((if j < i then nmk d far j n else if j = i then nmk d far i m else 0 : Nat) : Int)
theorem Ms_len (d : Nat → Nat → Int) (far : Int) (n i m : Nat) : (Ms d far n i m).length = n := by simp [Ms]
theorem Ms_get {d : Nat → Nat → Int} {far : Int} {n i m : Nat} (hi : i < n) : (Ms d far n i m)[i]? = some (.int .u64 (nmk d far i m : Nat)) := by simp [Ms, hi]
theorem Ms_set {d : Nat → Nat → Int} {far : Int} {n i m : Nat} (hi : i < n) : (Ms d far n i m).set i (.int .u64 (nmk d far i (m + 1) : Nat)) = Ms d far n i (m + 1) := by
  unfold Ms
  apply List.ext_getElem?
  intro j
  rw [List.getElem?_set]
  by_cases hj : j < n
  · by_cases e : i = j
    · subst e; simp [hi]
    · simp [hj, e, show ¬ j = i from fun h => e h.symm]
  · simp [hj]; omega
theorem Ms_next {d : Nat → Nat → Int} {far : Int} {n i : Nat} : Ms d far n i n = Ms d far n (i + 1) 0 := by
  unfold Ms
  refine List.map_congr_left fun j hj => ?_
  by_cases h1 : j < i
  · rw [if_pos h1, if_pos (by omega)]
  · by_cases h2 : j = i
    · subst h2; rw [if_neg h1, if_pos rfl, if_pos (by omega)]
    · rw [if_neg h1, if_neg h2, if_neg (by omega)]
      by_cases h3 : j = i + 1
      · rw [if_pos h3]; rfl
      · rw [if_neg h3]
theorem uInfo : (Try.prog.info? 65).map (fun i => (i.zero, i.size, i.bytes)) = some (some (.int .u64 0), 1, 8) := by kernel_rfl
def SetsPost (d : Nat → Nat → Int) (far : Int) (n : Nat) (w : World) (e : Ending) (w' : World) : Prop :=
  ∃ g, e = .returned (.slice (some ⟨g, 0, none⟩) n n) ∧ w'.ownsRow w.heap.size 65 1 (.slice (some ⟨g, 0, none⟩) n n) n (Ms d far n n 0) ∧ Below w.heap.size w w'
set_option maxHeartbeats 1600000 in
theorem nearSets_any (w : World) (B n g0 c : Nat) (far : Int) (VR : Nat → Value) (X : Nat → Nat → Int) (hn1 : 1 ≤ n) (hn7 : n ≤ 7) (hO : Outer w B n (.slice (some ⟨g0, 0, none⟩) n c) VR) (hT : TT w B n VR (rowX X n)) :
    Calls Try.prog 68 #[.slice (some ⟨g0, 0, none⟩) n c, .int .i64 far] w (SetsPost X far n w) := by
  obtain ⟨iu, hiu, hzu0, hzu1, hzu2⟩ := info_parts uInfo
  have HO := Lib.hid hO
  have HT := Lib.hid hT
  clear hO hT
  have hbi : iu.bytes * n ≤ 281474976710656 := by rw [hzu2]; omega
  have hml : n ≤ maxLen := by unfold maxLen; omega
  go_enter Try.func68, Try.ntmps68
  go_wp2_with (at_make; refine wpList_make_full _ rfl _ _ 63 rfl w.heap.size 65 iu _ 1 Try.underlying63 hiu hzu0 hzu1 _ _ _ _ n rfl rfl rfl rfl hbi hml (Nat.le_refl _) ?_; intro w1 hown1 hg1)
  have hb1 : Below w.heap.size w w1 := (Below.refl _ _).grown hg1 (Nat.le_refl _) (fun j hj => by cases hj)
  have ho1 : w1.ownsRow w.heap.size 65 1 (.slice (some ⟨w.heap.size, 0, none⟩) n n) n (Ms X far n 0 0) := by
    rw [Nat.mul_one] at hown1
    have e : (madeCells (Value.int .u64 0).cells n).toList = Ms X far n 0 0 := by
      rw [show (Value.int .u64 0).cells = #[Value.int .u64 0] from rfl, toList_madeCells_one]
      unfold Ms
      apply List.ext_getElem?
      intro i
      by_cases hi : i < n
      · by_cases h0 : i = 0
        · subst h0; simp [hi, nmk]
        · simp [hi, h0]
      · simp [hi]
    rw [← e]; exact hown1
  obtain ⟨G, HG⟩ : ∃ G, Hid (w.heap.size = G) := ⟨_, rfl⟩
  have hGB : w.heap.size ≤ G := Nat.le_of_eq HG.out
  rw [HG.out] at ho1
  rw [HG.out]
  rw [← HG.out] at ho1
  have ho2 : w1.ownsRow w.heap.size 65 1 (.slice (some ⟨G, 0, none⟩) n n) n (Ms X far n 0 0) := by rw [← HG.out]; exact ho1
  have HO1 := Lib.hid ho2
  have HB1 := Lib.hid hb1
  clear hown1 hg1 ho1 hb1 ho2
  go_loopw [15] (fun i wr => ∃ k : Nat, k ≤ n ∧ i = .int .i64 k ∧ wr.ownsRow w.heap.size 65 1 (.slice (some ⟨G, 0, none⟩) n n) n (Ms X far n k 0) ∧ Below w.heap.size w wr) (fun i _ => n - (intOf i).toNat)
  case atStart => exact ⟨0, by omega, rfl, HO1.out, HB1.out⟩
  case round =>
    clear HO1 HB1
    obtain ⟨k, hk, rfl, hown, hnx⟩ := hrel
    by_cases hlt : k < n
    · obtain ⟨Ak, ck, ek, hrk⟩ := HT.out.row hlt
      have cc := (hnx.cell (p := ⟨g0, k, none⟩) (own_heap HO.out (g := g0) rfl).2.2).trans (Outer.cell HO.out hlt)
      rw [ek, rowX_len] at cc
      have HRK := Lib.hid hrk
      have HOW := Lib.hid hown
      have HNX := Lib.hid hnx
      clear ek hrk hown hnx
      go_wp2
      go_loopw [22] (fun i wr => ∃ m : Nat, m ≤ n ∧ i = .int .i64 m ∧ wr.ownsRow w.heap.size 65 1 (.slice (some ⟨G, 0, none⟩) n n) n (Ms X far n k m) ∧ Below w.heap.size w wr) (fun i _ => n - (intOf i).toNat)
      case atStart => exact ⟨0, by omega, rfl, HOW.out, HNX.out⟩
      case round =>
        clear HOW HNX cc
        obtain ⟨m, hm, rfl, hown, hnx⟩ := hrel
        by_cases hlm : m < n
        · obtain ⟨b, off, x, rfl, -, Hx, hcx⟩ := (HRK.out.below hnx).x (k := m) (by rw [rowX_len]; exact hlm)
          have hx := Hx.out
          rw [rowX_get X hlm] at hx
          by_cases hd : ¬ x = -1 ∧ x ≤ far
          · have hx1 : (x != -1) = true := by rw [bne_iff_ne]; exact hd.1
            have hd2 := hd.2
            have cs : _ = some (Value.int .u64 (nmk X far k m : Nat)) := (hown.cellAt k (by omega)).trans (Ms_get hlt)
            have fs := hown.frozenAt k
            have h128 : nmk X far k m < 128 := pow_128 (by omega) (nmk_lt _ _ _ _)
            have hor := or_u64 ⟨nmk X far k m, h128⟩ ⟨m, by omega⟩
            have hst := (hown.stored k (.int .u64 (nmk X far k (m + 1) : Nat)))
            rw [Ms_set hlt] at hst
            have hnk : Hid (nmk X far k (m + 1) = nmk X far k m ||| 2 ^ m) := by show _ = _; simp only [nmk]; rw [if_pos (by rw [hx]; exact hd)]
            simp only at hor
            obtain ⟨S, HS⟩ : ∃ S, Hid (nmk X far k m = S) := ⟨_, rfl⟩
            rw [HS.out] at cs hor hnk
            have hval : bits BinOp.or IntKind.u64 (S : Int) (IntKind.u64.wrap ((2 : Int) ^ m)) = ((nmk X far k (m + 1) : Nat) : Int) := by
              rw [wrap_pow ⟨m, by omega⟩, hor, hnk.out]
            rw [← hval] at hst
            have HST := Lib.hid hst.1
            have HB2 := Lib.hid (hnx.grown hst.2 hnx.size (fun j e => by injection e with e; omega))
            clear hst hown hnx hx hor hval hd
            go_wp2
            go_region
            go_wp2
            go_roundw
            case rel => exact ⟨m + 1, by omega, by go_num, HST.out, HB2.out.drew⟩
            case measure => simp [intOf]; omega
          · have hnk : Hid (Ms X far n k (m + 1) = Ms X far n k m) := by
              have hz : nmk X far k (m + 1) = nmk X far k m := by simp only [nmk]; rw [if_neg (by rw [hx]; exact hd)]
              show _ = _
              unfold Ms
              refine List.map_congr_left fun j _ => ?_
              by_cases e : j = k
              · rw [e, hz]
              · rw [if_neg e, if_neg e]
            have HOW := Lib.hid hown
            have HNX := Lib.hid hnx
            clear hown hnx hx
            by_cases h1 : x = -1
            · subst h1
              go_wp2
              go_roundw
              case rel => exact ⟨m + 1, by omega, by go_num, by rw [hnk.out]; exact HOW.out, HNX.out⟩
              case measure => simp [intOf]; omega
            · have hx1 : (x != -1) = true := by rw [bne_iff_ne]; exact h1
              have hd2 : ¬ x ≤ far := fun h => hd ⟨h1, h⟩
              go_wp2
              go_roundw
              case rel => exact ⟨m + 1, by omega, by go_num, by rw [hnk.out]; exact HOW.out, HNX.out⟩
              case measure => simp [intOf]; omega
        · have hmn : m = n := by omega
          subst hmn
          rw [Ms_next] at hown
          have HOW := Lib.hid hown
          have HNX := Lib.hid hnx
          clear hown hnx
          go_wp2
          go_roundw
          case rel => exact ⟨k + 1, by omega, by go_num, HOW.out, HNX.out⟩
          case measure => simp [intOf]; omega
    · have hkn : k = n := by omega
      subst hkn
      have HOW := Lib.hid hown
      have HNX := Lib.hid hnx
      clear hown hnx
      go_wp2
      go_ret
      exact ⟨G, rfl, HOW.out, HNX.out⟩
/-- The slice with address A reads as the sets N k, .. (m of them), at offset off. -/
def RdU (w : World) (A : Option Addr) (N : Nat → Nat) (k m : Nat) : Prop := 0 < m → ∃ b off, A = some ⟨b, off, none⟩ ∧ ∀ i, i < m → w.cell? ⟨b, off + i, none⟩ = some (.int .u64 (N (k + i) : Nat))
set_option maxHeartbeats 600000 in
theorem mostW_any (N : Nat → Nat) (hN : ∀ i, N i < 128) : ∀ (m k T c : Nat) (A : Option Addr) (w : World), RdU w A N k m → m ≤ c → m ≤ 7 → T < 128 →
    Calls Try.prog 72 #[.slice A m c, .int .u64 T] w fun e w' => e = .returned (.int .i64 (mw N m k T : Nat)) ∧ ∃ q, w' = w.drewN q
  | 0, k, T, c, A, w, _, _, _, _ => by
    go_enter Try.func72, Try.ntmps72
    go_wp2
    go_ret
    exact ⟨rfl, 0, rfl⟩
  | m + 1, k, T, c, A, w, hr, hc, h7, hT => by
    obtain ⟨b, off, rfl, hcell⟩ := hr (by omega)
    have c0 := hcell 0 (by omega)
    rw [Nat.add_zero, Nat.add_zero] at c0
    obtain ⟨A2, hA2, hrest⟩ : ∃ A2 : Option Addr, ((c = 1 ∧ m = 0 ∧ A2 = some ⟨b, off, none⟩) ∨ (¬ c = 1 ∧ A2 = some ⟨b, off + 1, none⟩)) ∧ ∀ q, RdU (w.drewN q) A2 N (k + 1) m := by
      by_cases hc1 : c = 1
      · exact ⟨_, .inl ⟨hc1, by omega, rfl⟩, fun q hm => by omega⟩
      · refine ⟨_, .inr ⟨hc1, rfl⟩, fun q hm => ⟨b, off + 1, rfl, fun i hi => ?_⟩⟩
        have := hcell (i + 1) (by omega)
        rw [show off + (i + 1) = off + 1 + i by omega, show k + (i + 1) = k + 1 + i by omega] at this
        exact this
    have hand := and2_u64 ⟨N k, hN k⟩ ⟨T, hT⟩
    have hor := or2_u64 ⟨T, hT⟩ ⟨N k, hN k⟩
    simp only at hand hor
    have hT2 : T ||| N k < 128 := Nat.or_lt_two_pow (n := 7) hT (hN k)
    have ih1 := mostW_any N hN m (k + 1) T (c - 1) A2 w (hrest 0) (by omega) (by omega) hT
    have ih2 := fun q => mostW_any N hN m (k + 1) (T ||| N k) (c - 1) A2 (w.drewN q) (hrest q) (by omega) (by omega) hT2
    have b1 := mw_bd N m (k + 1) T
    have b2 := mw_bd N m (k + 1) (T ||| N k)
    have hz : (((m + 1 : Nat) : Int) == 0) = false := by rw [beq_eq_false_iff_ne]; omega
    have H1 := Lib.hid ih1
    have H2 := Lib.hid ih2
    obtain ⟨M1, HM1⟩ : ∃ M, Hid (mw N m (k + 1) T = M) := ⟨_, rfl⟩
    obtain ⟨M2, HM2⟩ : ∃ M, Hid (mw N m (k + 1) (T ||| N k) = M) := ⟨_, rfl⟩
    have hmw0 : Hid (mw N (m + 1) k T = if N k &&& T = 0 then max M1 (1 + M2) else M1) := by show _ = _; simp only [mw]; rw [HM1.out, HM2.out]
    rw [HM1.out] at H1 b1
    rw [HM2.out] at H2 b2
    clear ih1 ih2 hrest hcell hr
    by_cases hd : N k &&& T = 0
    · rw [hd] at hand
      have hmw : Hid (mw N (m + 1) k T = max M1 (1 + M2)) := by show _ = _; rw [hmw0.out, if_pos hd]
      have hS1 : bits BinOp.and IntKind.u64 (N k : Int) (T : Int) = 0 := hand
      clear hand hd hmw0
      have w1' : IntKind.i64.wrap (1 + (M2 : Int)) = 1 + (M2 : Int) := IntWalk.i64_in _ (by omega)
      rcases hA2 with ⟨rfl, rfl, rfl⟩ | ⟨hc1, rfl⟩
      all_goals
        go_enter Try.func72, Try.ntmps72
        go_wp2_with fail
        refine H1.out.mono ?_
        rintro e w1 ⟨rfl, q1, rfl⟩
        have Hd := Lib.hid (H2.out (q1 + 1))
        have Hdr : Hid ((w.drewN q1).drew = w.drewN (q1 + 1)) := rfl
        have cq : ∀ a, (w.drewN a).cell? ⟨b, off, none⟩ = some (.int .u64 (N k : Nat)) := fun a => c0
        have cq2 : (w.drewN q1).drew.cell? ⟨b, off, none⟩ = some (.int .u64 (N k : Nat)) := c0
        go_wp2
        go_region_with (
          go_at_call 72
          refine Hd.out.mono ?_
          rintro e wz ⟨rfl, q3, rfl⟩)
        all_goals
          go_wp2
          all_goals
            go_ret
            refine ⟨ret_int (Eq.trans (b := ((max M1 (1 + M2) : Nat) : Int)) ?_ (congrArg (fun x : Nat => (x : Int)) hmw.out.symm)), _, rfl⟩
            rw [Nat.max_def]
            split <;> omega
    · have hmw : Hid (mw N (m + 1) k T = M1) := by show _ = _; rw [hmw0.out, if_neg hd]
      have hne : (((N k &&& T : Nat) : Int) == 0) = false := by rw [beq_eq_false_iff_ne]; omega
      clear hmw0
      rcases hA2 with ⟨rfl, rfl, rfl⟩ | ⟨hc1, rfl⟩
      all_goals
        go_enter Try.func72, Try.ntmps72
        go_wp2_with fail
        refine H1.out.mono ?_
        rintro e w1 ⟨rfl, q1, rfl⟩
        go_wp2
        go_ret
        exact ⟨ret_int (by rw [hmw.out]), _, rfl⟩
end Go.Proofs.Ytiblcmeoneolcaa
