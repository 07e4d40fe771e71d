/-
  slices.Grow and slices.Concat at two lists of places.
  Conditions: at most a hundred places.
-/
import Derived.Test.Ythphboeboiallab0U
import Derived.Lib.AppendZeros
import Derived.Laws.AppendOwnNone
namespace Go.Proofs.Ythphboeboiallab
open Go.ChangeShapes Go.WideShapes Go.ChangeAt Go.RowKit
set_option linter.unusedVariables false
set_option maxRecDepth 4000

/-- A list of ints, wherever it lies. -/
structure PartQ (w : World) (A : Option Addr) (n c : Nat) (xs : List Int) : Prop where
  rd : RdI w w.heap.size A xs
  len : xs.length = n
  nz : A = none → n = 0 ∧ c = 0
  at_ : ∀ a, A = some a → ∃ b off, a = ⟨b, off, none⟩
theorem PartQ.later {w w' : World} {A : Option Addr} {n c : Nat} {xs : List Int} (h : PartQ w A n c xs) (hb : Below w.heap.size w w') : PartQ w' A n c xs := ⟨(h.rd.below hb).more hb.size, h.len, h.nz, h.at_⟩
/-- It is put behind a row of the call's own. -/
theorem wpList_append_partQ {w : World} {ops : Array Oper} {rest : List Oper} {o : Oper} {a : Act} {Q : Exit → Act → World → Prop} {i0 : TypeInfo} (hi0 : Try.prog.info? 3 = some i0) (hz0 : i0.zero = some (.int .i64 0)) (hz1 : i0.size = 1) (hz2 : i0.bytes = 8)
    (hgd : o.guard = none) (s x : Operand) (ho : o.op = .call { callee := .builtin .append, args := #[s, x], argTypes := #[23, 23] }) (base : Nat) (v : Value) (L : Nat) (zs : List Int) (hs : a.eval s = v)
    (hown : w.ownsRow base 3 1 v L (zs.map (Value.int .i64))) (hv : v ≠ .slice none 0 0) (A : Option Addr) (n c : Nat) (xs : List Int) (hx : a.eval x = .slice A n c) (hp : PartQ w A n c xs) (hl : L ≤ 1000) (hn : n ≤ 1000) (hbase : base ≤ w.heap.size)
    (h : ∀ v' w', w'.ownsRow base 3 1 v' (L + n) ((zs ++ xs).map (Value.int .i64)) → v' ≠ .slice none 0 0 → Below base w w' → wpList Try.prog ops Q rest (a.put o.dst v') w') : wpList Try.prog ops Q (o :: rest) a w := by
  cases A with
  | none =>
    obtain ⟨rfl, rfl⟩ := hp.nz rfl
    have hxs : xs = [] := List.length_eq_zero_iff.1 hp.len
    subst hxs
    exact wpList_append_own_none hgd s x 23 ho base 3 i0 1 Try.underlying23 hi0 v L _ hs hown hx (h v w (by simpa using hown) hv (Below.refl _ _))
  | some ad =>
    obtain ⟨b, off, rfl⟩ := hp.at_ ad rfl
    refine wpList_append_own w hgd s x 23 ho base 3 i0 (.int .i64 0) 1 8 Try.underlying23 hi0 hz0 hz1 hz2 rfl (by decide) v L _ hs hown ⟨b, off, none⟩ n c (xs.map (Value.int .i64)) hx (by rw [List.length_map, hp.len, Nat.mul_one]) ?_ ?_ (by unfold maxLen; omega) (by omega) hbase ?_
    · intro j u hj
      rw [List.getElem?_map] at hj
      obtain ⟨y, hy, rfl⟩ := Option.map_eq_some_iff.1 hj
      have hjl : j < xs.length := (List.getElem?_eq_some_iff.1 hy).1
      obtain ⟨b', o', e', -, hc⟩ := hp.rd.at_ hjl
      injection e' with e'
      injection e' with e1 e2
      subst e1 e2
      rw [show (⟨b, off, none⟩ : Addr).add j = ⟨b, off + j, none⟩ by unfold Addr.add; split <;> simp_all, hc]
      simp [List.getD, hy]
    · intro u hu
      obtain ⟨y, _, rfl⟩ := List.mem_map.1 hu
      rfl
    · intro v' w' hown' hg hnil
      refine h v' w' (by rw [List.map_append]; exact hown') (fun e => hv ((hnil.1 e).1)) ((Below.refl _ _).grown hg hbase fun k hk => ?_)
      obtain ⟨-, h2⟩ := hown
      rcases h2 with ⟨h2, -⟩ | ⟨g, cap, cur, h2, h3, -⟩
      · exact absurd h2 hv
      · rw [h2] at hk
        injection hk with hk
        rw [← hk]; exact h3
def GrowPost (w : World) (e : Ending) (w' : World) : Prop := ∃ v, e = .returned v ∧ Hid (w'.ownsRow w.heap.size 3 1 v 0 []) ∧ Hid (v ≠ .slice none 0 0) ∧ Hid (Below w.heap.size w w')
theorem growQ_any (s : Nat) (w : World) (h1 : 1 ≤ s) (h2 : s ≤ 1000) : Calls Try.prog 79 #[.slice none 0 0, .int .i64 (s : Int)] w (GrowPost w) := by
  obtain ⟨i0, hi0, hz0, hz1, hz2⟩ := info_parts intInfo
  obtain ⟨nc, Hnc⟩ : ∃ nc, Hid (grownCap w s 0 3 = nc) := ⟨_, rfl⟩
  have hn1 : s ≤ nc := by rw [← Hnc.out]; exact grownCap_ge _ _ _ _
  have hn2 : nc ≤ maxLen := by rw [← Hnc.out]; exact grownCap_le_maxLen w s 0 3 (by unfold maxLen; omega)
  obtain ⟨Z, HZ⟩ : ∃ Z : Array Value, Hid (Builtin.zeroCells (Value.int .i64 0).cells s ++ Builtin.zeroCells (Value.int .i64 0).cells (nc - s) = Z) := ⟨_, rfl⟩
  have hrun : ∀ ty, (Builtin.append_ #[23, 3] ty #[.slice none 0 0, .int .i64 (s : Int)]).run Try.prog w = .ok (.slice (some ⟨w.heap.size, 0, none⟩) s nc) (w.drew.alloc (.cells Z 3)) := fun ty => by
    rw [← HZ.out, ← Hnc.out]
    exact Lib.run_append_nil_zeros w 23 3 ty 3 i0 _ .i64 .i64 Try.underlying23 Try.underlying3 hi0 hz0 s (by omega) (by rw [hz1]; omega) (by omega) (by rw [hz2]; omega)
  have hZs : Z.size = nc * 1 := by rw [← HZ.out]; simp [Builtin.zeroCells, Value.cells]; omega
  have HE : Hid (GrowPost w (.returned (.slice (some ⟨w.heap.size, 0, none⟩) 0 nc)) (w.drew.alloc (.cells Z 3))) :=
    ⟨_, rfl, World.ownsRow_made w.drew Z nc (Nat.le_refl _) hn2 hZs, (by intro h; cases h), (Below.refl _ _).drew.alloc (Nat.le_refl _) _⟩
  have hs0 : (0 : Int) < (s : Int) := by omega
  have hs1 : ¬ (s : Int) < 0 := by omega
  have hnc0 : (0 : Int) ≤ (nc : Int) := by omega
  clear hZs hn2
  go_enter Try.func79, Try.ntmps79
  go_wp2_with (at_builtin; refine Lib.wpList_append_run _ rfl _ _ _ _ rfl _ _ rfl rfl _ _ (hrun _) ?_)
  go_ret
  exact HE.out
def szQ (n0 n1 : Nat) : Nat → Nat
  | 0 => 0
  | 1 => n0
  | _ => n0 + n1
def ccQ (xs ys : List Int) : Nat → List Int
  | 0 => []
  | 1 => xs
  | _ => xs ++ ys
theorem ccQ_len {xs ys : List Int} {n0 n1 : Nat} (h0 : xs.length = n0) (h1 : ys.length = n1) : ∀ k, (ccQ xs ys k).length = szQ n0 n1 k
  | 0 => rfl
  | 1 => h0
  | k + 2 => by simp [ccQ, szQ, h0, h1]
def CcRel (xs ys : List Int) (n0 n1 B : Nat) (w : World) (v i : Value) (wr : World) : Prop :=
  ∃ k u, u = v ∧ k ≤ 2 ∧ i = .int .i64 ((k : Nat) : Int) ∧ Hid (wr.ownsRow B 3 1 u (szQ n0 n1 k) ((ccQ xs ys k).map (Value.int .i64))) ∧ Hid (u ≠ .slice none 0 0) ∧ Hid (Below w.heap.size w wr)
set_option maxHeartbeats 1600000 in
theorem concatQ_any (vb vc n0 c0 n1 c1 : Nat) (A0 A1 : Option Addr) (xs ys : List Int) (w : World) (h0 : PartQ w A0 n0 c0 xs) (h1 : PartQ w A1 n1 c1 ys) (hs1 : 1 ≤ n0 + n1) (hs2 : n0 + n1 ≤ 100)
    (hv : w.heap[vb]? = some (.cells #[.slice A0 n0 c0, .slice A1 n1 c1] 23 (0, 0))) :
    Calls Try.prog 67 #[.slice (some ⟨vb, 0, none⟩) 2 vc] w (RowQ (xs ++ ys) w) := by
  obtain ⟨i0, hi0, hz0, hz1, hz2⟩ := info_parts intInfo
  have H0 := Lib.hid h0
  have H1 := Lib.hid h1
  have HL := Lib.hid (ccQ_len h0.len h1.len)
  have hvlt : vb < w.heap.size := by
    rcases Nat.lt_or_ge vb w.heap.size with h | h
    · exact h
    · rw [Array.getElem?_eq_none h] at hv; cases hv
  have HV : Hid (∀ W, Below w.heap.size w W → W.cell? ⟨vb, 0, none⟩ = some (.slice A0 n0 c0) ∧ W.cell? ⟨vb, 1, none⟩ = some (.slice A1 n1 c1)) := fun W hb =>
    ⟨(hb.cell (p := ⟨vb, 0, none⟩) hvlt).trans ((cell_of_row _ _ _ _ _ _ hv).trans rfl), (hb.cell (p := ⟨vb, 1, none⟩) hvlt).trans ((cell_of_row _ _ _ _ _ _ hv).trans rfl)⟩
  have HG := Lib.hid (growQ_any (n0 + n1) w hs1 (by omega))
  have hw1 : IntKind.i64.wrap ((n0 : Int) + (n1 : Int)) = (n0 : Int) + (n1 : Int) := IntWalk.i64_in _ (by omega)
  have hn0 : n0 ≤ 100 := by omega
  have hn1 : n1 ≤ 100 := by omega
  have l0 := (HV.out w (Below.refl _ _)).1
  have l1 := (HV.out w (Below.refl _ _)).2
  clear h0 h1 hv
  go_enter Try.func67, Try.ntmps67
  go_wp2
  go_loop [3, 11] (fun s i => ∃ k, k ≤ 2 ∧ i = .int .i64 ((k : Nat) : Int) ∧ s = .int .i64 ((szQ n0 n1 k : Nat) : Int)) (fun _ i => 2 - (intOf i).toNat)
  case atStart => exact ⟨0, by omega, rfl, rfl⟩
  case round =>
    obtain ⟨k, hk, rfl, rfl⟩ := hrel
    by_cases hk2 : k < 2
    · rcases (show k = 0 ∨ k = 1 by omega) with rfl | rfl
      · have hb : ¬ (n0 : Int) < 0 := by omega
        have e0 : szQ n0 n1 0 = 0 := rfl
        rw [e0]
        clear e0
        go_wp2
        go_round
        case rel => exact ⟨1, by omega, rfl, by simp [szQ]⟩
        case measure => simp [intOf]
      · have hb : ¬ (n0 : Int) + (n1 : Int) < 0 := by omega
        have e0 : szQ n0 n1 1 = n0 := rfl
        rw [e0]
        clear e0
        go_wp2
        go_round
        case rel => exact ⟨2, by omega, rfl, by simp [szQ]⟩
        case measure => simp [intOf]
    · obtain rfl : k = 2 := by omega
      have e0 : ((szQ n0 n1 2 : Nat) : Int) = ((n0 + n1 : Nat) : Int) := rfl
      rw [e0]
      clear e0 l0 l1
      go_wp2_with fail
      refine HG.out.mono ?_
      rintro e w2 ⟨v, rfl, ho, hne, hb2⟩
      go_wp2
      go_loopw [6, 27] (fun v i wr => CcRel xs ys n0 n1 w.heap.size w v i wr) (fun _ i _ => 2 - (intOf i).toNat)
      case atStart => exact ⟨0, _, rfl, by omega, rfl, ho, hne, hb2⟩
      case round =>
        clear ho hne hb2
        obtain ⟨k, V, rfl, hk, rfl, HO, HN, HB⟩ := hrel
        have l0 := (HV.out wr HB.out).1
        have l1 := (HV.out wr HB.out).2
        by_cases hk2 : k < 2
        · rcases (show k = 0 ∨ k = 1 by omega) with rfl | rfl
          · have HP := Lib.hid (H0.out.later HB.out)
            have hB := HB.out.size
            go_wp2_with (at_builtin; refine wpList_append_partQ hi0 hz0 hz1 hz2 rfl _ _ rfl w.heap.size _ 0 [] rfl HO.out HN.out A0 n0 c0 xs rfl HP.out (by omega) (by omega) hB ?_; intro v' w4 hown4 hne4 hb4)
            have HO4 : Hid (w4.ownsRow w.heap.size 3 1 v' (szQ n0 n1 1) ((ccQ xs ys 1).map (Value.int .i64))) := by show World.ownsRow _ _ _ _ _ _ _; have := hown4; rw [Nat.zero_add, List.nil_append] at this; exact this
            have HN4 := Lib.hid hne4
            have HB4 := Lib.hid (HB.out.trans hb4)
            clear hown4 hne4 hb4 l0 l1
            go_wp2
            go_roundw
            case rel => exact ⟨1, _, rfl, by omega, rfl, HO4, HN4, HB4⟩
            case measure => simp [intOf]
          · have HP := Lib.hid (H1.out.later HB.out)
            have hB := HB.out.size
            go_wp2_with (at_builtin; refine wpList_append_partQ hi0 hz0 hz1 hz2 rfl _ _ rfl w.heap.size _ n0 xs rfl HO.out HN.out A1 n1 c1 ys rfl HP.out (by omega) (by omega) hB ?_; intro v' w4 hown4 hne4 hb4)
            have HO4 : Hid (w4.ownsRow w.heap.size 3 1 v' (szQ n0 n1 2) ((ccQ xs ys 2).map (Value.int .i64))) := hown4
            have HN4 := Lib.hid hne4
            have HB4 := Lib.hid (HB.out.trans hb4)
            clear hown4 hne4 hb4 l0 l1
            go_wp2
            go_roundw
            case rel => exact ⟨2, _, rfl, by omega, rfl, HO4, HN4, HB4⟩
            case measure => simp [intOf]
        · obtain rfl : k = 2 := by omega
          have hl := HL.out 2
          obtain ⟨A2, c2, hv2, -, -, -⟩ := own_slice HO.out hl
          have HE : Hid (RowQ (xs ++ ys) w (.returned V) wr) := by
            subst hv2
            exact ⟨A2, c2, by rw [show (xs ++ ys).length = szQ n0 n1 2 from hl], by have := HO.out; rw [show (xs ++ ys).length = szQ n0 n1 2 from hl]; exact this, HB.out⟩
          clear hv2 hl l0 l1
          go_wp2
          go_ret
          exact HE.out
end Go.Proofs.Ythphboeboiallab
