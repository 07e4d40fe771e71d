/-
  Lists compared by the laws.
  Conditions: fewer than 2^20 numbers.
  The laws' isIn.
  Conditions: none.
  The law FnBallOf follows from the functions' contracts.
  Conditions: none beyond the contracts'.
-/
import Derived.Test.YtkgomgfhhhdnjaaZ2
import Derived.Test.YtkgomgfhhhdnjaaZ3
import Derived.Test.YtkgomgfhhhdnjaaZ6
import Derived.Test.YtkgomgfhhhdnjaaZ10
import Derived.Deep.Quiet
namespace Go.Proofs.Ytkgomgfhhhdnjaa
open Go.ChangeShapes Go.WideShapes Go.ChangeAt Go.RowKit
set_option linter.unusedVariables false
set_option maxRecDepth 4000

set_option maxHeartbeats 400000 in
theorem eqLi_any (A A' : Option Addr) (c c' n n' : Nat) (zs zs' : List Int) (w : World) (B B' : Nat) (hr : RdI w B A zs) (hn : zs.length = n) (hr' : RdI w B' A' zs') (hn' : zs'.length = n') (hb : n ≤ 1048576) :
    Calls Try.prog 18 #[.slice A n c, .slice A' n' c'] w fun e w' => e = .returned (.bool (zs == zs')) ∧ ∃ q, w' = w.drewN q := by
  by_cases hnn : n = n'
  · subst hnn
    have Hn := Lib.hid hn
    have Hn' := Lib.hid hn'
    clear hn hn'
    go_enter Try.func18, Try.ntmps18
    go_wp2
    go_loopw [5] (fun i wr => ∃ k : Nat, ∃ q, EqRel n k zs zs' ∧ i = .int .i64 k ∧ wr = w.drewN q) (fun i wr => n - (intOf i).toNat)
    case atStart => exact ⟨0, 0, ⟨Nat.zero_le _, rfl⟩, rfl, rfl⟩
    case round =>
      obtain ⟨k, q, hk, rfl, rfl⟩ := hrel
      by_cases hlt : k < n
      · obtain ⟨b, off, x, rfl, hbw, Hx, hc⟩ := hr.x (k := k) (by rw [Hn.out]; exact hlt)
        obtain ⟨b', off', y, rfl, hbw', Hy, hc'⟩ := hr'.x (k := k) (by rw [Hn'.out]; exact hlt)
        by_cases he : x = y
        · have hs := eqRel_step hk Hn.out Hn'.out hlt (Hx.out.trans (he.trans Hy.out.symm))
          subst he
          have hb1 : (x != x) = false := by simp
          have Hs := Lib.hid hs
          clear hs
          go_wp2
          go_quiet (fail)
          go_wp2
          go_roundw
          case rel => exact ⟨k + 1, _, Hs.out, by go_num, rfl⟩
          case measure => simp [intOf]; omega
        · have hs : (zs == zs') = false := eqRel_no (k := k) (by rw [Hx.out, Hy.out]; exact he)
          have hb1 : (x != y) = true := by rw [bne_iff_ne]; exact he
          have Hs := Lib.hid hs
          clear hs he
          go_wp2
          go_quiet (fail)
          go_wp2
          go_ret
          exact ⟨ret_bool Hs.out.symm, _, World.drewN_drewN _ _ _⟩
      · have hs := eqRel_end hk Hn.out Hn'.out (by omega)
        have Hs := Lib.hid hs
        clear hs
        go_wp2
        go_ret
        exact ⟨ret_bool Hs.out.symm, _, rfl⟩
  · have hs : (zs == zs') = false := by
      rw [beq_eq_false_iff_ne]
      rintro rfl
      omega
    have hb1 : ((n : Int) != (n' : Int)) = true := by rw [bne_iff_ne]; omega
    have Hs := Lib.hid hs
    clear hs hn hn' hnn
    go_enter Try.func18, Try.ntmps18
    go_wp2
    go_ret
    exact ⟨ret_bool Hs.out.symm, 0, rfl⟩
theorem eqLi_same (A A' : Option Addr) (c c' n n' : Nat) (zs : List Int) (w : World) (B B' : Nat) (hr : RdI w B A zs) (hn : zs.length = n) (hr' : RdI w B' A' zs) (hn' : zs.length = n') (hb : n ≤ 1048576) :
    Calls Try.prog 18 #[.slice A n c, .slice A' n' c'] w fun e w' => e = .returned (.bool true) ∧ ∃ q, w' = w.drewN q :=
  (eqLi_any A A' c c' n n' zs zs w B B' hr hn hr' hn' hb).mono fun _ _ ⟨he, hw⟩ => ⟨by rw [he]; simp, hw⟩
end Go.Proofs.Ytkgomgfhhhdnjaa
namespace Go.Proofs.Ytkgomgfhhhdnjaa
open Go.ChangeShapes Go.WideShapes Go.ChangeAt Go.RowKit
set_option linter.unusedVariables false

theorem take_snoc_getD {zs : List Int} {j : Nat} (hj : j < zs.length) : zs.take (j + 1) = zs.take j ++ [zs.getD j 0] := by
  rw [List.take_succ_eq_append_getElem hj]
  simp [List.getD, List.getElem?_eq_getElem hj]
theorem RdI.take {w : World} {B : Nat} {A : Option Addr} {zs : List Int} (h : RdI w B A zs) (k : Nat) : RdI w B A (zs.take k) := fun hp => by
  have hl : (zs.take k).length ≤ zs.length := by rw [List.length_take]; omega
  obtain ⟨b, off, e, hb, hc⟩ := h (by omega)
  refine ⟨b, off, e, hb, fun i hi => ?_⟩
  have hik : i < k := by rw [List.length_take] at hi; omega
  rw [hc i (by omega)]
  simp [hik]
def hasB (l : List Int) (y : Int) : Bool := l.contains y
theorem isIn_step {zs : List Int} {k : Nat} {x y : Int} (hk : k < zs.length) (hx : zs.getD k 0 = x) (h : y ∉ zs.take k) (hne : ¬ x = y) : y ∉ zs.take (k + 1) := by
  rw [take_snoc_getD hk, hx]
  simp only [List.mem_append, List.mem_singleton, not_or]
  exact ⟨h, fun e => hne e.symm⟩
theorem isIn_yes {zs : List Int} {k : Nat} {y : Int} (hk : k < zs.length) (hx : zs.getD k 0 = y) : hasB zs y = true := by
  unfold hasB
  rw [List.contains_iff_mem, ← hx]
  simp [List.getD, List.getElem?_eq_getElem hk]
theorem isIn_no {zs : List Int} {k : Nat} {y : Int} (hk : zs.length ≤ k) (h : y ∉ zs.take k) : hasB zs y = false := by
  rw [List.take_of_length_le hk] at h
  unfold hasB
  simpa using h

set_option maxHeartbeats 400000 in
theorem isIn_any (A : Option Addr) (c n : Nat) (zs : List Int) (y : Int) (w : World) (B : Nat) (hr : RdI w B A zs) (hn : zs.length = n) (hb : n ≤ 1048576) :
    Calls Try.prog 20 #[.slice A n c, .int .i64 y] w fun e w' => e = .returned (.bool (hasB zs y)) ∧ w = w' := by
  have Hn := Lib.hid hn
  clear hn
  go_enter Try.func20, Try.ntmps20
  go_wp2
  go_loop [5] (fun i => ∃ k : Nat, k ≤ n ∧ Hid (y ∉ zs.take k) ∧ i = .int .i64 k) (fun i => n - (intOf i).toNat)
  case atStart => exact ⟨0, Nat.zero_le _, (by show y ∉ zs.take 0; simp), rfl⟩
  case round =>
    obtain ⟨k, hk, Hy, rfl⟩ := hrel
    by_cases hlt : k < n
    · obtain ⟨b, off, x, rfl, hbw, Hx, hc⟩ := hr.x (k := k) (by rw [Hn.out]; exact hlt)
      by_cases he : x = y
      · subst he
        have Hs := Lib.hid (isIn_yes (by rw [Hn.out]; exact hlt) Hx.out)
        go_wp2
        go_ret
        exact ⟨ret_bool Hs.out.symm, rfl⟩
      · have hb1 : (x == y) = false := by rw [beq_eq_false_iff_ne]; exact he
        have Hs := Lib.hid (isIn_step (by rw [Hn.out]; exact hlt) Hx.out Hy.out he)
        clear he
        go_wp2
        go_round
        case rel => exact ⟨k + 1, by omega, Hs, by go_num⟩
        case measure => simp [intOf]; omega
    · have Hs := Lib.hid (isIn_no (by rw [Hn.out]; omega) Hy.out)
      go_wp2
      go_ret
      exact ⟨ret_bool Hs.out.symm, rfl⟩
end Go.Proofs.Ytkgomgfhhhdnjaa
namespace Go.Proofs.Ytkgomgfhhhdnjaa
open Go.ChangeShapes Go.WideShapes Go.ChangeAt Go.RowKit
set_option linter.unusedVariables false
set_option maxRecDepth 4000

/-- Each number is greater than the one before it, of the first k. -/
def AscP (zs : List Int) (k : Nat) : Prop := ∀ i, i < k → 0 < i → zs.getD (i - 1) 0 < zs.getD i 0
instance (zs : List Int) (k : Nat) : Decidable (AscP zs k) := by unfold AscP; infer_instance
theorem ascP_pair {zs : List Int} (h : AscP zs zs.length) : zs.Pairwise (· < ·) := by
  have lt : ∀ j i, i < j → j < zs.length → zs.getD i 0 < zs.getD j 0 := by
    intro j
    induction j with
    | zero => intro i hi; omega
    | succ j ih =>
      intro i hi hj
      have h1 := h (j + 1) hj (by omega)
      rw [Nat.add_sub_cancel] at h1
      by_cases e : i = j
      · subst e; exact h1
      · have := ih i (by omega) (by omega)
        omega
  rw [List.pairwise_iff_getElem]
  intro i j hi hj hij
  have := lt j i hij hj
  rwa [getD_of_lt hi, getD_of_lt hj] at this
theorem pair_ascP {zs : List Int} (h : zs.Pairwise (· < ·)) : AscP zs zs.length := by
  intro i hi h0
  rw [getD_of_lt hi, getD_of_lt (show i - 1 < zs.length by omega)]
  exact List.pairwise_iff_getElem.1 h (i - 1) i (by omega) hi (by omega)
set_option maxHeartbeats 800000 in
theorem ascends_any (A : Option Addr) (c n : Nat) (zs : List Int) (w : World) (B : Nat) (hr : RdI w B A zs) (hn : zs.length = n) (hb : n ≤ 1048576) :
    Calls Try.prog 21 #[.slice A n c] w fun e w' => e = .returned (.bool (decide (AscP zs n))) ∧ ∃ q, w' = w.drewN q := by
  have Hn := Lib.hid hn
  clear hn
  go_enter Try.func21, Try.ntmps21
  go_wp2
  go_loopw [3] (fun i wr => ∃ k q : Nat, (k ≤ n ∨ k = 1) ∧ 1 ≤ k ∧ i = .int .i64 k ∧ Hid (AscP zs k) ∧ wr = w.drewN q) (fun i _ => n - (intOf i).toNat)
  case atStart => exact ⟨1, 0, .inr rfl, Nat.le_refl _, rfl, fun i hi h0 => by omega, rfl⟩
  case round =>
    obtain ⟨k, q, hk, hk1, rfl, HA, rfl⟩ := hrel
    by_cases hlt : k < n
    · obtain ⟨p, rfl⟩ : ∃ p, k = p + 1 := ⟨k - 1, by omega⟩
      obtain ⟨b, off, x, rfl, -, Hx, hcx⟩ := hr.x (k := p + 1) (by rw [Hn.out]; exact hlt)
      obtain ⟨b', off', y, e', -, Hy, hcy⟩ := hr.x (k := p) (by rw [Hn.out]; omega)
      injection e' with e'
      injection e' with e1 e2
      subst e1 e2
      have w2 : IntKind.i64.wrap (((p + 1 : Nat) : Int) - 1) = (p : Int) := by rw [IntWalk.i64_in _ (by omega)]; omega
      by_cases hxy : x ≤ y
      · have Hs : Hid (decide (AscP zs n) = false) := decide_eq_false (fun h => by
          have := h (p + 1) hlt (by omega)
          rw [Nat.add_sub_cancel, Hx.out, Hy.out] at this
          omega)
        go_wp2
        go_quiet (fail)
        go_wp2
        go_ret
        exact ⟨ret_bool Hs.out.symm, _, by first | rfl | exact World.drewN_drewN _ _ _⟩
      · have Hs : Hid (AscP zs (p + 1 + 1)) := fun i hi h0 => by
          by_cases e : i = p + 1
          · subst e; rw [Nat.add_sub_cancel, Hx.out, Hy.out]; omega
          · exact HA.out i (by omega) h0
        go_wp2
        go_quiet (fail)
        go_wp2
        go_roundw
        case rel => exact ⟨p + 1 + 1, _, .inl (by omega), by omega, by go_num, Hs, by first | rfl | exact World.drewN_drewN _ _ _⟩
        case measure => simp [intOf]; omega
    · have Hs : Hid (decide (AscP zs n) = true) := decide_eq_true (fun i hi h0 => HA.out i (by omega) h0)
      go_wp2
      go_ret
      exact ⟨ret_bool Hs.out.symm, _, rfl⟩
/-- A row of the call's own, its length named. -/
theorem rowG_get {xs : List Int} {L : Nat} {w : World} {e : Ending} {w' : World} (hL : xs.length = L) (h : RowG xs w e w') : ∃ A c, e = .returned (.slice A L c) ∧ Hid (w'.ownsRow w.heap.size 3 1 (.slice A L c) L (xs.map (Value.int .i64))) ∧ Hid (RdI w' w'.heap.size A xs) ∧ L ≤ c ∧ c ≤ 9223372036854775807 ∧ Hid (Below w.heap.size w w') := by
  subst hL
  obtain ⟨A, c, rfl, ho, hb⟩ := h
  obtain ⟨A1, c1, he, h1, h2, h3⟩ := own_slice ho.out rfl
  injection he with e1 e2 e3
  subst e1 e3
  exact ⟨A, c, rfl, ho, h3, h1, h2, hb⟩
theorem has_yes {zs : List Int} {y : Int} (h : y ∈ zs) : hasB zs y = true := by unfold hasB; rw [List.contains_iff_mem]; exact h
/-- The facts of FnBallOf. -/
structure BallF (w h c far : Int) : Prop where
  mem : ∀ x ∈ blG w h c far, hasB (blG w h x far) c = true
  own : hasB (blG w h c far) c = true
  asc : AscP (blG w h c far) (blG w h c far).length
  one : (blG w h c 0).length = 1
  few : ((blG w h c far).length : Int) ≤ 2 * far * (far + 1) + 1
  rng : 0 ≤ far ∧ far ≤ 50
theorem ball_facts {w h c far : Int} (hne : blG w h c far ≠ []) : BallF w h c far := by
  by_cases hh : gok w h ∧ (0 ≤ c ∧ c < w * h) ∧ 0 ≤ far ∧ far ≤ 50
  · obtain ⟨h1, ⟨h2, h3⟩, h4, h5⟩ := hh
    obtain ⟨a, b, rfl, rfl, g⟩ := gok_nat h1
    obtain ⟨k, rfl⟩ := Int.eq_ofNat_of_zero_le h2
    rw [← Int.natCast_mul] at h3
    have hk : k < a * b := by omega
    have hin : ∀ (i j : Nat), j < a * b → stG a i j ≤ far → (j : Int) ∈ ballL a (a * b) i far := fun i j hj hs => List.mem_map.2 ⟨j, ballN_mem.2 ⟨hj, hs⟩, rfl⟩
    refine ⟨fun x hx => ?_, ?_, ?_, ?_, ?_, h4, h5⟩
    · rw [blG_yes g hk h4 h5] at hx
      obtain ⟨i, hi, rfl⟩ := List.mem_map.1 hx
      obtain ⟨hi1, hi2⟩ := ballN_mem.1 hi
      rw [blG_yes g hi1 h4 h5]
      exact has_yes (hin i k hk (by rw [stG_comm]; exact hi2))
    · rw [blG_yes g hk h4 h5]
      exact has_yes (hin k k hk (by rw [stG_self]; exact h4))
    · rw [blG_yes g hk h4 h5]
      exact pair_ascP (List.pairwise_map.2 ((ball_asc a (a * b) k far).imp fun h => by omega))
    · rw [blG_yes g hk (by omega) (by omega)]
      unfold ballL
      rw [List.length_map]; exact ball_zero g hk
    · rw [blG_yes g hk h4 h5]
      unfold ballL
      rw [List.length_map]; exact ball_le g hk h4
  · exact absurd (blG_no hh) hne
set_option maxHeartbeats 3200000 in
theorem lawBallOf_walk (A : Option Addr) (c : Nat) (bs : List Int) (w : World) (hr : RdB w w.heap.size A bs) (hcap : bs.length ≤ c) (hm : c ≤ maxLen) :
    Calls Try.prog 3 #[.slice A bs.length c] w fun e w' => e = .returned (.bool true) ∧ Below w.heap.size w w' := by
  unfold maxLen at hm
  by_cases hb : 1048576 < bs.length
  · go_enter Try.func3, Try.ntmps3
    go_wp2
    go_ret
    exact ⟨rfl, Below.refl _ _⟩
  · have H := Lib.hid (drawBallOf_any A c bs.length bs w hr rfl hcap hm)
    have HI := Lib.hid iBallOf_ok
    have HS := Lib.hid sBallOf_ok
    clear hr
    go_enter Try.func3, Try.ntmps3
    go_wp2_with fail
    refine H.out.mono ?_
    rintro e w1 ⟨x, y, k, far, rfl, hB1⟩
    have HB1 := Lib.hid hB1
    obtain ⟨xs, Hx⟩ : ∃ xs, Hid (blG x y k far = xs) := ⟨_, rfl⟩
    have HF : Hid (xs ≠ [] → BallF x y k far) := fun h => ball_facts (by rw [Hx.out]; exact h)
    have hl10 := blG_len x y k far
    rw [Hx.out] at hl10
    obtain ⟨L, HL⟩ : ∃ L, Hid (xs.length = L) := ⟨_, rfl⟩
    rw [HL.out] at hl10
    have HI2 : Hid (∀ W, Calls Try.prog 17 #[.int .i64 x, .int .i64 y, .int .i64 k, .int .i64 far] W (RowG xs W)) := fun W => by have := HI.out x y k far W; rw [Hx.out] at this; exact this
    have HS2 : Hid (∀ W, Calls Try.prog 19 #[.int .i64 x, .int .i64 y, .int .i64 k, .int .i64 far] W (RowG xs W)) := fun W => by have := HS.out x y k far W; rw [Hx.out] at this; exact this
    clear hB1
    go_wp2_with fail
    refine (HI2.out w1).mono ?_
    intro e w2 h2
    obtain ⟨A2, c2, rfl, HO2, HR2, hc2, hd2, HB2⟩ := rowG_get HL.out h2
    have HBw2 := Lib.hid (HB1.out.trans (HB2.out.mono HB1.out.size))
    clear h2 HB2
    go_wp2_with fail
    refine (HS2.out w2).mono ?_
    intro e w3 h3
    obtain ⟨A3, c3, rfl, HO3, HR3, hc3, hd3, HB3⟩ := rowG_get HL.out h3
    have HBw3 := Lib.hid (HBw2.out.trans (HB3.out.mono HBw2.out.size))
    have HR23 := Lib.hid ((HR2.out.below HB3.out).more HB3.out.size)
    clear h3
    go_wp2_with fail
    refine (eqLi_same A2 A3 c2 c3 L L xs w3 _ _ HR23.out HL.out HR3.out HL.out (by omega)).mono ?_
    rintro e w4 ⟨rfl, q4, rfl⟩
    have HBw4 := Lib.hid (below_drewN HBw3.out q4)
    have HR4 : Hid (RdI (w3.drewN q4) (w3.drewN q4).heap.size A2 xs) := HR23.out
    clear HO3 HR3 HR23 HB3
    by_cases hL0 : L = 0
    · have hb0 : (((L : Nat) : Int) == 0) = true := by rw [beq_iff_eq]; omega
      clear hL0
      go_wp2_with fail
      refine (HS2.out _).mono ?_
      intro e w5 h5
      obtain ⟨A5, c5, rfl, HO5, HR5, hc5, hd5, HB5⟩ := rowG_get HL.out h5
      have HBw5 := Lib.hid (HBw4.out.trans (HB5.out.mono HBw4.out.size))
      have HR45 := Lib.hid ((HR4.out.below HB5.out).more HB5.out.size)
      clear h5
      go_wp2_with fail
      refine (eqLi_same A2 A5 c2 c5 L L xs w5 _ _ HR45.out HL.out HR5.out HL.out (by omega)).mono ?_
      rintro e w6 ⟨rfl, q6, rfl⟩
      go_wp2
      go_ret
      exact ⟨rfl, below_drewN HBw5.out q6⟩
    · have hb0 : (((L : Nat) : Int) == 0) = false := by rw [beq_eq_false_iff_ne]; omega
      have hf := HF.out (fun e => by subst e; exact hL0 HL.out.symm)
      obtain ⟨f1, f2, f3, f4, f5, f6⟩ := hf
      have hgl : ∀ z, (blG x y z far).length ≤ 10 := fun z => blG_len x y z far
      rw [Hx.out] at f1 f2 f3 f5
      rw [HL.out] at f3 f5
      have F1 := Lib.hid f1
      have F2 := Lib.hid f2
      have F3 := Lib.hid (decide_eq_true f3)
      have F4 := Lib.hid f4
      have HG := Lib.hid hgl
      clear f1 f2 f3 f4 HF hL0 hgl
      go_wp2
      go_loopw [8] (fun i wr => ∃ j : Nat, j ≤ L ∧ i = .int .i64 j ∧ Hid (RdI wr wr.heap.size A2 xs) ∧ Hid (Below w.heap.size w wr)) (fun i _ => L - (intOf i).toNat)
      case atStart => exact ⟨0, by omega, rfl, HR4, HBw4⟩
      case round =>
        clear HR4 HBw4
        obtain ⟨j, hj, rfl, HR, HB⟩ := hrel
        by_cases hlt : j < L
        · have hjx : j < xs.length := by rw [HL.out]; exact hlt
          obtain ⟨b, off, z, rfl, -, Hz, hcz⟩ := HR.out.x (k := j) hjx
          have hmem := F1.out z (by rw [← Hz.out, getD_of_lt hjx]; exact List.getElem_mem hjx)
          have Hmem := Lib.hid hmem
          have hg10 := HG.out z
          obtain ⟨ys, Hy⟩ : ∃ ys, Hid (blG x y z far = ys) := ⟨_, rfl⟩
          rw [Hy.out] at Hmem hg10
          obtain ⟨M, HM⟩ : ∃ M, Hid (ys.length = M) := ⟨_, rfl⟩
          rw [HM.out] at hg10
          clear hmem hjx
          go_wp2_with fail
          refine (HI.out x y z far wr).mono ?_
          intro e w5 h5
          rw [Hy.out] at h5
          obtain ⟨A5, c5, rfl, HO5, HR5, hc5, hd5, HB5⟩ := rowG_get HM.out h5
          have HBw5 := Lib.hid (HB.out.trans (HB5.out.mono HB.out.size))
          have HR45 := Lib.hid ((HR.out.below HB5.out).more HB5.out.size)
          clear h5
          go_wp2_with fail
          refine (isIn_any A5 c5 M ys k w5 _ HR5.out HM.out (by omega)).mono ?_
          rintro e w6 ⟨rfl, rfl⟩
          rw [Hmem.out]
          go_wp2
          go_roundw
          case rel => exact ⟨j + 1, by omega, by go_num, HR45, HBw5⟩
          case measure => simp [intOf]; omega
        · have hjL : ¬ j < L := hlt
          have h63 := f6.1
          have h64 := f6.2
          have hpr : 2 * far * (far + 1) ≤ 5100 := by
            have := Int.mul_le_mul (show 2 * far ≤ 100 by omega) (show far + 1 ≤ 51 by omega) (by omega) (by omega)
            omega
          have hpr0 : 0 ≤ 2 * far * (far + 1) := Int.mul_nonneg (by omega) (by omega)
          obtain ⟨P, HP⟩ : ∃ P, Hid (2 * far * (far + 1) = P) := ⟨_, rfl⟩
          have hpe : 2 * far * (far + 1) = P := HP.out
          rw [HP.out] at f5 hpr hpr0
          have hlP : (L : Int) ≤ P + 1 := f5
          clear f5
          go_wp2_with fail
          refine (isIn_any A2 c2 L xs k wr _ HR.out HL.out (by omega)).mono ?_
          rintro e w6 ⟨rfl, rfl⟩
          rw [F2.out]
          go_wp2_with fail
          refine (ascends_any A2 c2 L xs wr _ HR.out HL.out (by omega)).mono ?_
          rintro e w7 ⟨rfl, q7, rfl⟩
          rw [F3.out]
          go_wp2_with fail
          refine (HI.out x y k 0 _).mono ?_
          intro e w8 h8
          obtain ⟨A8, c8, rfl, HO8, HR8, hc8, hd8, HB8⟩ := rowG_get F4.out h8
          have HBw8 := Lib.hid ((below_drewN HB.out q7).trans (HB8.out.mono (below_drewN HB.out q7).size))
          clear h8
          go_wp2
          go_ret
          exact ⟨rfl, HBw8.out⟩
end Go.Proofs.Ytkgomgfhhhdnjaa
