/-
  FnBacksOf, walked.
  Conditions: none.
-/
import Derived.Test.Ythphboeboiallab1LS
import Derived.Deep.RegionHeld
namespace Go.Proofs.Ythphboeboiallab
open Go.ChangeShapes Go.WideShapes Go.ChangeAt Go.RowKit
set_option linter.unusedVariables false
set_option maxRecDepth 4000

def BkRel (L n m : Nat) (A1 : Option Addr) (c1 : Nat) (zs : List Int) (A2 : Option Addr) (c2 : Nat) (ss : List Int) (A3 : Option Addr) (c3 : Nat) (xs : List Int) (w4 : World) (i : Value) (wr : World) : Prop :=
  ∃ j : Nat, j ≤ L ∧ i = .int .i64 ((j : Nat) : Int) ∧ Hid (Below w4.heap.size w4 wr)
set_option maxHeartbeats 3200000 in
theorem lawBacksOf_walk (A : Option Addr) (c : Nat) (bs : List Int) (w : World) (hr : RdB w w.heap.size A bs) (hcap : bs.length ≤ c) (hm : c ≤ maxLen) :
    Calls Try.prog 3 #[.slice A bs.length c] w fun e w' => e = .returned (.bool true) ∧ Below w.heap.size w w' := by
  unfold maxLen at hm
  obtain ⟨n0, Hn0⟩ : ∃ n, Hid (bs.length = n) := ⟨_, rfl⟩
  rw [Hn0.out] at hcap ⊢
  have HD := Lib.hid (drawBacksOf_any A c n0 bs w hr Hn0.out hcap (by omega))
  have HI0 := Lib.hid iBacksOf_ok
  have HS0 := Lib.hid sBacksOf_ok
  clear hr
  by_cases hb : 1048576 < n0
  · go_enter Try.func3, Try.ntmps3
    go_wp2
    go_ret
    exact ⟨rfl, Below.refl _ _⟩
  · go_enter Try.func3, Try.ntmps3
    go_wp2_with fail
    refine HD.out.mono ?_
    rintro e w1 ⟨A1, c1, n, zs, g, c2, m, ss, far, rfl, hn10, hm4, hf, hin, hos, hb1⟩
    have N1 := Lib.hid hin.out
    have S1 : Hid (PIn w1 (some ⟨g, 0, none⟩) c2 m ss) := hos.out.pinU (by omega)
    have B1 := Lib.hid hb1.out
    clear hin hos hb1 HD hb hcap hm
    have hL10 := bkQ_len10 zs ss far
    have Hf0 := Lib.hid (bkQ_some (zs := zs) (ss := ss) (far := far))
    obtain ⟨xs, Hx⟩ : ∃ xs, Hid (bkQ zs ss far = xs) := ⟨_, rfl⟩
    obtain ⟨L, HL⟩ : ∃ L, Hid (xs.length = L) := ⟨_, rfl⟩
    rw [Hx.out, HL.out] at hL10
    have Hf : Hid (L ≠ 0 → vbB zs ss far = true ∧ xs = bkL far zs ss) := fun h => by
      have := Hf0.out; rw [Hx.out, HL.out] at this; exact this h
    have HI : Hid (∀ A A' c c' W, PIn W A c n zs → PIn W A' c' m ss → Calls Try.prog 14 #[.slice A n c, .slice A' m c', .int .i64 far] W (RowP xs L W)) := fun A A' c c' W h h' => (HI0.out A A' c c' n m zs ss far W h h').mono (fun e w' hr => by rw [Hx.out] at hr; exact hr.pinU HL.out (by omega))
    have HS : Hid (∀ A A' c c' W, PIn W A c n zs → PIn W A' c' m ss → Calls Try.prog 16 #[.slice A n c, .slice A' m c', .int .i64 far] W (RowP xs L W)) := fun A A' c c' W h h' => (HS0.out A A' c c' n m zs ss far W h h').mono (fun e w' hr => by rw [Hx.out] at hr; exact hr.pinU HL.out (by omega))
    clear HS0 Hf0
    go_wp2_with fail
    refine (HI.out _ _ _ _ w1 N1.out S1.out).mono ?_
    rintro e w2 ⟨A3, c3, rfl, G2, -, hq⟩
    have N2 := Lib.hid (N1.out.later hq.out)
    have S2 := Lib.hid (S1.out.later hq.out)
    have B2 := Lib.hid (B1.out.trans (hq.out.mono B1.out.size))
    clear hq N1 S1 B1
    go_wp2_with fail
    refine (HS.out _ _ _ _ w2 N2.out S2.out).mono ?_
    rintro e w3 ⟨A4, c4, rfl, R3, -, hq⟩
    have N3 := Lib.hid (N2.out.later hq.out)
    have S3 := Lib.hid (S2.out.later hq.out)
    have G3 := Lib.hid (G2.out.later hq.out)
    have B3 := Lib.hid (B2.out.trans (hq.out.mono B2.out.size))
    clear hq N2 S2 G2 B2
    go_wp2_with fail
    refine (calls_drawn (eqLi_same A3 A4 c3 c4 L L xs w3 _ _ G3.out.rd G3.out.len R3.out.rd R3.out.len (by omega))).mono ?_
    rintro e w4 ⟨rfl, hq⟩
    have N4 := Lib.hid (N3.out.later hq)
    have S4 := Lib.hid (S3.out.later hq)
    have G4 := Lib.hid (G3.out.later hq)
    have B4 := Lib.hid (B3.out.trans (hq.mono B3.out.size))
    clear hq N3 S3 G3 B3 R3
    by_cases h0 : L = 0
    · subst h0
      clear Hf
      go_wp2_with fail
      refine (HS.out _ _ _ _ w4 N4.out S4.out).mono ?_
      rintro e w5 ⟨A5, c5, rfl, R5, -, hq⟩
      have G5 := Lib.hid (G4.out.later hq.out)
      have B5 := Lib.hid (B4.out.trans (hq.out.mono B4.out.size))
      clear hq
      go_wp2_with fail
      refine (calls_drawn (eqLi_same A3 A5 c3 c5 0 0 xs w5 _ _ G5.out.rd G5.out.len R5.out.rd R5.out.len (by omega))).mono ?_
      rintro e w6 ⟨rfl, hq⟩
      have B6 := Lib.hid (B5.out.trans (hq.mono B5.out.size))
      clear hq
      go_wp2
      go_ret
      exact ⟨rfl, B6.out⟩
    · obtain ⟨hv, rfl⟩ := Hf.out h0
      have hnL : L = n := by rw [← HL.out, bkL_length]; exact N4.out.len
      subst hnL
      have hl0 : ((L : Int) == 0) = false := by rw [beq_eq_false_iff_ne]; omega
      obtain ⟨K, HK⟩ : ∃ K, Hid (m - 1 = K) := ⟨_, rfl⟩
      have HI2 : Hid (∀ W, Below w4.heap.size w4 W → Calls Try.prog 14 #[.slice A1 L c1, .slice (some ⟨g, 0, none⟩) K c2, .int .i64 far] W (RowP (bkL far zs (ss.take K)) L W)) := fun W hW => by
        have h1 := N4.out.later hW
        have h2 := (S4.out.later hW).headU (k := K) (by have := HK.out; omega)
        have := HI0.out _ _ _ _ _ _ _ _ far W h1 h2
        rw [bkQ_yes (vbB_take hv K)] at this
        exact this.mono fun e w' hr => hr.pinU (by rw [bkL_length]; exact N4.out.len) (by omega)
      have Hle : Hid (∀ j, j < L → ∃ x y : Nat, (bkL far zs ss).getD j 0 = (x : Int) ∧ (bkL far zs (ss.take K)).getD j 0 = (y : Int) ∧ x ≤ m ∧ y ≤ x) := fun j hj => by
        have hzl := N4.out.len
        refine ⟨_, _, bkL_at (by omega), bkL_at (by omega), ?_, nbB_head _ _ _ _⟩
        rw [← S4.out.len]; exact nbB_le _ _ _
      have hmc := S4.out.cap
      clear HI HS Hf HI0 h0 hv
      go_wp2
      go_loopw [8] (fun i wr => BkRel L L m A1 c1 zs (some ⟨g, 0, none⟩) c2 ss A3 c3 (bkL far zs ss) w4 i wr) (fun i _ => L - (intOf i).toNat)
      case atStart => exact ⟨0, by omega, rfl, Below.refl _ _⟩
      case round =>
        obtain ⟨j, hj, rfl, HB⟩ := hrel
        by_cases hjL : j < L
        · obtain ⟨x, y, hx, hy, hxm, hyx⟩ := Hle.out j hjL
          obtain ⟨b3, o3, rfl, hb3, hc3⟩ := G4.out.rd (by rw [G4.out.len]; omega)
          have hcj := hc3 j (by rw [G4.out.len]; omega)
          rw [hx] at hcj
          have KS : Hid (∀ W, Below w4.heap.size w4 W → W.cell? ⟨b3, o3 + j, none⟩ = some (.int .i64 (x : Int))) := fun W hW => (hW.cell (p := ⟨b3, o3 + j, none⟩) hb3).trans hcj
          have hk0 := KS.out wr HB.out
          have hxm' : ¬ (m : Int) < (x : Int) := by omega
          have hyx' : ¬ (x : Int) < (y : Int) := by omega
          clear hc3 hcj Hle
          by_cases hm0 : 0 < m
          · have hm1 : (0 : Int) < (m : Int) := by omega
            have hwK : IntKind.i64.wrap ((m : Int) - 1) = (K : Int) := by rw [show (m : Int) - 1 = (K : Int) by have := HK.out; omega]; exact IntWalk.i64_in _ (by have := HK.out; omega)
            have hKm : K ≤ m := by have := HK.out; omega
            have hKc : K ≤ c2 := by omega
            have g1 : decide ((m : Int) < (x : Int)) = false := decide_eq_false hxm'
            have g2 : decide ((0 : Int) < (m : Int)) = true := decide_eq_true hm1
            have g3 : decide ((x : Int) < (y : Int)) = false := decide_eq_false hyx'
            have g4 : decide (m < x) = false := decide_eq_false (by omega)
            have g5 : decide (0 < m) = true := decide_eq_true hm0
            have g6 : decide (x < y) = false := decide_eq_false (by omega)
            have HBr := Lib.hid HB.out
            have HL8 : Hid ((bkL far zs (ss.take K)).length = L) := by show _ = _; rw [bkL_length]; exact N4.out.len
            go_wp2
            refine wp_region_held_drew (S := fun W' => W'.cell? ⟨b3, o3 + j, none⟩ = some (.int .i64 (x : Int))) (by kernel_rfl) (KS.out _ HBr.out.drew) (fun hHeld => ?_)
            refine wpAnyH_take (i := 0) (oi := { dst := some 48, op := Op.move (Operand.tmp 6), type := 23, pos := "laws.go:1083", after := #[], guard := none }) (v := ?_) rfl (by kernel_rfl) (by kernel_rfl) (by kernel_rfl) (fun _ _ _ h => h) (Or.inl ⟨by rfl, ?_⟩) (by assumption) ?_
            rotate_left
            · intro w hSw
              try dsimp only at hSw
              first | (go_simp; done) | (go_simp; with_reducible rfl)
            try simp only [Act.put, List.setIfInBounds_toArray, List.set_cons_zero, List.set_cons_succ]
            refine wpAnyH_take (i := 1) (oi := { dst := some 49, op := Op.move (Operand.tmp 8), type := 3, pos := "laws.go:1083", after := #[], guard := none }) (v := ?_) rfl (by kernel_rfl) (by kernel_rfl) (by kernel_rfl) (fun _ _ _ h => h) (Or.inl ⟨by rfl, ?_⟩) (by assumption) ?_
            rotate_left
            · intro w hSw
              try dsimp only at hSw
              first | (go_simp; done) | (go_simp; with_reducible rfl)
            try simp only [Act.put, List.setIfInBounds_toArray, List.set_cons_zero, List.set_cons_succ]
            refine wpAnyH_take (i := 2) (oi := { dst := some 50, op := Op.indexAddr 23 (Operand.tmp 48) (Operand.tmp 49), type := 0, pos := "laws.go:1083", after := #[{ on := 0, ground := Ground.data }, { on := 1, ground := Ground.data }], guard := none }) (v := ?_) rfl (by kernel_rfl) (by kernel_rfl) (by kernel_rfl) (fun _ _ _ h => h) (Or.inl ⟨by rfl, ?_⟩) (by assumption) ?_
            rotate_left
            · intro w hSw
              try dsimp only at hSw
              first | (go_simp; done) | (go_simp; with_reducible rfl)
            try simp only [Act.put, List.setIfInBounds_toArray, List.set_cons_zero, List.set_cons_succ]
            refine wpAnyH_take (i := 3) (oi := { dst := some 51, op := Op.load 3 (Operand.tmp 50), type := 3, pos := "laws.go:1083", after := #[{ on := 2, ground := Ground.data }], guard := none }) (v := ?_) rfl (by kernel_rfl) (by kernel_rfl) (by kernel_rfl) (fun _ _ _ h => h) (Or.inl ⟨by rfl, ?_⟩) (by assumption) ?_
            rotate_left
            · intro w hSw
              try dsimp only at hSw
              first | (go_simp; done) | (go_simp; with_reducible rfl)
            try simp only [Act.put, List.setIfInBounds_toArray, List.set_cons_zero, List.set_cons_succ]
            refine wpAnyH_take (i := 4) (oi := { dst := some 52, op := Op.move (Operand.tmp 7), type := 3, pos := "laws.go:1083", after := #[], guard := none }) (v := ?_) rfl (by kernel_rfl) (by kernel_rfl) (by kernel_rfl) (fun _ _ _ h => h) (Or.inl ⟨by rfl, ?_⟩) (by assumption) ?_
            rotate_left
            · intro w hSw
              try dsimp only at hSw
              first | (go_simp; done) | (go_simp; with_reducible rfl)
            try simp only [Act.put, List.setIfInBounds_toArray, List.set_cons_zero, List.set_cons_succ]
            refine wpAnyH_take (i := 5) (oi := { dst := some 53, op := Op.binOp BinOp.gtr 3 (Operand.tmp 51) (Operand.tmp 52) 3, type := 4, pos := "laws.go:1083", after := #[{ on := 3, ground := Ground.data }, { on := 4, ground := Ground.data }], guard := none }) (v := ?_) rfl (by kernel_rfl) (by kernel_rfl) (by kernel_rfl) (fun _ _ _ h => h) (Or.inl ⟨by rfl, ?_⟩) (by assumption) ?_
            rotate_left
            · intro w hSw
              try dsimp only at hSw
              first | (go_simp; done) | (go_simp; with_reducible rfl)
            try simp only [Act.put, List.setIfInBounds_toArray, List.set_cons_zero, List.set_cons_succ]
            refine wpAnyH_take (i := 6) (oi := { dst := some 54, op := Op.move (Operand.tmp 53), type := 4, pos := "laws.go:1083", after := #[{ on := 5, ground := Ground.data }], guard := none }) (v := ?_) rfl (by kernel_rfl) (by kernel_rfl) (by kernel_rfl) (fun _ _ _ h => h) (Or.inl ⟨by rfl, ?_⟩) (by assumption) ?_
            rotate_left
            · intro w hSw
              try dsimp only at hSw
              first | (go_simp; done) | (go_simp; with_reducible rfl)
            try simp only [Act.put, List.setIfInBounds_toArray, List.set_cons_zero, List.set_cons_succ]
            refine wpAnyH_take (i := 7) (oi := { dst := some 55, op := Op.move (Operand.tmp 7), type := 3, pos := "laws.go:1083", after := #[{ on := 6, ground := Ground.guard }], guard := some (6, false) }) (v := ?_) rfl (by kernel_rfl) (by kernel_rfl) (by kernel_rfl) (fun _ _ _ h => h) (Or.inl ⟨by rfl, ?_⟩) (by assumption) ?_
            rotate_left
            · intro w hSw
              try dsimp only at hSw
              first | (go_simp; done) | (go_simp; with_reducible rfl)
            try simp only [Act.put, List.setIfInBounds_toArray, List.set_cons_zero, List.set_cons_succ]
            refine wpAnyH_take (i := 8) (oi := { dst := some 56, op := Op.binOp BinOp.gtr 3 (Operand.tmp 55) (Operand.const (Value.int IntKind.i64 0)) 3, type := 4, pos := "laws.go:1083", after := #[{ on := 7, ground := Ground.data }, { on := 6, ground := Ground.guard }], guard := some (6, false) }) (v := ?_) rfl (by kernel_rfl) (by kernel_rfl) (by kernel_rfl) (fun _ _ _ h => h) (Or.inl ⟨by rfl, ?_⟩) (by assumption) ?_
            rotate_left
            · intro w hSw
              try dsimp only at hSw
              first | (go_simp; done) | (go_simp; with_reducible rfl)
            try simp only [Act.put, List.setIfInBounds_toArray, List.set_cons_zero, List.set_cons_succ]
            refine wpAnyH_take (i := 9) (oi := { dst := some 57, op := Op.move (Operand.tmp 56), type := 4, pos := "laws.go:1083", after := #[{ on := 8, ground := Ground.data }, { on := 6, ground := Ground.chain }, { on := 6, ground := Ground.guard }], guard := some (6, false) }) (v := ?_) rfl (by kernel_rfl) (by kernel_rfl) (by kernel_rfl) (fun _ _ _ h => h) (Or.inl ⟨by rfl, ?_⟩) (by assumption) ?_
            rotate_left
            · intro w hSw
              try dsimp only at hSw
              first | (go_simp; done) | (go_simp; with_reducible rfl)
            try simp only [Act.put, List.setIfInBounds_toArray, List.set_cons_zero, List.set_cons_succ]
            refine wpAnyH_take (i := 10) (oi := { dst := some 58, op := Op.move (Operand.tmp 3), type := 23, pos := "laws.go:1083", after := #[{ on := 9, ground := Ground.guard }], guard := some (9, true) }) (v := ?_) rfl (by kernel_rfl) (by kernel_rfl) (by kernel_rfl) (fun _ _ _ h => h) (Or.inl ⟨by rfl, ?_⟩) (by assumption) ?_
            rotate_left
            · intro w hSw
              try dsimp only at hSw
              first | (go_simp; done) | (go_simp; with_reducible rfl)
            try simp only [Act.put, List.setIfInBounds_toArray, List.set_cons_zero, List.set_cons_succ]
            refine wpAnyH_take (i := 11) (oi := { dst := some 59, op := Op.move (Operand.tmp 4), type := 23, pos := "laws.go:1083", after := #[{ on := 9, ground := Ground.guard }], guard := some (9, true) }) (v := ?_) rfl (by kernel_rfl) (by kernel_rfl) (by kernel_rfl) (fun _ _ _ h => h) (Or.inl ⟨by rfl, ?_⟩) (by assumption) ?_
            rotate_left
            · intro w hSw
              try dsimp only at hSw
              first | (go_simp; done) | (go_simp; with_reducible rfl)
            try simp only [Act.put, List.setIfInBounds_toArray, List.set_cons_zero, List.set_cons_succ]
            refine wpAnyH_take (i := 12) (oi := { dst := some 60, op := Op.move (Operand.tmp 7), type := 3, pos := "laws.go:1083", after := #[{ on := 9, ground := Ground.guard }], guard := some (9, true) }) (v := ?_) rfl (by kernel_rfl) (by kernel_rfl) (by kernel_rfl) (fun _ _ _ h => h) (Or.inl ⟨by rfl, ?_⟩) (by assumption) ?_
            rotate_left
            · intro w hSw
              try dsimp only at hSw
              first | (go_simp; done) | (go_simp; with_reducible rfl)
            try simp only [Act.put, List.setIfInBounds_toArray, List.set_cons_zero, List.set_cons_succ]
            refine wpAnyH_take (i := 13) (oi := { dst := some 61, op := Op.binOp BinOp.sub 3 (Operand.tmp 60) (Operand.const (Value.int IntKind.i64 1)) 3, type := 3, pos := "laws.go:1083", after := #[{ on := 12, ground := Ground.data }, { on := 9, ground := Ground.guard }], guard := some (9, true) }) (v := ?_) rfl (by kernel_rfl) (by kernel_rfl) (by kernel_rfl) (fun _ _ _ h => h) (Or.inl ⟨by rfl, ?_⟩) (by assumption) ?_
            rotate_left
            · intro w hSw
              try dsimp only at hSw
              first | (go_simp; done) | (go_simp; with_reducible rfl)
            try simp only [Act.put, List.setIfInBounds_toArray, List.set_cons_zero, List.set_cons_succ]
            refine wpAnyH_take (i := 14) (oi := { dst := some 62, op := Op.slice 23 (Operand.tmp 59) none (some (Operand.tmp 61)) none, type := 23, pos := "laws.go:1083", after := #[{ on := 11, ground := Ground.data }, { on := 13, ground := Ground.data }, { on := 9, ground := Ground.guard }], guard := some (9, true) }) (v := ?_) rfl (by kernel_rfl) (by kernel_rfl) (by kernel_rfl) (fun _ _ _ h => h) (Or.inl ⟨by rfl, ?_⟩) (by assumption) ?_
            rotate_left
            · intro w hSw
              try dsimp only at hSw
              first | (go_simp; done) | (go_simp; with_reducible rfl)
            try simp only [Act.put, List.setIfInBounds_toArray, List.set_cons_zero, List.set_cons_succ]
            refine wpAnyH_take (i := 15) (oi := { dst := some 63, op := Op.move (Operand.tmp 5), type := 3, pos := "laws.go:1083", after := #[{ on := 9, ground := Ground.guard }], guard := some (9, true) }) (v := ?_) rfl (by kernel_rfl) (by kernel_rfl) (by kernel_rfl) (fun _ _ _ h => h) (Or.inl ⟨by rfl, ?_⟩) (by assumption) ?_
            rotate_left
            · intro w hSw
              try dsimp only at hSw
              first | (go_simp; done) | (go_simp; with_reducible rfl)
            try simp only [Act.put, List.setIfInBounds_toArray, List.set_cons_zero, List.set_cons_succ]
            refine wpAnyH_take (i := 17) (oi := { dst := some 65, op := Op.move (Operand.tmp 8), type := 3, pos := "laws.go:1083", after := #[{ on := 9, ground := Ground.guard }], guard := some (9, true) }) (v := ?_) rfl (by kernel_rfl) (by kernel_rfl) (by kernel_rfl) (fun _ _ _ h => h) (Or.inl ⟨by rfl, ?_⟩) (by assumption) ?_
            rotate_left
            · intro w hSw
              try dsimp only at hSw
              first | (go_simp; done) | (go_simp; with_reducible rfl)
            try simp only [Act.put, List.setIfInBounds_toArray, List.set_cons_zero, List.set_cons_succ]
            refine wpAnyH_take (i := 20) (oi := { dst := some 68, op := Op.move (Operand.tmp 6), type := 23, pos := "laws.go:1083", after := #[{ on := 9, ground := Ground.guard }], guard := some (9, true) }) (v := ?_) rfl (by kernel_rfl) (by kernel_rfl) (by kernel_rfl) (fun _ _ _ h => h) (Or.inl ⟨by rfl, ?_⟩) (by assumption) ?_
            rotate_left
            · intro w hSw
              try dsimp only at hSw
              first | (go_simp; done) | (go_simp; with_reducible rfl)
            try simp only [Act.put, List.setIfInBounds_toArray, List.set_cons_zero, List.set_cons_succ]
            refine wpAnyH_take (i := 21) (oi := { dst := some 69, op := Op.move (Operand.tmp 8), type := 3, pos := "laws.go:1083", after := #[{ on := 9, ground := Ground.guard }], guard := some (9, true) }) (v := ?_) rfl (by kernel_rfl) (by kernel_rfl) (by kernel_rfl) (fun _ _ _ h => h) (Or.inl ⟨by rfl, ?_⟩) (by assumption) ?_
            rotate_left
            · intro w hSw
              try dsimp only at hSw
              first | (go_simp; done) | (go_simp; with_reducible rfl)
            try simp only [Act.put, List.setIfInBounds_toArray, List.set_cons_zero, List.set_cons_succ]
            refine wpAnyH_take (i := 22) (oi := { dst := some 70, op := Op.indexAddr 23 (Operand.tmp 68) (Operand.tmp 69), type := 0, pos := "laws.go:1083", after := #[{ on := 20, ground := Ground.data }, { on := 21, ground := Ground.data }, { on := 9, ground := Ground.guard }], guard := some (9, true) }) (v := ?_) rfl (by kernel_rfl) (by kernel_rfl) (by kernel_rfl) (fun _ _ _ h => h) (Or.inl ⟨by rfl, ?_⟩) (by assumption) ?_
            rotate_left
            · intro w hSw
              try dsimp only at hSw
              first | (go_simp; done) | (go_simp; with_reducible rfl)
            try simp only [Act.put, List.setIfInBounds_toArray, List.set_cons_zero, List.set_cons_succ]
            refine wpAnyH_take (i := 23) (oi := { dst := some 71, op := Op.load 3 (Operand.tmp 70), type := 3, pos := "laws.go:1083", after := #[{ on := 22, ground := Ground.data }, { on := 9, ground := Ground.guard }], guard := some (9, true) }) (v := ?_) rfl (by kernel_rfl) (by kernel_rfl) (by kernel_rfl) (fun _ _ _ h => h) (Or.inl ⟨by rfl, ?_⟩) (by assumption) ?_
            rotate_left
            · intro w hSw
              try dsimp only at hSw
              first | (go_simp; done) | (go_simp; with_reducible rfl)
            try simp only [Act.put, List.setIfInBounds_toArray, List.set_cons_zero, List.set_cons_succ]
            refine wpAnyH_ready (rs := [16]) (by kernel_rfl) (by simp) ?_
            refine AllReadyH.cons (o := { dst := some 64, op := Op.call { callee := Callee.value (Operand.func 14), args := #[Operand.tmp 58, Operand.tmp 62, Operand.tmp 63], argTypes := #[23, 23, 3] }, type := 23, pos := "laws.go:1083", after := #[{ on := 10, ground := Ground.data }, { on := 14, ground := Ground.data }, { on := 15, ground := Ground.data }, { on := 9, ground := Ground.chain }, { on := 9, ground := Ground.guard }], guard := some (9, true) }) rfl (fun K hK => ?_) AllReadyH.nil
            go_simp
            go_at_call 14
            refine (HI2.out _ HBr.out.drew).mono ?_
            rintro e w8 ⟨A8, c8, rfl, R8, -, hq8⟩
            have hbf : Below w4.heap.size w4 w8 := HBr.out.drew.trans (hq8.out.mono HBr.out.size)
            obtain ⟨b8, o8, rfl, hb8, hc8⟩ := R8.out.rd (by rw [HL8.out]; omega)
            have hcy := hc8 j (by rw [HL8.out]; exact hjL)
            rw [hy] at hcy
            clear hc8
            try (go_wp2_with fail)
            refine hK.out _ _ (KS.out _ hbf) (fun hHeld2 => ?_)
            clear hK K
            try simp only [Act.put, List.setIfInBounds_toArray, List.set_cons_zero, List.set_cons_succ]
            refine wpAnyH_take (i := 18) (oi := { dst := some 66, op := Op.indexAddr 23 (Operand.tmp 64) (Operand.tmp 65), type := 0, pos := "laws.go:1083", after := #[{ on := 16, ground := Ground.data }, { on := 17, ground := Ground.data }, { on := 9, ground := Ground.guard }], guard := some (9, true) }) (v := ?_) rfl (by kernel_rfl) (by kernel_rfl) (by kernel_rfl) (fun _ _ _ h => h) (Or.inl ⟨by rfl, ?_⟩) (by assumption) ?_
            rotate_left
            · intro w hSw
              try dsimp only at hSw
              first | (go_simp; done) | (go_simp; with_reducible rfl)
            try simp only [Act.put, List.setIfInBounds_toArray, List.set_cons_zero, List.set_cons_succ]
            refine wpAnyH_ready (rs := [19]) (by kernel_rfl) (by simp) ?_
            refine AllReadyH.cons (o := { dst := some 67, op := Op.load 3 (Operand.tmp 66), type := 3, pos := "laws.go:1083", after := #[{ on := 18, ground := Ground.data }, { on := 9, ground := Ground.guard }], guard := some (9, true) }) rfl (fun K hK => ?_) AllReadyH.nil
            go_simp
            refine hK.out _ _ (KS.out _ hbf) (fun hHeld3 => ?_)
            clear hK K
            try simp only [Act.put, List.setIfInBounds_toArray, List.set_cons_zero, List.set_cons_succ]
            refine wpAnyH_take (i := 24) (oi := { dst := some 72, op := Op.binOp BinOp.gtr 3 (Operand.tmp 67) (Operand.tmp 71) 3, type := 4, pos := "laws.go:1083", after := #[{ on := 19, ground := Ground.data }, { on := 23, ground := Ground.data }, { on := 9, ground := Ground.guard }], guard := some (9, true) }) (v := ?_) rfl (by kernel_rfl) (by kernel_rfl) (by kernel_rfl) (fun _ _ _ h => h) (Or.inl ⟨by rfl, ?_⟩) (by assumption) ?_
            rotate_left
            · intro w hSw
              try dsimp only at hSw
              first | (go_simp; done) | (go_simp; with_reducible rfl)
            try simp only [Act.put, List.setIfInBounds_toArray, List.set_cons_zero, List.set_cons_succ]
            refine wpAnyH_take (i := 25) (oi := { dst := some 73, op := Op.pick (Operand.tmp 57) (Operand.tmp 72) (Operand.const (Value.bool false)), type := 4, pos := "laws.go:1083", after := #[{ on := 9, ground := Ground.data }, { on := 24, ground := Ground.data }, { on := 6, ground := Ground.guard }], guard := some (6, false) }) (v := ?_) rfl (by kernel_rfl) (by kernel_rfl) (by kernel_rfl) (fun _ _ _ h => h) (Or.inl ⟨by rfl, ?_⟩) (by assumption) ?_
            rotate_left
            · intro w hSw
              try dsimp only at hSw
              first | (go_simp; done) | (go_simp; with_reducible rfl)
            try simp only [Act.put, List.setIfInBounds_toArray, List.set_cons_zero, List.set_cons_succ]
            refine wpAnyH_take (i := 26) (oi := { dst := some 74, op := Op.pick (Operand.tmp 54) (Operand.const (Value.bool true)) (Operand.tmp 73), type := 4, pos := "laws.go:1083", after := #[{ on := 6, ground := Ground.data }, { on := 25, ground := Ground.data }], guard := none }) (v := ?_) rfl (by kernel_rfl) (by kernel_rfl) (by kernel_rfl) (fun _ _ _ h => h) (Or.inl ⟨by rfl, ?_⟩) (by assumption) ?_
            rotate_left
            · intro w hSw
              try dsimp only at hSw
              first | (go_simp; done) | (go_simp; with_reducible rfl)
            try simp only [Act.put, List.setIfInBounds_toArray, List.set_cons_zero, List.set_cons_succ]
            refine wpAnyH_done (by kernel_rfl) ?_ _
            have HB9 : Hid (Below w4.heap.size w4 w8) := hbf
            go_wp2
            go_roundw
            case rel => exact ⟨j + 1, by omega, by go_num, HB9⟩
            case measure => simp [intOf]; omega
          · obtain rfl : m = 0 := by omega
            obtain rfl : x = 0 := by omega
            have hk1 : wr.cell? ⟨b3, o3 + j, none⟩ = some (.int .i64 0) := hk0
            clear hk0 KS hxm' hyx'
            go_wp2
            go_region
            go_wp2
            go_roundw
            case rel => exact ⟨j + 1, by omega, by go_num, HB.out.drew⟩
            case measure => simp [intOf]; omega
        · obtain rfl : j = L := by omega
          have B6 := Lib.hid (B4.out.trans (HB.out.mono B4.out.size))
          go_wp2
          go_ret
          exact ⟨rfl, B6.out⟩
end Go.Proofs.Ythphboeboiallab
