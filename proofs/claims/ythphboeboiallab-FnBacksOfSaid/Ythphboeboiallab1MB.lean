/-
  backsOf, BacksOf and reached of the model, walked.
  Conditions: as each theorem states.
-/
import Derived.Test.Ythphboeboiallab1MA
import Derived.BigQuiet
namespace Go.Proofs.Ythphboeboiallab
open Go.ChangeShapes Go.WideShapes Go.ChangeAt Go.RowKit
set_option linter.unusedVariables false
set_option maxRecDepth 4000

theorem nbB_all (nr : Int → Int → Bool) (ss : List Int) (x : Int) : nbB nr (ss.take ss.length) x = nbB nr ss x := by rw [List.take_length]
theorem bkL_snoc {far : Int} {zs ss : List Int} {j : Nat} {x : Int} (hj : j < zs.length) (hx : zs.getD j 0 = x) : bkL far (zs.take (j + 1)) ss = bkL far (zs.take j) ss ++ [((nbB (nrF far) ss x : Nat) : Int)] := by
  have e : zs.take (j + 1) = zs.take j ++ [x] := by
    rw [List.take_succ_eq_append_getElem hj]
    simp [← hx, List.getD, hj]
  rw [e]
  simp [bkL]
def BkMO (w : World) (n : Nat) (far : Int) (zs ss : List Int) (o i : Value) (wr : World) : Prop :=
  ∃ j g c : Nat, j ≤ n ∧ o = .slice (some ⟨g, 0, none⟩) j c ∧ i = .int .i64 (j : Int) ∧ Hid (OwnQ wr w.heap.size g c j (bkL far (zs.take j) ss)) ∧ Hid (Below w.heap.size w wr)
def BkMI (wr0 : World) (m : Nat) (far x : Int) (ss : List Int) (a i : Value) (wr : World) : Prop :=
  ∃ k v q : Nat, k ≤ m ∧ Hid (nbB (nrF far) (ss.take k) x = v) ∧ a = .int .i64 (v : Int) ∧ i = .int .i64 (k : Int) ∧ wr = wr0.drewN q
set_option maxHeartbeats 3200000 in
theorem sBacksQ_any (A A' : Option Addr) (c c' n m : Nat) (zs ss : List Int) (far : Int) (w : World) (h : PIn w A c n zs) (h' : PIn w A' c' m ss) (hz : vh zs = true) (hs : vh ss = true) (hm4 : m ≤ 4) :
    Calls Try.prog 41 #[.slice A n c, .slice A' m c', .int .i64 far] w (RowQ (bkL far zs ss) w) := by
  obtain ⟨i0, hi0, hz0, hz1, hz2⟩ := info_parts intInfo
  have Hn := Lib.hid h.len
  have Hm := Lib.hid h'.len
  have HP := Lib.hid h
  have HP' := Lib.hid h'
  have V1 := Lib.hid hz
  have V2 := Lib.hid hs
  have hn10 : n ≤ 10 := by rw [← h.len]; exact vh_len hz
  have HO0 : Hid (OwnQ (w.alloc (.cells #[] 3)) w.heap.size w.heap.size 0 0 (bkL far (zs.take 0) ss)) := ⟨rfl, World.ownsRow_lit w #[] 0 (Nat.le_refl _) (by decide) rfl⟩
  have HB0 : Hid (Below w.heap.size w (w.alloc (.cells #[] 3))) := (Below.refl _ _).alloc (Nat.le_refl _) _
  have Hv := Lib.hid (fun k x => nbB_le (nrF far) (ss.take k) x)
  clear h h' hz hs
  go_enter Try.func41, Try.ntmps41
  go_wp2
  go_loopw [7, 8] (fun o i wr => BkMO w n far zs ss o i wr) (fun _ i _ => n - (intOf i).toNat)
  case atStart => exact ⟨0, _, _, Nat.zero_le _, rfl, rfl, HO0, HB0⟩
  case round =>
    clear HO0 HB0
    obtain ⟨j, g, c1, hj, rfl, rfl, HO, HB⟩ := hrel
    by_cases hlt : j < n
    · obtain ⟨b, off, x, rfl, hbl, Hx, hc⟩ := ((HP.out.later HB.out).rd).x (k := j) (by rw [Hn.out]; exact hlt)
      obtain ⟨x0, x50⟩ := vh_get V1.out (by rw [Hn.out]; exact hlt) Hx.out
      go_wp2
      go_loopw [9, 10] (fun a i wr' => BkMI wr m far x ss a i wr') (fun _ i _ => m - (intOf i).toNat)
      case atStart => exact ⟨0, 0, 0, Nat.zero_le _, rfl, rfl, rfl, rfl⟩
      case round =>
        obtain ⟨k, v, q, hk, Hvk, rfl, rfl, rfl⟩ := hrel
        have hv4 : v ≤ m := by
          have := Hv.out k x
          rw [Hvk.out, List.length_take, Hm.out] at this
          omega
        by_cases hlk : k < m
        · obtain ⟨b', off', s, rfl, hbl', Hs', hc'⟩ := ((HP'.out.later HB.out).rd).x (k := k) (by rw [Hm.out]; exact hlk)
          obtain ⟨s0, s50⟩ := vh_get V2.out (by rw [Hm.out]; exact hlk) Hs'.out
          have HD := Lib.hid (fun W => gap_any x s W (by omega) (by omega) (by omega) (by omega))
          have Hst := Lib.hid (nbB_take (nr := nrF far) (x := x) (by rw [Hm.out]; exact hlk) Hs'.out)
          by_cases hg : gapI x s ≤ far
          · have Hn2 : Hid (nbB (nrF far) (ss.take (k + 1)) x = v + 1) := by
              show _ = _
              rw [Hst.out, Hvk.out, if_pos (by unfold nrF; exact decide_eq_true hg)]
            generalize gapI x s = d at hg HD
            go_wp2
            go_quiet ((go_at_call 66; exact quiet_gen (HD.out _) ⟨_, rfl⟩))
            go_wp2
            go_roundw
            case rel => exact ⟨k + 1, v + 1, _, by omega, Hn2, by go_num, by go_num, rfl⟩
            case measure => simp [intOf]; omega
          · have Hn2 : Hid (nbB (nrF far) (ss.take (k + 1)) x = v) := by
              show _ = _
              rw [Hst.out, Hvk.out, if_neg (by unfold nrF; simpa using hg), Nat.add_zero]
            generalize gapI x s = d at hg HD
            go_wp2
            go_quiet ((go_at_call 66; exact quiet_gen (HD.out _) ⟨_, rfl⟩))
            go_wp2
            go_roundw
            case rel => exact ⟨k + 1, v, _, by omega, Hn2, rfl, by go_num, rfl⟩
            case measure => simp [intOf]; omega
        · obtain rfl : k = m := by omega
          have hvx : nbB (nrF far) ss x = v := by
            have := Hvk.out
            rw [← Hm.out, List.take_length] at this
            exact this
          have Hbs : Hid (bkL far (zs.take (j + 1)) ss = bkL far (zs.take j) ss ++ [(v : Int)]) := by
            show _ = _
            rw [bkL_snoc (by rw [Hn.out]; exact hlt) Hx.out, hvx]
          have Hlen := Lib.hid HO.out.1
          have Hown := Lib.hid (show (wr.drewN q).ownsRow w.heap.size 3 1 (.slice (some ⟨g, 0, none⟩) j c1) j ((bkL far (zs.take j) ss).map (Value.int .i64)) from HO.out.2)
          have HBq : Hid (Below w.heap.size w (wr.drewN q)) := below_drewN HB.out q
          have hsz : j + 1 ≤ maxLen := by unfold maxLen; omega
          have hsz2 : (j + 1) * 8 ≤ 140737488355328 := by omega
          have hsz3 : w.heap.size ≤ ((wr.drewN q).alloc (.cells #[.int .i64 (v : Int)] 3)).heap.size := by rw [size_alloc1]; have := HBq.out.size; omega
          obtain ⟨wq, Hwq⟩ : ∃ wq, Hid (wr.drewN q = wq) := ⟨_, rfl⟩
          rw [Hwq.out] at Hown HBq hsz3 ⊢
          clear hvx HO
          go_wp2_with (at_builtin; refine wpList_append_lies _ rfl _ _ 23 rfl w.heap.size 3 i0 _ 1 8 Try.underlying23 hi0 hz0 hz1 hz2 rfl (by decide) _ _ _ rfl (Hown.out.alloc _) ⟨wq.heap.size, 0, none⟩ 1 1 [.int .i64 (v : Int)] rfl rfl (cell_one_new _ _ _) (by intro u hu; simp at hu; subst hu; rfl) (by decide) hsz hsz2 hsz3 _ rfl ?_; intro g3 c3 w4 hown4 hgrow4 hat4 hlt4)
          have HO4 : Hid (OwnQ w4 w.heap.size g3 c3 (j + 1) (bkL far (zs.take (j + 1)) ss)) := by show OwnQ _ _ _ _ _ _; rw [Hbs.out]; exact ownQ_push Hlen.out hown4
          have HB4 : Hid (Below w.heap.size w w4) := (HBq.out.alloc HBq.out.size _).grown hgrow4 hsz3 (fun q hq => (Hown.out.lt q hq).1)
          clear hown4 hgrow4 hat4 hlt4 Hown hsz hsz2 hsz3
          go_wp2
          go_roundw
          case rel => exact ⟨j + 1, g3, c3, by omega, rfl, by go_num, HO4, HB4⟩
          case measure => simp [intOf]; omega
    · obtain rfl : j = n := by omega
      have HX : Hid (RowQ (bkL far zs ss) w (.returned (.slice (some ⟨g, 0, none⟩) j c1)) wr) := by
        have := HO.out.row (Nat.le_refl _) HB.out
        rw [← Hn.out, List.take_length] at this
        rw [← Hn.out]
        exact this
      go_wp2
      go_ret
      exact HX.out
theorem sBacksOf_ok : BRow 16 bkQ := by
  intro A A' c c' n m zs ss far w h h'
  have HV := Lib.hid (sBack_any A A' c c' n m zs ss far 0 1 w h h')
  have e1 : okM zs ss far 0 1 = vbB zs ss far := by unfold okM; rw [show chB 0 1 = true from rfl, Bool.and_true]
  rw [e1] at HV
  by_cases hv : vbB zs ss far = true
  · obtain ⟨v1, v2, v3, v4, v5⟩ := vbB_get hv
    rw [hv] at HV
    rw [bkQ_yes hv]
    have HS := Lib.hid (fun W (hW : Below w.heap.size w W) => sBacksQ_any A A' c c' n m zs ss far W (h.later hW) (h'.later hW) v1 v2 (by rw [← h'.len]; exact v3))
    clear h h' hv v1 v2 v3 e1
    go_enter Try.func16, Try.ntmps16
    go_wp2_with fail
    refine HV.out.mono ?_
    rintro e w1 ⟨rfl, hb1⟩
    have HB1 := Lib.hid hb1
    go_wp2_with fail
    refine (HS.out w1 hb1).mono ?_
    rintro e w2 hq
    have HQ := Lib.hid (hq.from HB1.out)
    obtain ⟨A2, c2, rfl, -, -⟩ := hq
    clear hb1
    go_wp2
    go_ret
    exact HQ.out
  · have hv' : vbB zs ss far = false := by simpa using hv
    rw [hv'] at HV
    rw [bkQ_no hv']
    clear h h' hv hv' e1
    go_enter Try.func16, Try.ntmps16
    go_wp2_with fail
    refine HV.out.mono ?_
    rintro e w1 ⟨rfl, hb1⟩
    go_wp2
    go_ret
    exact rowQ_nil _ _ hb1
def RcR (U D k n : Nat) (far : Int) (zs ss : List Int) (w2 : World) (a i : Value) (wr : World) : Prop :=
  ∃ j x q : Nat, j ≤ n ∧ a = .int .i64 (x : Int) ∧ i = .int .i64 (j : Int) ∧ Hid (smQ U D k far zs ss j = x) ∧ wr = w2.drewN q
set_option maxHeartbeats 3200000 in
theorem sReached_any (U D k n c c' : Nat) (far : Int) (A A' : Option Addr) (zs ss : List Int) (w : World) (h0 : PIn w A c n zs) (h1 : PIn w A' c' k ss) (hz : vh zs = true) (hs : vh ss = true) (hk4 : k ≤ 4) (hU : U ≤ D) (hD : D ≤ 10) :
    Calls Try.prog 50 #[.slice A n c, .slice A' k c', .int .i64 far, .agg #[.int .i64 (U : Int), .int .i64 (D : Int)]] w fun e w' => e = .returned (.int .i64 ((rcB (nrF far) U D zs ss : Nat) : Int)) ∧ Below w.heap.size w w' := by
  have hn10 : n ≤ 10 := by rw [← h0.len]; exact vh_len hz
  have hb1 : Below w.heap.size w (w.alloc (.cells #[.int .i64 (U : Int), .int .i64 (D : Int)] 30)) := (Below.refl _ _).alloc (Nat.le_refl _) _
  have p1 : (w.alloc (.cells #[.int .i64 (U : Int), .int .i64 (D : Int)] 30)).heap[w.heap.size]? = some (.cells #[.int .i64 (U : Int), .int .i64 (D : Int)] 30 (0, 0)) := heap_alloc_new _ _
  obtain ⟨w1, Hw1⟩ : ∃ w1, Hid (w.alloc (.cells #[.int .i64 (U : Int), .int .i64 (D : Int)] 30) = w1) := ⟨_, rfl⟩
  rw [Hw1.out] at hb1 p1
  obtain ⟨pb, Hpb⟩ : ∃ pb, Hid (w.heap.size = pb) := ⟨_, rfl⟩
  rw [Hpb.out] at p1
  have HBk := Lib.hid (sBacksQ_any A A' c c' n k zs ss far w1 (h0.later hb1) (h1.later hb1) hz hs hk4)
  have HB1 := Lib.hid hb1
  have P1 := Lib.hid p1
  have Hz := Lib.hid h0.len
  have Hl := Lib.hid h1.len
  have Hbl : Hid ((bkL far zs ss).length = n) := by show _ = _; rw [bkL_length]; exact h0.len
  have HSm := Lib.hid (fun i => smQ_le U D k far zs ss hD hk4 i)
  obtain ⟨X, HX⟩ : ∃ X, Hid (rcB (nrF far) U D zs ss = X) := ⟨_, rfl⟩
  have HX2 : Hid (smQ U D k far zs ss n = X) := by
    show _ = _
    rw [← HX.out, ← Hz.out, smQ_all]
    unfold rcB
    rw [Hl.out]
  rw [HX.out]
  have Hnb := Lib.hid (fun x => nbB_le (nrF far) ss x)
  have HPw := Lib.hid (fun (x b : Nat) (hx : x ≤ 10) (hb : b ≤ 4) (W : World) => spower_any x b W hx hb)
  obtain ⟨P, HP⟩ : ∃ P, Hid (D ^ k = P) := ⟨_, rfl⟩
  have hP : P ≤ 10000 := by rw [← HP.out]; exact pow_le4 hD hk4
  have hU10 : U ≤ 10 := by omega
  clear h0 h1 hz hs hb1 p1
  go_enter Try.func50, Try.ntmps50
  go_wp2_with fail
  rw [Hw1.out, Hpb.out]
  refine HBk.out.mono ?_
  rintro e w2 ⟨A2, c2, rfl, ho2, hb2⟩
  rw [Hbl.out] at ho2 ⊢
  obtain ⟨A3, c3, e3, -, -, hr3⟩ := own_slice ho2.out Hbl.out
  injection e3 with e4 _ e5
  subst e4 e5
  have Hr := Lib.hid hr3
  have HB2 : Hid (Below w.heap.size w w2) := HB1.out.trans (hb2.out.mono HB1.out.size)
  have K : Hid (w2.cell? ⟨pb, 0, none⟩ = some (.int .i64 (U : Int)) ∧ w2.cell? ⟨pb, 1, none⟩ = some (.int .i64 (D : Int))) := frac_cells ((hb2.out.block _ (row_lt P1.out)).trans P1.out)
  clear ho2 hb2 hr3
  go_wp2
  go_loopw [10, 12] (fun a i wr => RcR U D k n far zs ss w2 a i wr) (fun _ i _ => n - (intOf i).toNat)
  case atStart => exact ⟨0, 0, 0, Nat.zero_le _, rfl, rfl, rfl, rfl⟩
  case round =>
    obtain ⟨j, x, q, hj, rfl, rfl, Hx, rfl⟩ := hrel
    have hx : x ≤ 10000 * j := by rw [← Hx.out]; exact HSm.out j
    by_cases hlt : j < n
    · obtain ⟨b, off, y, rfl, hbl, Hy, hc⟩ := Hr.out.x (k := j) (by rw [Hbl.out]; exact hlt)
      obtain ⟨v, Hv⟩ : ∃ v, Hid (nbB (nrF far) ss (zs.getD j 0) = v) := ⟨_, rfl⟩
      have hy : y = (v : Int) := by
        rw [← Hy.out, ← Hv.out]
        have := show j < zs.length by rw [Hz.out]; exact hlt
        simp [bkL, List.getD, this]
      have hvk : v ≤ k := by rw [← Hv.out, ← Hl.out]; exact Hnb.out _
      subst hy
      obtain ⟨k0, k1⟩ := K.out
      obtain ⟨Y, HY⟩ : ∃ Y, Hid (U ^ v = Y) := ⟨_, rfl⟩
      obtain ⟨Z, HZ⟩ : ∃ Z, Hid (D ^ (k - v) = Z) := ⟨_, rfl⟩
      obtain ⟨G, HG⟩ : ∃ G, Hid (Y * Z = G) := ⟨_, rfl⟩
      obtain ⟨M, HM⟩ : ∃ M, Hid (k - v = M) := ⟨_, rfl⟩
      have hG : G ≤ P := by rw [← HG.out, ← HY.out, ← HZ.out, ← HP.out]; exact lossB_le hU hvk
      have Hn : Hid (smQ U D k far zs ss (j + 1) = x + P - G) := by
        show smQ U D k far zs ss j + tmB U D k (nbB (nrF far) ss (zs.getD j 0)) = _
        rw [Hx.out, Hv.out]
        unfold tmB
        rw [HP.out, HY.out, HZ.out, HG.out]
        omega
      obtain ⟨x2, Hx2⟩ : ∃ x2, Hid (x + P - G = x2) := ⟨_, rfl⟩
      rw [Hx2.out] at Hn
      have e1 : IntKind.i64.wrap ((x : Int) + (P : Int)) = (x : Int) + (P : Int) := IntWalk.i64_in _ (by omega)
      have e2 : IntKind.i64.wrap ((k : Int) - (v : Int)) = (M : Int) := by rw [IntKind.wrap_i64]; have := HM.out; omega
      have e3 : (Y : Int) * (Z : Int) = (G : Int) := by rw [← HG.out]; push_cast; rfl
      have e4 : IntKind.i64.wrap (G : Int) = (G : Int) := IntWalk.i64_in _ (by omega)
      have e5 : IntKind.i64.wrap ((x : Int) + (P : Int) - (G : Int)) = (x2 : Int) := by rw [IntKind.wrap_i64]; have := Hx2.out; omega
      have C1 : Hid (∀ W, Calls Try.prog 51 #[.int .i64 (D : Int), .int .i64 (k : Int)] W fun e w' => e = .returned (.int .i64 (P : Int)) ∧ W = w') := fun W => by have := HPw.out D k hD hk4 W; rw [HP.out] at this; exact this
      have C2 : Hid (∀ W, Calls Try.prog 51 #[.int .i64 (U : Int), .int .i64 (v : Int)] W fun e w' => e = .returned (.int .i64 (Y : Int)) ∧ W = w') := fun W => by have := HPw.out U v hU10 (by omega) W; rw [HY.out] at this; exact this
      have C3 : Hid (∀ W, Calls Try.prog 51 #[.int .i64 (D : Int), .int .i64 (M : Int)] W fun e w' => e = .returned (.int .i64 (Z : Int)) ∧ W = w') := fun W => by have := HPw.out D M hD (by have := HM.out; omega) W; rw [← HM.out, HZ.out] at this; rw [← HM.out]; exact this
      go_wp2
      go_quiet ((go_at_call 51; (first | (with_reducible exact quiet_gen (C1.out _) ⟨_, rfl⟩) | (with_reducible exact quiet_gen (C2.out _) ⟨_, rfl⟩) | (with_reducible exact quiet_gen (C3.out _) ⟨_, rfl⟩))))
      clear k0 k1 hc hbl C1 C2 C3 e1 e2 e3 e4 e5
      go_wp2
      go_roundw
      case rel => exact ⟨j + 1, x2, _, by omega, rfl, by go_num, Hn, rfl⟩
      case measure => simp [intOf]; omega
    · obtain rfl : j = n := by omega
      have e : x = X := by rw [← Hx.out]; exact HX2.out
      subst e
      go_wp2
      go_ret
      exact ⟨rfl, below_drewN HB2.out q⟩
end Go.Proofs.Ythphboeboiallab
