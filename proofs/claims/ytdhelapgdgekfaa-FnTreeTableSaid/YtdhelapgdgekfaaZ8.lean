/-
  Lists and tables compared by the laws.
  Conditions: at most seven rows of at most seven numbers.
  Tables in the exact laws: marked whole, and read again.
  Conditions: none.
  Slices of roads in the exact laws, marked.
  Conditions: none.
  The law FnExactTreeTable: the program's table is the model's, the argument stays, and the table owns its memory.
  Conditions: none.
  The law FnTreeTable: ways in trees are ways in the nets of their roads.
  Conditions: none.
-/
import Derived.Test.YtdhelapgdgekfaaZ2
import Derived.Test.YtdhelapgdgekfaaZ9
import Derived.Test.YtdhelapgdgekfaaZ14
import Derived.Test.YtdhelapgdgekfaaZ7
import Derived.Deep.Quiet
namespace Go.Proofs.Ytdhelapgdgekfaa
open Go.ChangeShapes Go.WideShapes Go.ChangeAt Go.RowKit
set_option linter.unusedVariables false
set_option maxRecDepth 4000

set_option maxHeartbeats 400000 in
theorem eqLi_any (A A' : Option Addr) (c c' n n' : Nat) (zs zs' : List Int) (w : World) (B B' : Nat) (hr : RdI w B A zs) (hn : zs.length = n) (hr' : RdI w B' A' zs') (hn' : zs'.length = n') (hb : n ≤ 1048576) :
    Calls Try.prog 57 #[.slice A n c, .slice A' n' c'] w fun e w' => e = .returned (.bool (zs == zs')) ∧ ∃ q, w' = w.drewN q := by
  by_cases hnn : n = n'
  · subst hnn
    have Hn := Lib.hid hn
    have Hn' := Lib.hid hn'
    clear hn hn'
    go_enter Try.func57, Try.ntmps57
    go_wp2
    go_loopw [5] (fun i wr => ∃ k : Nat, ∃ q, EqRel n k zs zs' ∧ i = .int .i64 k ∧ wr = w.drewN q) (fun i wr => n - (intOf i).toNat)
    case atStart => exact ⟨0, 0, ⟨Nat.zero_le _, rfl⟩, rfl, rfl⟩
    case round =>
      obtain ⟨k, q, hk, rfl, rfl⟩ := hrel
      by_cases hlt : k < n
      · obtain ⟨b, off, x, rfl, hbw, Hx, hc⟩ := hr.x (k := k) (by rw [Hn.out]; exact hlt)
        obtain ⟨b', off', y, rfl, hbw', Hy, hc'⟩ := hr'.x (k := k) (by rw [Hn'.out]; exact hlt)
        by_cases he : x = y
        · have hs := eqRel_step hk Hn.out Hn'.out hlt (Hx.out.trans (he.trans Hy.out.symm))
          subst he
          have hb1 : (x != x) = false := by simp
          have Hs := Lib.hid hs
          clear hs
          go_wp2
          go_quiet (fail)
          go_wp2
          go_roundw
          case rel => exact ⟨k + 1, _, Hs.out, by go_num, rfl⟩
          case measure => simp [intOf]; omega
        · have hs : (zs == zs') = false := eqRel_no (k := k) (by rw [Hx.out, Hy.out]; exact he)
          have hb1 : (x != y) = true := by rw [bne_iff_ne]; exact he
          have Hs := Lib.hid hs
          clear hs he
          go_wp2
          go_quiet (fail)
          go_wp2
          go_ret
          exact ⟨ret_bool Hs.out.symm, _, World.drewN_drewN _ _ _⟩
      · have hs := eqRel_end hk Hn.out Hn'.out (by omega)
        have Hs := Lib.hid hs
        clear hs
        go_wp2
        go_ret
        exact ⟨ret_bool Hs.out.symm, _, rfl⟩
  · have hs : (zs == zs') = false := by
      rw [beq_eq_false_iff_ne]
      rintro rfl
      omega
    have hb1 : ((n : Int) != (n' : Int)) = true := by rw [bne_iff_ne]; omega
    have Hs := Lib.hid hs
    clear hs hn hn' hnn
    go_enter Try.func57, Try.ntmps57
    go_wp2
    go_ret
    exact ⟨ret_bool Hs.out.symm, 0, rfl⟩
theorem eqLi_same (A A' : Option Addr) (c c' n n' : Nat) (zs : List Int) (w : World) (B B' : Nat) (hr : RdI w B A zs) (hn : zs.length = n) (hr' : RdI w B' A' zs) (hn' : zs.length = n') (hb : n ≤ 1048576) :
    Calls Try.prog 57 #[.slice A n c, .slice A' n' c'] w fun e w' => e = .returned (.bool true) ∧ ∃ q, w' = w.drewN q :=
  (eqLi_any A A' c c' n n' zs zs w B B' hr hn hr' hn' hb).mono fun _ _ ⟨he, hw⟩ => ⟨by rw [he]; simp, hw⟩

set_option maxHeartbeats 1600000 in
theorem eqLR_any (w : World) (B B' m c c' : Nat) (A A' : Option Addr) (VR VR' : Nat → Value) (ls : Nat → List Int) (hO : Outer w B m (.slice A m c) VR) (hT : TT w B m VR ls) (hO' : Outer w B' m (.slice A' m c') VR') (hT' : TT w B' m VR' ls) (hm : m ≤ 7) (hl : ∀ j, j < m → (ls j).length ≤ 7) :
    Calls Try.prog 17 #[.slice A m c, .slice A' m c'] w fun e w' => e = .returned (.bool true) ∧ ∃ q, w' = w.drewN q := by
  have HO := Lib.hid hO
  have HT := Lib.hid hT
  have HO' := Lib.hid hO'
  have HT' := Lib.hid hT'
  have HL := Lib.hid hl
  have hs : ∀ {B : Nat} {A : Option Addr} {c : Nat} {VR : Nat → Value}, Outer w B m (.slice A m c) VR → 0 < m → ∃ g, A = some ⟨g, 0, none⟩ := fun h hp => by
    obtain ⟨A2, c2, e, _, _, h3⟩ := own_sliceN h
    obtain ⟨g, e2, _⟩ := h3 hp
    injection e with e _ _
    exact ⟨g, e.trans e2⟩
  have HS1 := Lib.hid (hs hO)
  have HS2 := Lib.hid (hs hO')
  clear hO hT hO' hT' hl hs
  go_enter Try.func17, Try.ntmps17
  go_wp2
  go_loopw [5] (fun i wr => ∃ k : Nat, ∃ q, k ≤ m ∧ i = .int .i64 k ∧ wr = w.drewN q) (fun i _ => m - (intOf i).toNat)
  case atStart => exact ⟨0, 0, by omega, rfl, rfl⟩
  case round =>
    obtain ⟨k, q, hk, rfl, rfl⟩ := hrel
    by_cases hlt : k < m
    · obtain ⟨g, rfl⟩ := HS1.out (by omega)
      obtain ⟨g', rfl⟩ := HS2.out (by omega)
      obtain ⟨A1, c1, e1, hr1⟩ := HT.out.row hlt
      obtain ⟨A2, c2, e2, hr2⟩ := HT'.out.row hlt
      have cc1 := Outer.cell HO.out hlt
      have cc2 := Outer.cell HO'.out hlt
      rw [e1] at cc1
      rw [e2] at cc2
      obtain ⟨n, Hn⟩ : ∃ n, Hid ((ls k).length = n) := ⟨_, rfl⟩
      have hn7 := HL.out k hlt
      rw [Hn.out] at cc1 cc2 hn7
      have HR1 := Lib.hid (hr1.drewN q)
      have HR2 := Lib.hid (hr2.drewN q)
      have cq1 : (w.drewN q).cell? ⟨g, k, none⟩ = some (.slice A1 n c1) := cc1
      have cq2 : (w.drewN q).cell? ⟨g', k, none⟩ = some (.slice A2 n c2) := cc2
      have Hq : Hid (∀ m, (w.drewN q).drewN m = w.drewN (q + m)) := fun m => World.drewN_drewN _ _ _
      clear hr1 hr2 e1 e2 cc1 cc2
      go_wp2
      generalize w.drewN q = wq at HR1 HR2 cq1 cq2 Hq ⊢
      go_quiet (exact Calls.quiet_of (eqLi_same A1 A2 c1 c2 n n (ls k) _ w.heap.size w.heap.size (HR1.out.drewN _) Hn.out (HR2.out.drewN _) Hn.out (by omega)))
      go_wp2
      go_roundw
      case rel => exact ⟨k + 1, _, by omega, by go_num, Hq.out _⟩
      case measure => simp [intOf]; omega
    · go_wp2
      go_ret
      exact ⟨rfl, _, rfl⟩
theorem eqLR_below (w : World) (B B' m c c' : Nat) (A A' : Option Addr) (VR VR' : Nat → Value) (ls : Nat → List Int) (hO : Outer w B m (.slice A m c) VR) (hT : TT w B m VR ls) (hO' : Outer w B' m (.slice A' m c') VR') (hT' : TT w B' m VR' ls) (hm : m ≤ 7) (hl : ∀ j, j < m → (ls j).length ≤ 7) :
    Calls Try.prog 17 #[.slice A m c, .slice A' m c'] w fun e w' => e = .returned (.bool true) ∧ Below w.heap.size w w' :=
  calls_drawn (eqLR_any w B B' m c c' A A' VR VR' ls hO hT hO' hT' hm hl)
end Go.Proofs.Ytdhelapgdgekfaa
namespace Go.Proofs.Ytdhelapgdgekfaa
open Go.ChangeShapes Go.WideShapes Go.ChangeAt Go.RowKit
set_option linter.unusedVariables false
set_option maxRecDepth 4000

theorem TT.mark {w w' : World} {B m j g L c : Nat} {VR : Nat → Value} {ls : Nat → List Int} {xs : List Int} (h : TT w B m VR ls) (hj : j < m) (hv : VR j = .slice (some ⟨g, 0, none⟩) L c) (hg : w.grownBy w' (some g))
    (hown : w'.ownsRow B 3 1 (.slice (some ⟨g, 0, none⟩) L c) L (xs.map (Value.int .i64))) (hx : xs.length = L) : TT w' B m VR (upd ls j xs) := by
  refine ⟨fun i hi => ?_, h.dis⟩
  by_cases e : i = j
  · subst e; rw [upd_at, hv, hx]; exact hown
  · rw [upd_other _ _ e]
    exact (h.own i hi).kept hg (by
      rcases e' : (VR i).ownBlock with _ | g'
      · exact .inl rfl
      · right; intro e2
        injection e2 with e2
        subst e2
        exact e (h.dis i j _ hi hj e' (by rw [hv]; rfl)))
def marked (k0 : Int) (L : Nat) (ls : Nat → List Int) (j : Nat) : Nat → List Int := fun i => if i < j then mk (k0 + (i * L : Nat)) L else ls i
def MarkedT (B m L : Nat) (k0 : Int) (v : Value) (VR : Nat → Value) (w : World) (e : Ending) (w' : World) : Prop :=
  e = .returned (.int .i64 (k0 + (m * L : Nat))) ∧ Outer w' B m v VR ∧ TT w' B m VR (fun j => mk (k0 + (j * L : Nat)) L) ∧ Below B w w'
set_option maxHeartbeats 1600000 in
theorem markSS_any (w : World) (B m c L : Nat) (A : Option Addr) (VR : Nat → Value) (ls : Nat → List Int) (hO : Outer w B m (.slice A m c) VR) (hT : TT w B m VR ls) (hm : m ≤ 7) (hl : ∀ j, j < m → (ls j).length = L) (hL1 : 1 ≤ L) (hL7 : L ≤ 7) :
    Calls Try.prog 41 #[.slice A m c, .int .i64 1] w (MarkedT B m L 1 (.slice A m c) VR w) := by
  have HO := Lib.hid hO
  have HT := Lib.hid hT
  have HL := Lib.hid hl
  obtain ⟨A2, c2, e, _, _, h3⟩ := own_sliceN hO
  injection e with e _ _
  subst e
  have HA := Lib.hid h3
  clear hO hT hl h3
  go_enter Try.func41, Try.ntmps41
  go_wp2
  go_loopw [1, 5] (fun a i wr => ∃ j : Nat, j ≤ m ∧ i = .int .i64 j ∧ a = .int .i64 (1 + (j * L : Nat)) ∧ Outer wr B m (.slice A m c) VR ∧ TT wr B m VR (marked 1 L ls j) ∧ Below B w wr) (fun _ i _ => m - (intOf i).toNat)
  case atStart => exact ⟨0, by omega, rfl, by simp, HO.out, HT.out.congr (fun j _ => by simp [marked]), Below.refl _ _⟩
  case round =>
    obtain ⟨j, hj, rfl, rfl, hO, hT, hnx⟩ := hrel
    by_cases hlt : j < m
    · obtain ⟨g0, rfl, -, -⟩ := HA.out (by omega)
      have hlj : (marked 1 L ls j j).length = L := by simp only [marked]; rw [if_neg (by omega)]; exact HL.out j hlt
      have hoj := hT.own j hlt
      obtain ⟨Aj, cj, ej, -, -, h5⟩ := own_sliceN hoj
      rw [hlj] at ej h5 hoj
      obtain ⟨g, rfl, hgB, -⟩ := h5 (by omega)
      rw [ej] at hoj
      have cc := Outer.cell hO hlt
      rw [ej] at cc
      have hjL : j * L ≤ 49 := Nat.mul_le_mul (show j ≤ 7 by omega) hL7
      have Hc := Lib.hid (markI_any wr B g L cj (1 + (j * L : Nat)) _ hoj hlj (by omega) (by omega) (by omega))
      have HO' := Lib.hid hO
      have HT' := Lib.hid hT
      have HB' := Lib.hid hnx
      have Hej := Lib.hid ej
      clear hoj hO hT hnx ej h5 hlj
      go_wp2_with fail
      refine Hc.out.mono ?_
      rintro e w2 ⟨rfl, hown2, hg2⟩
      have hT2 := (HT'.out.mark hlt Hej.out hg2 hown2 (mk_len _ _)).congr (ls' := marked 1 L ls (j + 1)) (fun i hi => by
        by_cases e : i = j
        · subst e; rw [upd_at]; simp [marked]
        · rw [upd_other _ _ e]
          simp only [marked]
          by_cases h : i < j
          · rw [if_pos h, if_pos (by omega)]
          · rw [if_neg h, if_neg (by omega)])
      have hO2 := HO'.out.kept HT'.out (r := j) hlt (Below.refl _ _) (by rw [Hej.out]; exact hg2)
      have hb2 := (HB'.out.grown hg2 (Nat.le_of_lt (Nat.lt_of_le_of_lt hgB (own_heap (HT'.out.own j hlt) (g := g) (by rw [Hej.out]; rfl)).2.2)) (fun k e => by injection e with e; omega))
      have HT2 := Lib.hid hT2
      have HO2 := Lib.hid hO2
      have HB2 := Lib.hid hb2
      clear hT2 hO2 hb2 hown2 hg2 cc
      go_wp2
      go_roundw
      case rel => exact ⟨j + 1, by omega, by go_num, by congr 1; rw [Nat.succ_mul]; omega, HO2.out, HT2.out, HB2.out⟩
      case measure => simp [intOf]; omega
    · have hjm : j = m := by omega
      subst hjm
      have HO' := Lib.hid hO
      have HT' := Lib.hid hT
      clear hO hT
      go_wp2
      go_ret
      exact ⟨rfl, HO'.out, HT'.out.congr (fun i hi => by simp only [marked]; rw [if_pos hi]), hnx⟩
set_option maxHeartbeats 1600000 in
theorem heldSS_any (w : World) (B m c L : Nat) (A : Option Addr) (VR : Nat → Value) (hO : Outer w B m (.slice A m c) VR) (hT : TT w B m VR (fun j => mk (1 + (j * L : Nat)) L)) (hm : m ≤ 7) (hL7 : L ≤ 7) :
    Calls Try.prog 42 #[.slice A m c, .int .i64 1] w fun e w' => e = .returned (.int .i64 (1 + (m * L : Nat))) ∧ w = w' := by
  have HO := Lib.hid hO
  have HT := Lib.hid hT
  obtain ⟨A2, c2, e, _, _, h3⟩ := own_sliceN hO
  injection e with e _ _
  subst e
  have HA := Lib.hid h3
  clear hO hT h3
  go_enter Try.func42, Try.ntmps42
  go_wp2
  go_loop [1, 5] (fun a i => ∃ j : Nat, j ≤ m ∧ i = .int .i64 j ∧ a = .int .i64 (1 + (j * L : Nat))) (fun _ i => m - (intOf i).toNat)
  case atStart => exact ⟨0, by omega, rfl, by simp⟩
  case round =>
    obtain ⟨j, hj, rfl, rfl⟩ := hrel
    by_cases hlt : j < m
    · obtain ⟨g0, rfl, -, -⟩ := HA.out (by omega)
      obtain ⟨Aj, cj, ej, hrj⟩ := HT.out.row hlt
      have cc := Outer.cell HO.out hlt
      rw [ej, mk_len] at cc
      have hjL : j * L ≤ 49 := Nat.mul_le_mul (show j ≤ 7 by omega) hL7
      have Hc := Lib.hid (heldI_any w w.heap.size L cj (1 + (j * L : Nat)) Aj hrj (by omega) (by omega) (by omega))
      have hpos : ¬ (1 + ((j * L : Nat) : Int) + (L : Int)) < 0 := by omega
      clear hrj ej
      go_wp2_with fail
      refine Hc.out.mono ?_
      rintro e w' ⟨rfl, rfl⟩
      go_wp2
      go_round
      case rel => exact ⟨j + 1, by omega, by go_num, by congr 1; rw [Nat.succ_mul]; omega⟩
      case measure => simp [intOf]; omega
    · have hjm : j = m := by omega
      subst hjm
      go_wp2
      go_ret
      exact ⟨rfl, rfl⟩
end Go.Proofs.Ytdhelapgdgekfaa
namespace Go.Proofs.Ytdhelapgdgekfaa
open Go.ChangeShapes Go.WideShapes Go.ChangeAt Go.RowKit
set_option linter.unusedVariables false
set_option maxRecDepth 4000

set_option maxHeartbeats 1600000 in
theorem markR_any (w : World) (B b n : Nat) (xs : List Value) (hown : w.ownsRow B 42 2 (.slice (some ⟨b, 0, none⟩) n n) n xs) (hn : n ≤ 1048576) :
    Calls Try.prog 40 #[.slice (some ⟨b, 0, none⟩) n n, .int .i64 1] w fun e w' => e = .returned (.int .i64 (1 + (n * 2 : Nat))) ∧ w.grownBy w' (some b) := by
  have Hown := Lib.hid hown
  clear hown
  go_enter Try.func40, Try.ntmps40
  go_wp2
  go_loopw [1, 5] (fun a i wr => ∃ j : Nat, ∃ xs, j ≤ n ∧ i = .int .i64 j ∧ a = .int .i64 (1 + (j * 2 : Nat)) ∧ wr.ownsRow B 42 2 (.slice (some ⟨b, 0, none⟩) n n) n xs ∧ w.grownBy wr (some b)) (fun _ i _ => n - (intOf i).toNat)
  case atStart => exact ⟨0, xs, by omega, rfl, by simp, Hown.out, ⟨rfl, rfl, rfl, Nat.le_refl _, fun _ _ _ => rfl⟩⟩
  case round =>
    obtain ⟨j, ys, hj, rfl, rfl, hown, hg⟩ := hrel
    by_cases hlt : j < n
    · obtain ⟨v, hv⟩ := own_cell hown (j := j * 2) (by omega) hown.1
      obtain ⟨v2, hv2⟩ := own_cell hown (j := j * 2 + 1) (by omega) hown.1
      have hf := hown.frozenAt (j * 2)
      have hf2 := hown.frozenAt (j * 2 + 1)
      have h1 := hown.stored (j * 2) (.int .i64 (1 + (j * 2 : Nat)))
      have h2 := h1.1.stored (j * 2 + 1) (.int .i64 (1 + (j * 2 : Nat) + 1))
      have HO := Lib.hid h2.1
      have HG := Lib.hid (gb_trans (gb_trans hg h1.2 (.inl rfl)) h2.2 (.inl rfl))
      clear h1 h2 hown hg
      go_wp2
      go_roundw
      case rel => exact ⟨j + 1, _, by omega, by go_num, by congr 1; omega, HO.out, HG.out⟩
      case measure => simp [intOf]; omega
    · have hjn : j = n := by omega
      subst hjn
      go_wp2
      go_ret
      exact ⟨rfl, hg⟩
end Go.Proofs.Ytdhelapgdgekfaa
namespace Go.Proofs.Ytdhelapgdgekfaa
open Go.ChangeShapes Go.WideShapes Go.ChangeAt Go.RowKit
set_option linter.unusedVariables false
set_option maxRecDepth 4000

def tm (t : List (Int × Int)) : Nat := if vt t = true then t.length else 0
def tL (t : List (Int × Int)) : Nat := if vt t = true then t.length else 1
theorem tm_bd (t : List (Int × Int)) : tm t ≤ 7 ∧ 1 ≤ tL t ∧ tL t ≤ 7 ∧ ∀ j, j < tm t → (rowN t t.length j).length = tL t := by
  unfold tm tL
  by_cases h : vt t = true
  · obtain ⟨h1, h7, -⟩ := (vt_iff t).1 h
    rw [if_pos h, if_pos h]
    exact ⟨h7, h1, h7, fun j _ => rowN_len _ _ _⟩
  · rw [if_neg h, if_neg h]
    exact ⟨by omega, by omega, by omega, fun j hj => by omega⟩
/-- What both tables are. -/
def TabUni (w : World) (t : List (Int × Int)) (e : Ending) (w' : World) : Prop :=
  ∃ A c VR, e = .returned (.slice A (tm t) c) ∧ Outer w' w.heap.size (tm t) (.slice A (tm t) c) VR ∧ TT w' w.heap.size (tm t) VR (rowN t t.length) ∧ Below w.heap.size w w'
theorem tab_uni {w w' : World} {t : List (Int × Int)} {e : Ending} (h : TabAns w t e w') : TabUni w t e w' := by
  unfold TabUni tm
  rcases h with ⟨hv, rfl, hb⟩ | ⟨hv, v, VR, rfl, hO, hT, hb⟩
  · rw [hv]
    simp only [Bool.false_eq_true, if_false]
    exact ⟨none, 0, fun _ => .nilIface, rfl, World.ownsRow_nil _ _ _ _, ⟨fun j hj => by omega, fun i j g hi => by omega⟩, hb⟩
  · rw [if_pos hv]
    obtain ⟨A, c, e, _⟩ := own_sliceN hO
    subst e
    exact ⟨A, c, VR, rfl, hO, hT, hb⟩
theorem eqSS_below (w : World) (B B' m c c' : Nat) (A A' : Option Addr) (VR VR' : Nat → Value) (ls : Nat → List Int) (hO : Outer w B m (.slice A m c) VR) (hT : TT w B m VR ls) (hO' : Outer w B' m (.slice A' m c') VR') (hT' : TT w B' m VR' ls) (hm : m ≤ 7) (hl : ∀ j, j < m → (ls j).length ≤ 7) :
    Calls Try.prog 39 #[.slice A m c, .slice A' m c'] w fun e w' => e = .returned (.bool true) ∧ Below w.heap.size w w' :=
  calls_drawn (eqSS_any w B B' m c c' A A' VR VR' ls hO hT hO' hT' hm hl)

set_option maxHeartbeats 1600000 in
theorem exTreeTable_walk (A : Option Addr) (c : Nat) (ts : List (Int × Int)) (w : World) (hr : RdR w w.heap.size A ts) (hm : ts.length ≤ maxLen) :
    Calls Try.prog 10 #[.slice A ts.length c] w fun e w' => e = .returned (.bool true) ∧ Below w.heap.size w w' := by
  unfold maxLen at hm
  by_cases hb : 1048576 < ts.length
  · go_enter Try.func10, Try.ntmps10
    go_wp2_with fail
    refine (szR_big A c _ w hm hb).mono ?_
    rintro e w' ⟨rfl, rfl⟩
    go_wp2
    go_ret
    exact ⟨rfl, Below.refl _ _⟩
  · obtain ⟨hm7, hL1, hL7, hll⟩ := tm_bd ts
    have hll7 : ∀ j, j < tm ts → (rowN ts ts.length j).length ≤ 7 := fun j hj => by rw [hll j hj]; exact hL7
    have Hll := Lib.hid hll
    have Hll7 := Lib.hid hll7
    obtain ⟨m, Hm⟩ : ∃ m, Hid (tm ts = m) := ⟨_, rfl⟩
    obtain ⟨L, HL⟩ : ∃ L, Hid (tL ts = L) := ⟨_, rfl⟩
    rw [HL.out] at hL1 hL7
    rw [Hm.out] at hm7
    have Hr := Lib.hid hr
    clear hll hll7 hr
    go_enter Try.func10, Try.ntmps10
    go_wp2_with fail
    refine (szR_fits A c _ w (by omega)).mono ?_
    rintro e w' ⟨q, hq, rfl, rfl⟩
    go_wp2_with fail
    refine (toR_any A c _ ts w Hr.out rfl (by omega)).mono ?_
    rintro e w1 ⟨b1, rfl, hb1, hr1, hnx1, -⟩
    have B1 := Lib.hid hnx1
    have R1 := Lib.hid hr1
    clear hnx1 hr1 hb1
    go_wp2_with fail
    refine (sTreeTable_any _ _ _ ts w1 R1.out rfl (by omega)).mono ?_
    rintro e w2 hans
    obtain ⟨A0, c0, VR0, rfl, hO0, hT0, hnx2⟩ := tab_uni hans
    have O0 := Lib.hid hO0
    have T0 := Lib.hid hT0
    have B2 := Lib.hid (B1.out.trans (hnx2.mono B1.out.size))
    clear hans hO0 hT0 hnx2
    go_wp2_with fail
    refine (toR_any A c _ ts w2 ((Hr.out.below B2.out).more B2.out.size) rfl (by omega)).mono ?_
    rintro e w3 ⟨b3, rfl, hb3, hr3, hnx3, hown3⟩
    have B3 := Lib.hid (B2.out.trans (hnx3.mono B2.out.size))
    have C3 := Lib.hid hnx3
    have R3 := Lib.hid hr3
    have X3 := Lib.hid hown3
    have Hb3 := Lib.hid hb3
    clear hb3 hr3 hnx3 hown3
    go_wp2_with fail
    refine (iTreeTable_any _ _ _ ts w3 R3.out rfl (Nat.le_refl _) (by omega)).mono ?_
    rintro e w4 hans
    obtain ⟨A1, c1, VR1, rfl, hO1, hT1, hnx4⟩ := tab_uni hans
    have O1 := Lib.hid hO1
    have T1 := Lib.hid hT1
    have D4 := Lib.hid hnx4
    have C4 := Lib.hid (C3.out.trans (hnx4.mono C3.out.size))
    have B4 := Lib.hid (B2.out.trans (C4.out.mono B2.out.size))
    clear hans hO1 hT1 hnx4
    rw [Hm.out] at O0 T0 O1 T1
    rw [Hm.out]
    go_wp2_with fail
    refine (eqSS_below w4 _ _ m c1 c0 A1 A0 VR1 VR0 (rowN ts ts.length) O1.out T1.out (O0.out.below C4.out) (T0.out.below C4.out) hm7 (fun j hj => Hll7.out j (by rw [Hm.out]; exact hj))).mono ?_
    rintro e w5 ⟨rfl, hnx5⟩
    have E5 := Lib.hid hnx5
    have B5 := Lib.hid (B4.out.trans (hnx5.mono B4.out.size))
    clear hnx5
    go_wp2_with fail
    refine (toR_any A c _ ts w5 ((Hr.out.below B5.out).more B5.out.size) rfl (by omega)).mono ?_
    rintro e w6 ⟨b6, rfl, -, hr6, hnx6, -⟩
    have E6 := Lib.hid (E5.out.trans (hnx6.mono E5.out.size))
    have B6 := Lib.hid (B5.out.trans (hnx6.mono B5.out.size))
    have R6 := Lib.hid hr6
    clear hr6 hnx6
    have R36 := Lib.hid ((R3.out.below (D4.out.trans (E6.out.mono D4.out.size))).more (Nat.le_trans D4.out.size E6.out.size))
    go_wp2_with fail
    refine (eqR_same _ _ _ _ _ _ ts w6 _ _ R36.out rfl R6.out rfl (by omega) (Nat.le_refl _) (Nat.le_refl _)).mono ?_
    rintro e w7 ⟨rfl, hnx7⟩
    have E7 := Lib.hid (E6.out.trans (hnx7.mono E6.out.size))
    have B7 := Lib.hid (B6.out.trans (hnx7.mono B6.out.size))
    clear hnx7
    have X7 := Lib.hid (ownN_below X3.out (D4.out.trans (E7.out.mono D4.out.size)))
    go_wp2_with fail
    refine (markR_any w7 _ _ _ _ X7.out (by omega)).mono ?_
    rintro e w8 ⟨rfl, hg8⟩
    obtain ⟨⟨csx, hcx⟩, -, hbl⟩ := own_heap X7.out (g := b3) rfl
    have O18 := Lib.hid ((O1.out.below E7.out).keptRow hg8 hcx (by decide))
    have T18 := Lib.hid ((T1.out.below E7.out).keptBy hg8 (fun g e => by injection e with e; subst e; exact ⟨csx, _, hcx, by decide⟩))
    have C7 := Lib.hid (C4.out.trans (E7.out.mono C4.out.size))
    have C8 := Lib.hid (C7.out.grown hg8 C7.out.size (fun k e => by injection e with e; have := Hb3.out; omega))
    have B8 := Lib.hid (B2.out.trans (C8.out.mono B2.out.size))
    have D8 : Hid (w3.heap.size ≤ w8.heap.size) := Nat.le_trans D4.out.size (Nat.le_trans E7.out.size hg8.size)
    have hpos1 : ¬ (1 + ((ts.length * 2 : Nat) : Int)) < 0 := by omega
    clear hg8 hcx hbl
    go_wp2_with fail
    refine (eqSS_below w8 _ _ m c1 c0 A1 A0 VR1 VR0 (rowN ts ts.length) O18.out T18.out (O0.out.below C8.out) (T0.out.below C8.out) hm7 (fun j hj => Hll7.out j (by rw [Hm.out]; exact hj))).mono ?_
    rintro e w9 ⟨rfl, hnx9⟩
    have O19 := Lib.hid (O18.out.below hnx9)
    have T19 := Lib.hid (T18.out.below hnx9)
    have C9 := Lib.hid (C8.out.trans (hnx9.mono C8.out.size))
    have B9 := Lib.hid (B8.out.trans (hnx9.mono B8.out.size))
    have D9 : Hid (w3.heap.size ≤ w9.heap.size) := Nat.le_trans D8.out hnx9.size
    clear hnx9
    go_wp2_with fail
    refine (markSS_any w9 _ m c1 L A1 VR1 (rowN ts ts.length) O19.out T19.out hm7 (fun j hj => by rw [Hll.out j (by rw [Hm.out]; exact hj), HL.out]) hL1 hL7).mono ?_
    rintro e w10 ⟨rfl, hO10, hT10, hnx10⟩
    have O110 := Lib.hid hO10
    have T110 := Lib.hid hT10
    have C10 := Lib.hid (C9.out.trans (hnx10.mono C3.out.size))
    have B10 := Lib.hid (B2.out.trans (C10.out.mono B2.out.size))
    have hmL : m * L ≤ 49 := Nat.mul_le_mul hm7 hL7
    have hpos2 : ¬ (1 + ((m * L : Nat) : Int)) < 0 := by omega
    have hbn : ∀ x : Int, (x != x) = false := fun x => by simp
    clear hO10 hT10 hnx10
    go_wp2_with fail
    refine (heldSS_any w10 _ m c1 L A1 VR1 O110.out T110.out hm7 hL7).mono ?_
    rintro e w' ⟨rfl, rfl⟩
    go_wp2_with fail
    refine (toR_any A c _ ts w10 ((Hr.out.below B10.out).more B10.out.size) rfl (by omega)).mono ?_
    rintro e w11 ⟨b11, rfl, -, hr11, hnx11, -⟩
    have R11 := Lib.hid hr11
    have F11 := Lib.hid hnx11
    have C11 := Lib.hid (C10.out.trans (hnx11.mono C10.out.size))
    have B11 := Lib.hid (B10.out.trans (hnx11.mono B10.out.size))
    clear hr11 hnx11
    go_wp2_with fail
    refine (iTreeTable_any _ _ _ ts w11 R11.out rfl (Nat.le_refl _) (by omega)).mono ?_
    rintro e w12 hans
    obtain ⟨A2, c2, VR2, rfl, hO2, hT2, hnx12⟩ := tab_uni hans
    rw [Hm.out] at hO2 hT2
    rw [Hm.out]
    have O2 := Lib.hid hO2
    have T2 := Lib.hid hT2
    have F12 := Lib.hid (F11.out.trans (hnx12.mono F11.out.size))
    have C12 := Lib.hid (C11.out.trans (hnx12.mono C11.out.size))
    have B12 := Lib.hid (B11.out.trans (hnx12.mono B11.out.size))
    clear hans hO2 hT2 hnx12
    go_wp2_with fail
    refine (eqSS_below w12 _ _ m c2 c0 A2 A0 VR2 VR0 (rowN ts ts.length) O2.out T2.out (O0.out.below C12.out) (T0.out.below C12.out) hm7 (fun j hj => Hll7.out j (by rw [Hm.out]; exact hj))).mono ?_
    rintro e w13 ⟨rfl, hnx13⟩
    have F13 := Lib.hid (F12.out.trans (hnx13.mono F12.out.size))
    have B13 := Lib.hid (B12.out.trans (hnx13.mono B12.out.size))
    clear hnx13
    go_wp2_with fail
    refine (heldSS_any w13 _ m c1 L A1 VR1 (O110.out.below F13.out) (T110.out.below F13.out) hm7 hL7).mono ?_
    rintro e w' ⟨rfl, rfl⟩
    go_wp2
    go_ret
    exact ⟨rfl, B13.out⟩
end Go.Proofs.Ytdhelapgdgekfaa
namespace Go.Proofs.Ytdhelapgdgekfaa
open Go.ChangeShapes Go.WideShapes Go.ChangeAt Go.RowKit
set_option linter.unusedVariables false
set_option maxRecDepth 4000

set_option maxHeartbeats 1600000 in
theorem lawTreeTable_walk (A : Option Addr) (c : Nat) (bs : List Int) (w : World) (hr : RdB w w.heap.size A bs) (hcap : bs.length ≤ c) (hm : c ≤ maxLen) :
    Calls Try.prog 3 #[.slice A bs.length c] w fun e w' => e = .returned (.bool true) ∧ Below w.heap.size w w' := by
  unfold maxLen at hm
  by_cases hb : 1048576 < bs.length
  · go_enter Try.func3, Try.ntmps3
    go_wp2
    go_ret
    exact ⟨rfl, Below.refl _ _⟩
  · have H := Lib.hid (drawTreeTable_any A c bs.length bs w hr rfl hcap hm)
    go_enter Try.func3, Try.ntmps3
    go_wp2_with fail
    refine H.out.mono ?_
    rintro e w1 ⟨A', c', ts, rfl, hl, hc1, hc2, hrd, hnx1⟩
    obtain ⟨hm7, -, hL7, hll⟩ := tm_bd ts
    have Hll : Hid (∀ j, j < tm ts → (rowN ts ts.length j).length ≤ 7) := fun j hj => by rw [hll j hj]; exact hL7
    clear hll hL7
    have Hrd := Lib.hid hrd
    have HB1 := Lib.hid hnx1
    clear hrd hnx1
    go_wp2_with fail
    refine (iTreeTable_any A' c' ts.length ts w1 Hrd.out rfl hc1 (by omega)).mono ?_
    rintro e w2 hans
    have hans := tab_uni hans
    unfold TabUni at hans
    obtain ⟨A1, c1, VR1, rfl, hO1, hT1, hq⟩ := hans
    have O1 := Lib.hid hO1
    have T1' := Lib.hid hT1
    have R2 := Lib.hid ((Hrd.out.below hq).more hq.size)
    have HB2 := Lib.hid (HB1.out.trans (hq.mono HB1.out.size))
    clear hO1 hT1 hq
    go_wp2_with fail
    refine (sTreeTable_any A' c' ts.length ts w2 R2.out rfl (by omega)).mono ?_
    rintro e w3 hans
    have hans := tab_uni hans
    unfold TabUni at hans
    obtain ⟨A0, c0, VR0, rfl, hO0, hT0, hq⟩ := hans
    have O13 := Lib.hid (O1.out.below hq)
    have T13 := Lib.hid (T1'.out.below hq)
    have R3 := Lib.hid ((R2.out.below hq).more hq.size)
    have HB3 := Lib.hid (HB2.out.trans (hq.mono HB2.out.size))
    go_wp2_with fail
    refine (eqLR_below w3 _ _ (tm ts) c1 c0 A1 A0 VR1 VR0 (rowN ts ts.length) O13.out T13.out hO0 hT0 hm7 Hll.out).mono ?_
    rintro e w4 ⟨rfl, hq4⟩
    have O14 := Lib.hid (O13.out.below hq4)
    have T14 := Lib.hid (T13.out.below hq4)
    have R4 := Lib.hid ((R3.out.below hq4).more hq4.size)
    have HB4 := Lib.hid (HB3.out.trans (hq4.mono HB3.out.size))
    clear hO0 hT0 hq hq4 O1 T1' O13 T13
    by_cases hv : vt ts = true
    · obtain ⟨g1, g7, -⟩ := (vt_iff ts).1 hv
      have htm : tm ts = ts.length := if_pos hv
      have Hnet := Lib.hid (strOf_net hv)
      have Hdn := Lib.hid (fun a b (ha : a < ts.length) (hb : b < ts.length) => strOf_dn hv ha hb)
      have hz : (((ts.length : Nat) : Int) == 0) = false := by rw [beq_eq_false_iff_ne]; omega
      rw [htm] at O14 T14 Hll hm7 ⊢
      clear hv
      go_wp2_with fail
      refine (streetsOf_any A' c' ts.length ts w4 R4.out rfl (by omega)).mono ?_
      rintro e w5 ⟨A5, c5, rfl, hc5, hc6, hrd5, hq5⟩
      have O15 := Lib.hid (O14.out.below hq5)
      have T15 := Lib.hid (T14.out.below hq5)
      have HB5 := Lib.hid (HB4.out.trans (hq5.mono HB4.out.size))
      have N5 : Hid (NetIn w5 A5 c5 (ts.length - 1) (ts.length : Nat) (strOf ts)) := ⟨hrd5, strOf_len ts, ⟨hc5, hc6⟩, by omega, wf_small (by omega)⟩
      clear hrd5 hq5 O14 T14
      go_wp2_with fail
      refine (iNetTable_ok A5 c5 _ _ _ w5 N5.out).mono ?_
      rintro e w6 (⟨hno, -, -⟩ | ⟨-, v6, VR6, rfl, hO6, hT6, hq6⟩)
      · exact absurd (Hnet.out.symm.trans hno) (by decide)
      obtain ⟨A6, c6, rfl, -, -, -⟩ := own_sliceN hO6
      have hT7 := hT6.congr (ls' := rowN ts ts.length) (fun j hj => by
        unfold rowN
        exact List.map_congr_left fun b hb => Hdn.out j b hj (List.mem_range.1 hb))
      have O16 := Lib.hid (O15.out.below hq6)
      have T16 := Lib.hid (T15.out.below hq6)
      have HB6 := Lib.hid (HB5.out.trans (hq6.mono HB5.out.size))
      clear hT6 hq6 O15 T15
      go_wp2_with fail
      refine (eqLR_below w6 _ _ ts.length c6 c1 A6 A1 VR6 VR1 (rowN ts ts.length) hO6 hT7 O16.out T16.out hm7 Hll.out).mono ?_
      rintro e w7 ⟨rfl, hq7⟩
      have HB7 := Lib.hid (HB6.out.trans (hq7.mono HB6.out.size))
      go_wp2
      go_ret
      exact ⟨rfl, HB7.out⟩
    · have htm : tm ts = 0 := if_neg hv
      rw [htm] at O14 T14 Hll hm7 ⊢
      go_wp2_with fail
      refine (sTreeTable_any A' c' ts.length ts w4 R4.out rfl (by omega)).mono ?_
      rintro e w5 hans
      have hans := tab_uni hans
      unfold TabUni at hans
      rw [htm] at hans
      obtain ⟨A0, c0, VR0, rfl, hO0, hT0, hq⟩ := hans
      have O15 := Lib.hid (O14.out.below hq)
      have T15 := Lib.hid (T14.out.below hq)
      have HB5 := Lib.hid (HB4.out.trans (hq.mono HB4.out.size))
      go_wp2_with fail
      refine (eqLR_below w5 _ _ 0 c1 c0 A1 A0 VR1 VR0 (rowN ts ts.length) O15.out T15.out hO0 hT0 hm7 Hll.out).mono ?_
      rintro e w6 ⟨rfl, hq6⟩
      have HB6 := Lib.hid (HB5.out.trans (hq6.mono HB5.out.size))
      go_wp2
      go_ret
      exact ⟨rfl, HB6.out⟩
end Go.Proofs.Ytdhelapgdgekfaa
