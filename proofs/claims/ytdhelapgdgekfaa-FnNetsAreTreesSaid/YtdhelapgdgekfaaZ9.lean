/-
  Tables in the exact laws: compared, marked, and the marks read again.
  Conditions: none beyond what each theorem states.
  ValidTree: the program and the model answer the same.
  Conditions: fewer than 2^60 roads.
  validFolk: the program and the model answer the same.
  Conditions: fewer than 2^60 numbers.
  The reader that draws inputs: what it answers lies in its range, and it writes its own place alone.
  Conditions: fewer than 100000 draws.
  The reader made; one of a list drawn; homes drawn.
  Conditions: none beyond what each theorem states.
  Numbers drawn out of a list that is written out.
  Conditions: none beyond what each theorem states.
-/
import Derived.Test.YtdhelapgdgekfaaZ2
import Derived.Test.YtdhelapgdgekfaaZ4
import Derived.Deep.Quiet
import Derived.Deep.AppendLies
import Derived.Maps.AppendAt
import Derived.Deep.CutBlock
namespace Go.Proofs.Ytdhelapgdgekfaa
open Go.ChangeShapes Go.WideShapes Go.ChangeAt Go.RowKit
set_option linter.unusedVariables false
set_option maxRecDepth 4000

/-- The numbers from k on. -/
def mk (k : Int) (n : Nat) : List Int := (List.range n).map fun (i : Nat) => k + (i : Int)
theorem mk_len (k : Int) (n : Nat) : (mk k n).length = n := by simp [mk]
theorem mk_get {k : Int} {n i : Nat} (h : i < n) : (mk k n).getD i 0 = k + i := by simp [mk, List.getD, h]
/-- The first k elements are marks, the others as they were. -/
def mkL (k : Int) (zs : List Int) (m : Nat) : List Value := ((mk k m) ++ zs.drop m).map (Value.int .i64)
theorem mkL_step {w : World} {B b n cap m : Nat} {t : TypeId} {k : Int} {zs : List Int} (hm : m < zs.length) (hown : w.ownsRow B t 1 (.slice (some ⟨b, 0, none⟩) n cap) n (mkL k zs m)) :
    (w.setCell ⟨b, m, none⟩ (Value.int .i64 (k + m))).ownsRow B t 1 (.slice (some ⟨b, 0, none⟩) n cap) n (mkL k zs (m + 1)) := by
  have h := (hown.stored m (Value.int .i64 (k + m))).1
  have e : (mkL k zs m).set m (Value.int .i64 (k + m)) = mkL k zs (m + 1) := by
    unfold mkL
    rw [← List.map_set]
    congr 1
    apply List.ext_getElem?
    intro i
    rw [List.getElem?_set]
    by_cases e : m = i
    · subst e
      rw [if_pos rfl, if_pos (by simp [mk_len]; omega), List.getElem?_append_left (by simp [mk_len])]
      simp [mk]
    · rw [if_neg e]
      by_cases hi : i < m
      · rw [List.getElem?_append_left (by simp [mk_len, hi]), List.getElem?_append_left (by simp [mk_len]; omega)]
        simp [mk, hi, show i < m + 1 by omega]
      · rw [List.getElem?_append_right (by simp [mk_len]; omega), List.getElem?_append_right (by simp [mk_len]; omega)]
        simp only [mk_len, List.getElem?_drop]
        congr 1; omega
  rw [e] at h
  exact h
def MarkPost (B g n cap : Nat) (k : Int) (w : World) (e : Ending) (w' : World) : Prop :=
  e = .returned (.int .i64 (k + n)) ∧ w'.ownsRow B 3 1 (.slice (some ⟨g, 0, none⟩) n cap) n ((mk k n).map (Value.int .i64)) ∧ w.grownBy w' (some g)
set_option maxHeartbeats 800000 in
theorem markI_any (w : World) (B g n cap : Nat) (k : Int) (zs : List Int) (hown : w.ownsRow B 3 1 (.slice (some ⟨g, 0, none⟩) n cap) n (zs.map (Value.int .i64))) (hn : zs.length = n) (hn7 : n ≤ 1000) (hk0 : 0 ≤ k) (hk : k ≤ 100000000) :
    Calls Try.prog 87 #[.slice (some ⟨g, 0, none⟩) n cap, .int .i64 k] w (MarkPost B g n cap k w) := by
  have Hn := Lib.hid hn
  have Hown := Lib.hid hown
  clear hn hown
  go_enter Try.func87, Try.ntmps87
  go_wp2
  go_loopw [1, 5] (fun a i wr => ∃ m : Nat, m ≤ n ∧ i = .int .i64 m ∧ a = .int .i64 (k + m) ∧ wr.ownsRow B 3 1 (.slice (some ⟨g, 0, none⟩) n cap) n (mkL k zs m) ∧ w.grownBy wr (some g)) (fun _ i _ => n - (intOf i).toNat)
  case atStart => exact ⟨0, by omega, rfl, by simp, by simpa [mkL, mk] using Hown.out, ⟨rfl, rfl, rfl, Nat.le_refl _, fun _ _ _ => rfl⟩⟩
  case round =>
    obtain ⟨m, hm, rfl, rfl, hown, hg⟩ := hrel
    by_cases hlt : m < n
    · have hst := mkL_step (by rw [Hn.out]; exact hlt) hown
      obtain ⟨v, hv⟩ := own_cell hown (j := m) (by omega) (by unfold mkL; simp [mk_len, Hn.out]; omega)
      have hf := hown.frozenAt m
      have hgs := (hown.stored m (.int .i64 (k + m))).2
      have HST := Lib.hid hst
      have HG := Lib.hid (gb_trans hg hgs (.inl rfl))
      clear hst hgs hown hg
      go_wp2
      go_roundw
      case rel => exact ⟨m + 1, by omega, by go_num, by congr 1; omega, HST.out, HG.out⟩
      case measure => simp [intOf]; omega
    · have hmn : m = n := by omega
      subst hmn
      have HO := Lib.hid hown
      clear hown
      go_wp2
      go_ret
      refine ⟨rfl, ?_, hg⟩
      have := HO.out
      unfold mkL at this
      rw [List.drop_of_length_le (by rw [Hn.out]; omega), List.append_nil] at this
      exact this
set_option maxHeartbeats 800000 in
theorem heldI_any (w : World) (B n c : Nat) (k : Int) (A : Option Addr) (hr : RdI w B A (mk k n)) (hn7 : n ≤ 1000) (hk0 : 0 ≤ k) (hk : k ≤ 100000000) :
    Calls Try.prog 88 #[.slice A n c, .int .i64 k] w fun e w' => e = .returned (.int .i64 (k + n)) ∧ w = w' := by
  go_enter Try.func88, Try.ntmps88
  go_wp2
  go_loop [1, 5] (fun a i => ∃ m : Nat, m ≤ n ∧ i = .int .i64 m ∧ a = .int .i64 (k + m)) (fun _ i => n - (intOf i).toNat)
  case atStart => exact ⟨0, by omega, rfl, by simp⟩
  case round =>
    obtain ⟨m, hm, rfl, rfl⟩ := hrel
    by_cases hlt : m < n
    · obtain ⟨b, off, x, rfl, -, Hx, hcx⟩ := hr.x (k := m) (by rw [mk_len]; exact hlt)
      have hx := Hx.out
      rw [mk_get hlt] at hx
      subst hx
      have hb1 : (k + (m : Int) != k + (m : Int)) = false := by simp
      go_wp2
      go_round
      case rel => exact ⟨m + 1, by omega, by go_num, by congr 1; omega⟩
      case measure => simp [intOf]; omega
    · have hmn : m = n := by omega
      subst hmn
      go_wp2
      go_ret
      exact ⟨rfl, rfl⟩
set_option maxHeartbeats 1600000 in
theorem eqSS_any (w : World) (B B' m c c' : Nat) (A A' : Option Addr) (VR VR' : Nat → Value) (ls : Nat → List Int) (hO : Outer w B m (.slice A m c) VR) (hT : TT w B m VR ls) (hO' : Outer w B' m (.slice A' m c') VR') (hT' : TT w B' m VR' ls) (hm : m ≤ 7) (hl : ∀ j, j < m → (ls j).length ≤ 7) :
    Calls Try.prog 39 #[.slice A m c, .slice A' m c'] w fun e w' => e = .returned (.bool true) ∧ ∃ q, w' = w.drewN q := by
  have HO := Lib.hid hO
  have HT := Lib.hid hT
  have HO' := Lib.hid hO'
  have HT' := Lib.hid hT'
  have HL := Lib.hid hl
  have hs : ∀ {B : Nat} {A : Option Addr} {c : Nat} {VR : Nat → Value}, Outer w B m (.slice A m c) VR → 0 < m → ∃ g, A = some ⟨g, 0, none⟩ := fun h hp => by
    obtain ⟨A2, c2, e, _, _, h3⟩ := own_sliceN h
    obtain ⟨g, e2, _⟩ := h3 hp
    injection e with e _ _
    exact ⟨g, e.trans e2⟩
  have HS1 := Lib.hid (hs hO)
  have HS2 := Lib.hid (hs hO')
  clear hO hT hO' hT' hl hs
  go_enter Try.func39, Try.ntmps39
  go_wp2
  go_loopw [5] (fun i wr => ∃ k : Nat, ∃ q, k ≤ m ∧ i = .int .i64 k ∧ wr = w.drewN q) (fun i _ => m - (intOf i).toNat)
  case atStart => exact ⟨0, 0, by omega, rfl, rfl⟩
  case round =>
    obtain ⟨k, q, hk, rfl, rfl⟩ := hrel
    by_cases hlt : k < m
    · obtain ⟨g, rfl⟩ := HS1.out (by omega)
      obtain ⟨g', rfl⟩ := HS2.out (by omega)
      obtain ⟨A1, c1, e1, hr1⟩ := HT.out.row hlt
      obtain ⟨A2, c2, e2, hr2⟩ := HT'.out.row hlt
      have cc1 := Outer.cell HO.out hlt
      have cc2 := Outer.cell HO'.out hlt
      rw [e1] at cc1
      rw [e2] at cc2
      obtain ⟨n, Hn⟩ : ∃ n, Hid ((ls k).length = n) := ⟨_, rfl⟩
      have hn7 := HL.out k hlt
      rw [Hn.out] at cc1 cc2 hn7
      have HR1 := Lib.hid (hr1.drewN q)
      have HR2 := Lib.hid (hr2.drewN q)
      have cq1 : (w.drewN q).cell? ⟨g, k, none⟩ = some (.slice A1 n c1) := cc1
      have cq2 : (w.drewN q).cell? ⟨g', k, none⟩ = some (.slice A2 n c2) := cc2
      have Hq : Hid (∀ m, (w.drewN q).drewN m = w.drewN (q + m)) := fun m => World.drewN_drewN _ _ _
      clear hr1 hr2 e1 e2 cc1 cc2
      go_wp2
      generalize w.drewN q = wq at HR1 HR2 cq1 cq2 Hq ⊢
      go_quiet (exact Calls.quiet_of (eqInt_same A1 A2 c1 c2 n n (ls k) _ w.heap.size w.heap.size (HR1.out.drewN _) Hn.out (HR2.out.drewN _) Hn.out (by omega)))
      go_wp2
      go_roundw
      case rel => exact ⟨k + 1, _, by omega, by go_num, Hq.out _⟩
      case measure => simp [intOf]; omega
    · go_wp2
      go_ret
      exact ⟨rfl, _, rfl⟩
end Go.Proofs.Ytdhelapgdgekfaa
namespace Go.Proofs.Ytdhelapgdgekfaa
open Go.ChangeShapes Go.WideShapes Go.ChangeAt Go.RowKit
set_option linter.unusedVariables false

theorem branch_eq {b off c k : Nat} : (if c = k then (some ⟨b, off, none⟩ : Option Addr) else some ⟨b, off + k * 2, none⟩) = some ⟨b, (if c = k then off else off + k * 2), none⟩ := by split <;> rfl

set_option maxHeartbeats 800000 in
theorem iValidTree_any (A : Option Addr) (c n : Nat) (ts : List (Int × Int)) (w : World) (B : Nat) (hr : RdR w B A ts) (hn : ts.length = n) (hc : n ≤ c) (hb : n ≤ 1152921504606846976) (hB : B ≤ w.heap.size) :
    Calls Try.prog 31 #[.slice A n c] w fun e w' => e = .returned (.bool (vt ts)) ∧ Below w.heap.size w w' := by
  by_cases h0 : n < 1
  · have Hs := Lib.hid (vt_no_len (ts := ts) (by omega))
    clear hn
    go_enter Try.func31, Try.ntmps31
    go_wp2
    go_ret
    exact ⟨ret_bool Hs.out.symm, Below.refl _ _⟩
  by_cases h7 : 7 < n
  · have Hs := Lib.hid (vt_no_len (ts := ts) (by omega))
    clear hn
    go_enter Try.func31, Try.ntmps31
    go_wp2
    go_ret
    exact ⟨ret_bool Hs.out.symm, Below.refl _ _⟩
  have Hn := Lib.hid hn
  obtain ⟨b, off, x, y, rfl, hbw, Hx, hcx, hcy⟩ := hr.x (k := 0) (by omega)
  clear hn
  simp only [Nat.zero_mul, Nat.add_zero] at hcx hcy
  by_cases hx : x = -1
  rotate_left
  · have Hs := Lib.hid (vt_no_head Hx.out (Or.inl hx))
    have hx1 : (x != -1) = true := by rw [bne_iff_ne]; exact hx
    go_enter Try.func31, Try.ntmps31
    go_wp2
    go_ret
    exact ⟨ret_bool Hs.out.symm, Below.refl _ _⟩
  subst hx
  by_cases hy : y = 0
  rotate_left
  · have Hs := Lib.hid (vt_no_head Hx.out (Or.inr hy))
    have hx1 : (y != 0) = true := by rw [bne_iff_ne]; exact hy
    go_enter Try.func31, Try.ntmps31
    go_wp2
    go_ret
    exact ⟨ret_bool Hs.out.symm, Below.refl _ _⟩
  subst hy
  by_cases hc1 : c = 1
  · subst hc1
    have hn1 : n = 1 := by omega
    subst hn1
    have Hs := Lib.hid (vt_yes (OkT.one ts) (by rw [Hn.out]; omega) (by rw [Hn.out]; omega) (by rw [Hn.out]; omega) Hx.out)
    go_enter Try.func31, Try.ntmps31
    go_wp2
    go_loopw [30] (fun i wr => i = .int .i64 0 ∧ wr = w) (fun _ _ => 0)
    case atStart => exact ⟨rfl, rfl⟩
    case round =>
      obtain ⟨rfl, rfl⟩ := hrel
      go_wp2
      go_ret
      exact ⟨ret_bool Hs.out.symm, Below.refl _ _⟩
  go_enter Try.func31, Try.ntmps31
  go_wp2
  go_loopw [30] (fun i wr => ∃ k : Nat, k < n ∧ i = .int .i64 k ∧ Hid (OkT ts (k + 1)) ∧ Below w.heap.size w wr) (fun i _ => n - (intOf i).toNat)
  case atStart => exact ⟨0, by omega, rfl, OkT.one ts, Below.refl _ _⟩
  case round =>
    obtain ⟨k, hk, rfl, Ho, hnx⟩ := hrel
    by_cases hlt : k + 1 < n
    · have hlt' : k < n - 1 := by omega
      obtain ⟨b', off', x, y, e, -, Hx', hcx', hcy'⟩ := (hr.below (hnx.mono hB)).x (k := k + 1) (by rw [Hn.out]; omega)
      cases e
      rw [show off + (k + 1) * 2 = off + 2 + k * 2 by omega] at hcx' hcy'
      by_cases h1 : x < 0 ∨ (k : Int) < x ∨ y < 1 ∨ 9 < y
      · have Hs := Lib.hid (vt_no_at (k := k + 1) (by omega) (by rw [Hn.out]; omega) Hx'.out (by omega))
        by_cases g1 : x < 0
        · go_wp2
          go_ret
          exact ⟨ret_bool Hs.out.symm, hnx.alloc hnx.size _⟩
        by_cases g2 : (k : Int) < x
        · go_wp2
          go_ret
          exact ⟨ret_bool Hs.out.symm, hnx.alloc hnx.size _⟩
        by_cases g3 : y < 1
        · go_wp2
          go_ret
          exact ⟨ret_bool Hs.out.symm, hnx.alloc hnx.size _⟩
        · go_wp2
          go_ret
          exact ⟨ret_bool Hs.out.symm, hnx.alloc hnx.size _⟩
      · have g1 : 0 ≤ x := by omega
        have g2 : x ≤ k := by omega
        have g3 : 1 ≤ y := by omega
        have g4 : y ≤ 9 := by omega
        have Hs := Lib.hid (OkT.step Ho.out Hx'.out g1 (by omega) g3 g4)
        go_wp2
        go_roundw
        case rel => exact ⟨k + 1, by omega, by go_num, Hs, hnx.alloc hnx.size _⟩
        case measure => simp [intOf]; omega
    · have Hs := Lib.hid (vt_yes Ho.out (by rw [Hn.out]; omega) (by rw [Hn.out]; omega) (by rw [Hn.out]; omega) Hx.out)
      have hlt' : ¬ k < n - 1 := by omega
      go_wp2
      go_ret
      exact ⟨ret_bool Hs.out.symm, hnx⟩

set_option maxHeartbeats 800000 in
theorem sValidTree_in (A : Option Addr) (c n : Nat) (ts : List (Int × Int)) (w : World) (B : Nat) (hr : RdR w B A ts) (hn : ts.length = n) (hb : n ≤ 1152921504606846976) :
    Calls Try.prog 58 #[.slice A n c] w fun e w' => e = .returned (.bool (vt ts)) ∧ w = w' := by
  by_cases h0 : n < 1 ∨ 7 < n
  · have Hs := Lib.hid (vt_no_len (ts := ts) (by omega))
    clear hn
    go_enter Try.func58, Try.ntmps58
    go_wp2_with fail
    refine (inRange_no _ _ _ w (by omega)).mono ?_
    rintro e w' ⟨rfl, rfl⟩
    go_wp2
    go_ret
    exact ⟨ret_bool Hs.out.symm, rfl⟩
  have Hn := Lib.hid hn
  clear hn
  go_enter Try.func58, Try.ntmps58
  go_wp2_with fail
  refine (inRange_yes _ _ _ w (by omega) (by omega)).mono ?_
  rintro e w' ⟨rfl, rfl⟩
  go_wp2
  go_loop [3] (fun i => ∃ k : Nat, k ≤ n ∧ i = .int .i64 k ∧ Hid (OkT ts k ∧ (1 ≤ k → ts.getD 0 (-1, 0) = (-1, 0)))) (fun i => n - (intOf i).toNat)
  case atStart => exact ⟨0, by omega, rfl, fun i h1 h2 => by omega, by omega⟩
  case round =>
    obtain ⟨k, hk, rfl, Ho⟩ := hrel
    by_cases hlt : k < n
    · obtain ⟨b, off, x, y, rfl, -, Hx, hcx, hcy⟩ := hr.x (k := k) (by rw [Hn.out]; omega)
      by_cases hk0 : k = 0
      · subst hk0
        simp only [Nat.zero_mul, Nat.add_zero] at hcx hcy
        by_cases h1 : x = -1 ∧ y = 0
        · obtain ⟨rfl, rfl⟩ := h1
          go_wp2
          go_round
          case rel => exact ⟨1, by omega, by go_num, OkT.one ts, fun _ => Hx.out⟩
          case measure => simp [intOf]; omega
        · have Hs := Lib.hid (vt_no_head Hx.out (by omega))
          go_wp2
          all_goals
            go_ret
            exact ⟨ret_bool Hs.out.symm, rfl⟩
      · by_cases h1 : x < 0 ∨ (k : Int) ≤ x
        · have Hs := Lib.hid (vt_no_at (k := k) (by omega) (by rw [Hn.out]; omega) Hx.out (by omega))
          go_wp2_with fail
          refine (inRange_no _ _ _ w (by omega)).mono ?_
          rintro e w' ⟨rfl, rfl⟩
          go_wp2
          go_ret
          exact ⟨ret_bool Hs.out.symm, rfl⟩
        by_cases h2 : y < 1 ∨ 9 < y
        · have Hs := Lib.hid (vt_no_at (k := k) (by omega) (by rw [Hn.out]; omega) Hx.out (by omega))
          go_wp2_with fail
          refine (inRange_yes _ _ _ w (by omega) (by omega)).mono ?_
          rintro e w' ⟨rfl, rfl⟩
          go_wp2_with fail
          refine (inRange_no _ _ _ w (by omega)).mono ?_
          rintro e w' ⟨rfl, rfl⟩
          go_wp2
          go_ret
          exact ⟨ret_bool Hs.out.symm, rfl⟩
        · have Hs := Lib.hid (OkT.step Ho.out.1 Hx.out (by omega) (by omega) (by omega) (by omega))
          go_wp2_with fail
          refine (inRange_yes _ _ _ w (by omega) (by omega)).mono ?_
          rintro e w' ⟨rfl, rfl⟩
          go_wp2_with fail
          refine (inRange_yes _ _ _ w (by omega) (by omega)).mono ?_
          rintro e w' ⟨rfl, rfl⟩
          go_wp2
          go_round
          case rel => exact ⟨k + 1, by omega, by go_num, Hs.out, fun _ => Ho.out.2 (by omega)⟩
          case measure => simp [intOf]; omega
    · have Hs := Lib.hid (vt_yes Ho.out.1 (by rw [Hn.out]; omega) (by rw [Hn.out]; omega) (by rw [Hn.out]; omega) (Ho.out.2 (by omega)))
      go_wp2
      go_ret
      exact ⟨ret_bool Hs.out.symm, rfl⟩
theorem sValidTree_any (A : Option Addr) (c n : Nat) (ts : List (Int × Int)) (w : World) (B : Nat) (hr : RdR w B A ts) (hn : ts.length = n) (hb : n ≤ 1152921504606846976) :
    Calls Try.prog 32 #[.slice A n c] w fun e w' => e = .returned (.bool (vt ts)) ∧ w = w' := by
  go_enter Try.func32, Try.ntmps32
  go_wp2_with fail
  refine (sValidTree_in A c n ts w B hr hn hb).mono ?_
  rintro e w' ⟨rfl, rfl⟩
  go_wp2
  go_ret
  exact ⟨rfl, rfl⟩
end Go.Proofs.Ytdhelapgdgekfaa
namespace Go.Proofs.Ytdhelapgdgekfaa
open Go.ChangeShapes Go.WideShapes Go.ChangeAt Go.RowKit
set_option linter.unusedVariables false
set_option maxRecDepth 4000

def okF (fs : List Int) : Bool := fs.all fun x => decide (0 ≤ x) && decide (x ≤ 20)
def fk (n : Nat) (fs : List Int) : Bool := decide (fs.length = n) && okF fs
theorem okF_iff {fs : List Int} : okF fs = true ↔ ∀ i, i < fs.length → 0 ≤ fs.getD i 0 ∧ fs.getD i 0 ≤ 20 := by
  unfold okF
  rw [List.all_eq_true]
  constructor
  · intro h i hi
    have := h (fs.getD i 0) (by simp [List.getD, List.getElem?_eq_getElem hi])
    simpa using this
  · intro h x hx
    obtain ⟨i, hi, rfl⟩ := List.getElem_of_mem hx
    have := h i hi
    simp only [List.getD, List.getElem?_eq_getElem hi, Option.getD_some] at this
    simpa using this
theorem okF_no {fs : List Int} {k : Nat} {x : Int} (hk : k < fs.length) (hx : fs.getD k 0 = x) (h : x < 0 ∨ 20 < x) : okF fs = false := by
  rw [Bool.eq_false_iff]; intro h'
  have := okF_iff.1 h' k hk
  rw [hx] at this; omega
def FineTo (fs : List Int) (k : Nat) : Prop := ∀ i, i < k → 0 ≤ fs.getD i 0 ∧ fs.getD i 0 ≤ 20
theorem FineTo.step {fs : List Int} {k : Nat} {x : Int} (h : FineTo fs k) (hx : fs.getD k 0 = x) (h1 : 0 ≤ x) (h2 : x ≤ 20) : FineTo fs (k + 1) := fun i hi => by
  by_cases e : i = k
  · rw [e, hx]; exact ⟨h1, h2⟩
  · exact h i (by omega)
theorem FineTo.end_ {fs : List Int} {k : Nat} (h : FineTo fs k) (hk : fs.length ≤ k) : okF fs = true := okF_iff.2 fun i hi => h i (by omega)

theorem folk1_any (x : Int) (w : World) : Calls Try.prog 115 #[.int .i64 x] w fun e w' => e = .returned (.bool (decide (x < 0) || decide (20 < x))) ∧ w = w' := by
  by_cases h1 : x < 0 <;> by_cases h2 : 20 < x
  all_goals
    go_enter Try.func115, Try.ntmps115
    go_wp2
    go_ret
    exact ⟨ret_bool (by simp [h1, h2]), rfl⟩
theorem folk1_yes (x : Int) (w : World) (h : x < 0 ∨ 20 < x) : Calls Try.prog 115 #[.int .i64 x] w fun e w' => e = .returned (.bool true) ∧ w = w' :=
  (folk1_any x w).mono fun _ _ ⟨he, hw⟩ => ⟨by rw [he]; rcases h with h | h <;> simp [h], hw⟩
theorem folk1_no (x : Int) (w : World) (h1 : 0 ≤ x) (h2 : x ≤ 20) : Calls Try.prog 115 #[.int .i64 x] w fun e w' => e = .returned (.bool false) ∧ w = w' :=
  (folk1_any x w).mono fun _ _ ⟨he, hw⟩ => ⟨by rw [he]; simp; omega, hw⟩

def FolkIdx (fs : List Int) (w : World) (e : Ending) (w' : World) : Prop := ∃ r : Int, e = .returned (.int .i64 r) ∧ (okF fs = true → r = -1) ∧ (okF fs = false → 0 ≤ r) ∧ w = w'
set_option maxHeartbeats 800000 in
theorem indexFolk_any (A : Option Addr) (c n : Nat) (fs : List Int) (w : World) (B : Nat) (hr : RdI w B A fs) (hn : fs.length = n) (hb : n ≤ 1152921504606846976) :
    Calls Try.prog 122 #[.slice A n c, .func (.func 115) #[] #[]] w (FolkIdx fs w) := by
  have Hn := Lib.hid hn
  clear hn
  go_enter Try.func122, Try.ntmps122
  go_wp2
  go_loop [8] (fun i => ∃ k : Nat, k ≤ n ∧ i = .int .i64 k ∧ Hid (FineTo fs k)) (fun i => n - (intOf i).toNat)
  case atStart => exact ⟨0, by omega, rfl, fun i hi => by omega⟩
  case round =>
    obtain ⟨k, hk, rfl, Ho⟩ := hrel
    by_cases hlt : k < n
    · obtain ⟨b, off, x, rfl, -, Hx, hcx⟩ := hr.x (k := k) (by rw [Hn.out]; omega)
      by_cases h1 : x < 0 ∨ 20 < x
      · have Hs := Lib.hid (okF_no (by rw [Hn.out]; exact hlt) Hx.out h1)
        have Hf := Lib.hid (folk1_yes x w h1)
        clear h1
        go_wp2_with fail
        refine Hf.out.mono ?_
        rintro e w' ⟨rfl, rfl⟩
        go_wp2
        go_ret
        exact ⟨_, rfl, fun h => absurd (Hs.out.symm.trans h) (by decide), fun _ => by omega, rfl⟩
      · have Hs := Lib.hid (Ho.out.step Hx.out (by omega) (by omega))
        have Hf := Lib.hid (folk1_no x w (by omega) (by omega))
        clear h1
        go_wp2_with fail
        refine Hf.out.mono ?_
        rintro e w' ⟨rfl, rfl⟩
        go_wp2
        go_round
        case rel => exact ⟨k + 1, by omega, by go_num, Hs⟩
        case measure => simp [intOf]; omega
    · have Hs := Lib.hid (Ho.out.end_ (by rw [Hn.out]; omega))
      go_wp2
      go_ret
      exact ⟨_, rfl, fun _ => rfl, fun h => absurd (Hs.out.symm.trans h) (by decide), rfl⟩
theorem containsFolk_any (A : Option Addr) (c n : Nat) (fs : List Int) (w : World) (B : Nat) (hr : RdI w B A fs) (hn : fs.length = n) (hb : n ≤ 1152921504606846976) :
    Calls Try.prog 114 #[.slice A n c, .func (.func 115) #[] #[]] w fun e w' => e = .returned (.bool (!(okF fs))) ∧ w = w' := by
  have H := Lib.hid (indexFolk_any A c n fs w B hr hn hb)
  clear hn hr
  go_enter Try.func114, Try.ntmps114
  go_wp2_with fail
  refine H.out.mono ?_
  rintro e w' ⟨r, rfl, h1, h2, rfl⟩
  by_cases hf : okF fs = true
  · have := h1 hf
    subst this
    have Hf := Lib.hid hf
    clear h1 h2 hf
    go_wp2
    go_ret
    exact ⟨ret_bool (by rw [Hf.out]; rfl), rfl⟩
  · have hf' : okF fs = false := by simpa using hf
    have hr0 := h2 hf'
    have Hf := Lib.hid hf'
    clear h1 h2 hf hf'
    go_wp2
    go_ret
    exact ⟨ret_bool (by rw [Hf.out]; simp), rfl⟩
theorem iValidFolk_any (A A' : Option Addr) (c c' n m : Nat) (fs : List Int) (w : World) (B : Nat) (hr : RdI w B A fs) (hn : fs.length = n) (hb : n ≤ 1152921504606846976) :
    Calls Try.prog 81 #[.slice A' m c', .slice A n c] w fun e w' => e = .returned (.bool (fk m fs)) ∧ w = w' := by
  by_cases hnm : n = m
  · have H := Lib.hid (containsFolk_any A c n fs w B hr hn hb)
    have hfk : fk m fs = okF fs := by unfold fk; simp [hn, hnm]
    rw [hfk]
    have hb1 : ((n : Int) == (m : Int)) = true := by rw [beq_iff_eq]; omega
    clear hr hn hfk hnm
    go_enter Try.func81, Try.ntmps81
    go_wp2_with fail
    refine H.out.mono ?_
    rintro e w' ⟨rfl, rfl⟩
    go_wp2
    go_ret
    exact ⟨ret_bool (by simp), rfl⟩
  · have hfk : fk m fs = false := by unfold fk; simp [hn, hnm]
    rw [hfk]
    have hb1 : ((n : Int) == (m : Int)) = false := by rw [beq_eq_false_iff_ne]; omega
    clear hr hn hfk hnm
    go_enter Try.func81, Try.ntmps81
    go_wp2
    go_ret
    exact ⟨ret_bool rfl, rfl⟩
set_option maxHeartbeats 800000 in
theorem sValidFolk_any (A : Option Addr) (c n m : Nat) (fs : List Int) (w : World) (B : Nat) (hr : RdI w B A fs) (hn : fs.length = n) (hb : n ≤ 1152921504606846976) :
    Calls Try.prog 83 #[.int .i64 m, .slice A n c] w fun e w' => e = .returned (.bool (fk m fs)) ∧ w = w' := by
  have Hn := Lib.hid hn
  clear hn
  go_enter Try.func83, Try.ntmps83
  go_wp2
  go_loop [5] (fun i => ∃ k : Nat, k ≤ n ∧ i = .int .i64 k ∧ Hid (FineTo fs k)) (fun i => n - (intOf i).toNat)
  case atStart => exact ⟨0, by omega, rfl, fun i hi => by omega⟩
  case round =>
    obtain ⟨k, hk, rfl, Ho⟩ := hrel
    by_cases hlt : k < n
    · obtain ⟨b, off, x, rfl, -, Hx, hcx⟩ := hr.x (k := k) (by rw [Hn.out]; omega)
      by_cases h1 : x < 0 ∨ 20 < x
      · have Hs := Lib.hid (show fk m fs = false by unfold fk; rw [okF_no (by rw [Hn.out]; exact hlt) Hx.out h1]; simp)
        go_wp2_with fail
        refine (inRange_no _ _ _ w h1).mono ?_
        rintro e w' ⟨rfl, rfl⟩
        go_wp2
        go_ret
        exact ⟨ret_bool Hs.out.symm, rfl⟩
      · have Hs := Lib.hid (Ho.out.step Hx.out (by omega) (by omega))
        go_wp2_with fail
        refine (inRange_yes _ _ _ w (by omega) (by omega)).mono ?_
        rintro e w' ⟨rfl, rfl⟩
        go_wp2
        go_round
        case rel => exact ⟨k + 1, by omega, by go_num, Hs⟩
        case measure => simp [intOf]; omega
    · have Hs := Lib.hid (Ho.out.end_ (by rw [Hn.out]; omega))
      have Hf : Hid (decide ((n : Int) = (m : Int)) = fk m fs) := by
        show decide ((n : Int) = (m : Int)) = fk m fs
        unfold fk; rw [Hs.out, Hn.out]
        by_cases h : n = m <;> simp [h]
        omega
      go_wp2
      go_ret
      refine ⟨ret_bool ?_, rfl⟩
      rw [← Hf.out]
      rfl
end Go.Proofs.Ytdhelapgdgekfaa
namespace Go.Proofs.Ytdhelapgdgekfaa
open Go.ChangeShapes Go.WideShapes Go.ChangeAt Go.RowKit
set_option linter.unusedVariables false

/-- Block R is a reader over bytes below B, at most k draws on. -/
def GR (w : World) (B R k : Nat) : Prop :=
  ∃ A c bs, ∃ p : Int, B ≤ R ∧ w.heap[R]? = some (.cells #[.slice A bs.length c, .int .i64 p] 105 (0, 0)) ∧ RdB w B A bs ∧ bs.length ≤ 2000 ∧ 0 ≤ p ∧ p ≤ k
theorem GR.lt {w : World} {B R k : Nat} (h : GR w B R k) : R < w.heap.size := by
  obtain ⟨A, c, bs, p, hB, hh, _⟩ := h
  rcases Nat.lt_or_ge R w.heap.size with hlt | hge
  · exact hlt
  · rw [Array.getElem?_eq_none hge] at hh; cases hh
theorem GR.le {w : World} {B R k : Nat} (h : GR w B R k) : B ≤ R := by obtain ⟨A, c, bs, p, hB, _⟩ := h; exact hB
theorem GR.more {w : World} {B R k k' : Nat} (h : GR w B R k) (hk : k ≤ k') : GR w B R k' := by
  obtain ⟨A, c, bs, p, hB, hh, hr, hl, h0, h1⟩ := h
  exact ⟨A, c, bs, p, hB, hh, hr, hl, h0, by omega⟩
/-- What is done elsewhere leaves the reader. -/
theorem GR.kept {w w' : World} {B R k : Nat} {row : Option Nat} (h : GR w B R k) (hg : w.grownBy w' row) (hr : ∀ g, row = some g → R < g) : GR w' B R k := by
  have hlt := h.lt
  obtain ⟨A, c, bs, p, hB, hh, hrd, hl, h0, h1⟩ := h
  refine ⟨A, c, bs, p, hB, ?_, hrd.keep fun q hq => World.cell?_of_block (hg.block q.block (by omega) (fun e => by have := hr _ e.symm; omega)), hl, h0, h1⟩
  rw [hg.block R hlt (fun e => by have := hr _ e.symm; omega)]
  exact hh

def PickPost (B R k : Nat) (n : Int) (w : World) (e : Ending) (w' : World) : Prop :=
  ∃ v : Int, e = .returned (.int .i64 v) ∧ 0 ≤ v ∧ (1 ≤ n → v < n) ∧ (n < 1 → v = 0) ∧ GR w' B R (k + 1) ∧ w.grownBy w' (some R)

theorem pick_world {w : World} {B R k : Nat} {A : Option Addr} {c : Nat} {bs : List Int} {p : Int} (hB : B ≤ R) (hh : w.heap[R]? = some (.cells #[.slice A bs.length c, .int .i64 p] 105 (0, 0)))
    (hrd : RdB w B A bs) (hl : bs.length ≤ 2000) (h0 : 0 ≤ p) (h1 : p ≤ k) (q : Nat) :
    GR ((w.setCell ⟨R, 1, none⟩ (.int .i64 (p + 1))).drewN q) B R (k + 1) ∧ w.grownBy ((w.setCell ⟨R, 1, none⟩ (.int .i64 (p + 1))).drewN q) (some R) := by
  refine ⟨⟨A, c, bs, p + 1, hB, ?_, ?_, hl, by omega, by omega⟩, ⟨rfl, rfl, rfl, by simp [World.setCell], fun i hi hne => ?_⟩⟩
  · show (w.setCell ⟨R, 1, none⟩ (.int .i64 (p + 1))).heap[R]? = _
    simp [World.setCell, Array.getElem?_modify, hh]
  · exact hrd.keep fun x hx => World.cell?_setCell_other w ⟨R, 1, none⟩ x _ (fun e => by subst e; simp at hx; omega)
  · exact Below.heap_setCell w _ _ i (by rintro rfl; exact hne rfl)

theorem pick_world0 {w : World} {B R k : Nat} {A : Option Addr} {c : Nat} {bs : List Int} {p : Int} (hB : B ≤ R) (hh : w.heap[R]? = some (.cells #[.slice A bs.length c, .int .i64 p] 105 (0, 0)))
    (hrd : RdB w B A bs) (hl : bs.length ≤ 2000) (h0 : 0 ≤ p) (h1 : p ≤ k) :
    GR (w.setCell ⟨R, 1, none⟩ (.int .i64 (p + 1))) B R (k + 1) ∧ w.grownBy (w.setCell ⟨R, 1, none⟩ (.int .i64 (p + 1))) (some R) := by
  have h := pick_world (k := k) hB hh hrd hl h0 h1 0
  exact ⟨h.1, ⟨h.2.os, h.2.tape, h.2.output, h.2.size, h.2.block⟩⟩

theorem rem_bd {x n : Int} (hx : 0 ≤ x) (hn : 1 ≤ n) : 0 ≤ x % n ∧ x % n < n := ⟨Int.emod_nonneg _ (by omega), Int.emod_lt_of_pos _ (by omega)⟩

theorem i64_xor_small (a b : Nat) (ha : a < 1073741824) (hb : b < 1073741824) : 0 ≤ bits .xor .i64 (a : Int) (b : Int) := by
  have hx : a ^^^ b < 2 ^ 30 := Nat.xor_lt_two_pow (by omega) (by omega)
  show 0 ≤ IntKind.i64.wrap ((BitVec.ofInt 64 (a : Int) ^^^ BitVec.ofInt 64 (b : Int)).toNat : Int)
  rw [BitVec.toNat_xor, ofInt_u64 a (by omega), ofInt_u64 b (by omega), IntWalk.i64_in _ (by omega)]
  omega
theorem pick_num {S n : Int} (h0 : 0 ≤ S) (h1 : S ≤ 1000000000) (hn : 1 ≤ n) : 0 ≤ (bits .xor .i64 S (S / 64)).tmod n ∧ (bits .xor .i64 S (S / 64)).tmod n < n := by
  obtain ⟨s, rfl⟩ := Int.eq_ofNat_of_zero_le h0
  have hx := i64_xor_small s (s / 64) (by omega) (by omega)
  rw [show ((s : Int) / 64) = ((s / 64 : Nat) : Int) by omega, Int.tmod_eq_emod_of_nonneg hx]
  exact ⟨Int.emod_nonneg _ (by omega), Int.emod_lt_of_pos _ (by omega)⟩

set_option maxHeartbeats 800000 in
theorem pick_any (R B k : Nat) (n : Int) (w : World) (hg : GR w B R k) (hk : k ≤ 100000) (hn1 : -1000000 ≤ n) (hn2 : n ≤ 1000000) :
    Calls Try.prog 80 #[.pointer (some ⟨R, 0, none⟩), .int .i64 n] w (PickPost B R k n w) := by
  obtain ⟨A, c, bs, p, hB, hh, hrd, hl, h0, h1⟩ := hg
  have Hw := Lib.hid (fun q => pick_world hB hh hrd hl h0 h1 q)
  have Hw0 := Lib.hid (pick_world0 hB hh hrd hl h0 h1)
  have c0 : w.cell? ⟨R, 0, none⟩ = some (.slice A bs.length c) := by simp [World.cell?, hh]
  have c1 : w.cell? ⟨R, 1, none⟩ = some (.int .i64 p) := by simp [World.cell?, hh]
  have f1 : w.frozen? ⟨R, 1, none⟩ = false := by simp [World.frozen?, hh]
  clear hh
  obtain ⟨m, rfl⟩ := Int.eq_ofNat_of_zero_le h0
  by_cases hn : n < 1
  · go_enter Try.func80, Try.ntmps80
    go_wp2
    go_ret
    exact ⟨0, rfl, by omega, fun h => by omega, fun _ => rfl, Hw0.out.1, Hw0.out.2⟩
  · have hn' : 1 ≤ n := by omega
    clear hn
    obtain ⟨L, HL⟩ : ∃ L, Hid (bs.length = L) := ⟨_, rfl⟩
    rw [HL.out] at c0 hl
    by_cases hL : L = 0
    · subst hL
      go_enter Try.func80, Try.ntmps80
      go_wp2
      go_ret
      exact ⟨0, rfl, by omega, fun h => by omega, fun _ => rfl, Hw0.out.1, Hw0.out.2⟩
    · have hL1 : 1 ≤ L := by omega
      have hLb : ((L : Int) == 0) = false := by rw [beq_eq_false_iff_ne]; omega
      clear hL
      by_cases hm : m < L
      · obtain ⟨b, off, x, rfl, hb, Hx, hx0, hx1, hcx⟩ := hrd.x (k := m) (by rw [HL.out]; exact hm)
        have hcx' : (w.setCell ⟨R, 1, none⟩ (.int .i64 (↑m + 1))).cell? ⟨b, off + m, none⟩ = some (.int .u8 x) := by
          rw [World.cell?_setCell_other w ⟨R, 1, none⟩ _ _ (by intro e; injection e with e; omega)]; exact hcx
        clear hcx
        have hr := rem_bd hx0 hn'
        have Hr := Lib.hid hr
        clear hr
        go_enter Try.func80, Try.ntmps80
        go_wp2
        go_ret
        exact ⟨_, rfl, Hr.out.1, fun _ => Hr.out.2, fun h => by omega, Hw0.out.1, Hw0.out.2⟩
      · have hm' : L ≤ m := by omega
        clear hm
        have hmk : m ≤ 100000 := by omega
        have hi1 : m % L < L := Nat.mod_lt _ (by omega)
        have hi2 : (m * 7 + 3) % L < L := Nat.mod_lt _ (by omega)
        obtain ⟨b, off, x, rfl, hb, Hx, hx0, hx1, hcx⟩ := hrd.x (k := m % L) (by rw [HL.out]; exact hi1)
        obtain ⟨b', off', y, he, hb', Hy, hy0, hy1, hcy⟩ := hrd.x (k := (m * 7 + 3) % L) (by rw [HL.out]; exact hi2)
        injection he with he
        injection he with he1 he2
        subst he1 he2
        have hcx' : (w.setCell ⟨R, 1, none⟩ (.int .i64 (↑m + 1))).cell? ⟨b, off + m % L, none⟩ = some (.int .u8 x) := by
          rw [World.cell?_setCell_other w ⟨R, 1, none⟩ _ _ (by intro e; injection e with e; omega)]; exact hcx
        have hcy' : (w.setCell ⟨R, 1, none⟩ (.int .i64 (↑m + 1))).cell? ⟨b, off + (m * 7 + 3) % L, none⟩ = some (.int .u8 y) := by
          rw [World.cell?_setCell_other w ⟨R, 1, none⟩ _ _ (by intro e; injection e with e; omega)]; exact hcy
        clear hcx hcy
        obtain ⟨i1, Hi1⟩ : ∃ i1, Hid (m % L = i1) := ⟨_, rfl⟩
        obtain ⟨i2, Hi2⟩ : ∃ i2, Hid ((m * 7 + 3) % L = i2) := ⟨_, rfl⟩
        obtain ⟨d, Hd⟩ : ∃ d, Hid (m / L = d) := ⟨_, rfl⟩
        have hd : d ≤ m := by rw [← Hd.out]; exact Nat.div_le_self _ _
        rw [Hi1.out] at hcx' hi1
        rw [Hi2.out] at hcy' hi2
        have e1 : (m : Int).tmod (L : Int) = (i1 : Int) := by rw [← Hi1.out]; exact (Int.ofNat_tmod m L).symm
        have e2 : ((m : Int) * 7 + 3).tmod (L : Int) = (i2 : Int) := by rw [← Hi2.out]; exact (Int.ofNat_tmod (m * 7 + 3) L).symm
        have e3 : (m : Int).tdiv (L : Int) = (d : Int) := by rw [← Hd.out]; exact (Int.ofNat_tdiv m L).symm
        have w1 : IntKind.i64.wrap ((m : Int) * 7) = (m : Int) * 7 := IntWalk.i64_in _ (by omega)
        have w2 : IntKind.i64.wrap ((m : Int) * 7 + 3) = (m : Int) * 7 + 3 := IntWalk.i64_in _ (by omega)
        have w3 : IntKind.i64.wrap (x * 131) = x * 131 := IntWalk.i64_in _ (by omega)
        have w4 : IntKind.i64.wrap (y * 1117) = y * 1117 := IntWalk.i64_in _ (by omega)
        have w5 : IntKind.i64.wrap (x * 131 + y * 1117) = x * 131 + y * 1117 := IntWalk.i64_in _ (by omega)
        have w6 : IntKind.i64.wrap ((m : Int) * 29) = (m : Int) * 29 := IntWalk.i64_in _ (by omega)
        have w7 : IntKind.i64.wrap (x * 131 + y * 1117 + (m : Int) * 29) = x * 131 + y * 1117 + (m : Int) * 29 := IntWalk.i64_in _ (by omega)
        have w8 : IntKind.i64.wrap ((d : Int) * 53) = (d : Int) * 53 := IntWalk.i64_in _ (by omega)
        have w9 : IntKind.i64.wrap (x * 131 + y * 1117 + (m : Int) * 29 + (d : Int) * 53) = x * 131 + y * 1117 + (m : Int) * 29 + (d : Int) * 53 := IntWalk.i64_in _ (by omega)
        have hLn : ¬ (L : Int) = 0 := by omega
        have hLn' : ¬ L = 0 := by omega
        have j1 : (i1 : Int) < (L : Int) := by omega
        have j2 : (i2 : Int) < (L : Int) := by omega
        go_enter Try.func80, Try.ntmps80
        go_wp2
        go_quiet (fail)
        clear w1 w2 w3 w4 w5 w6 w7 w8 w9 e1 e2 e3
        have hS0 : 0 ≤ x * 131 + y * 1117 + (m : Int) * 29 + (d : Int) * 53 := by omega
        have hS1 : x * 131 + y * 1117 + (m : Int) * 29 + (d : Int) * 53 ≤ 1000000000 := by omega
        generalize x * 131 + y * 1117 + (m : Int) * 29 + (d : Int) * 53 = S at hS0 hS1 ⊢
        have Hf := Lib.hid (pick_num hS0 hS1 hn')
        go_wp2
        go_ret
        exact ⟨_, rfl, Hf.out.1, fun _ => Hf.out.2, fun h => by omega, (Hw.out nq).1, (Hw.out nq).2⟩
end Go.Proofs.Ytdhelapgdgekfaa
namespace Go.Proofs.Ytdhelapgdgekfaa
open Go.ChangeShapes Go.WideShapes Go.ChangeAt Go.RowKit
set_option linter.unusedVariables false

theorem gr_new {w : World} {A : Option Addr} {c : Nat} {bs : List Int} {n : Nat} (hr : RdB w w.heap.size A bs) (hn : bs.length = n) (hl : n ≤ 2000) :
    GR (w.alloc (.cells #[.slice A n c, .int .i64 0] 105)) w.heap.size w.heap.size 0 := by
  subst hn
  exact ⟨A, c, bs, 0, Nat.le_refl _, heap_alloc_new w _, hr.keep (fun p hp => World.cell?_alloc_lt w _ p hp), hl, by omega, by omega⟩

def MadeReader (w : World) (e : Ending) (w' : World) : Prop :=
  e = .returned (.pointer (some ⟨w.heap.size, 0, none⟩)) ∧ GR w' w.heap.size w.heap.size 0 ∧ Below w.heap.size w w'

set_option maxHeartbeats 400000 in
theorem newReader_any (A : Option Addr) (c n : Nat) (bs : List Int) (w : World) (hr : RdB w w.heap.size A bs) (hn : bs.length = n) (hc : n ≤ c) (hm : c ≤ 9223372036854775807) :
    Calls Try.prog 53 #[.slice A n c] w (MadeReader w) := by
  by_cases h2 : 2000 < n
  · have hr2 : RdB w w.heap.size A (bs.take 2000) := by
      refine ⟨fun x hx => hr.1 x (List.mem_of_mem_take hx), fun hp => ?_⟩
      obtain ⟨b, off, e, hb, hcl⟩ := hr.2 (by omega)
      refine ⟨b, off, e, hb, fun i hi => ?_⟩
      have hi2 : i < 2000 := by rw [List.length_take] at hi; omega
      rw [hcl i (by omega)]
      simp [hi2]
    have hg := gr_new (n := 2000) (c := c) hr2 (by rw [List.length_take]; omega) (Nat.le_refl _)
    have Hg := Lib.hid hg
    clear hg hr2
    have Hn := Lib.hid hn
    clear hn
    have hc2 : 2000 ≤ c := by omega
    go_enter Try.func53, Try.ntmps53
    go_wp2
    go_ret
    exact ⟨rfl, Hg.out, (Below.refl _ _).alloc (Nat.le_refl _) _⟩
  · have hg := gr_new (c := c) hr hn (by omega)
    have Hg := Lib.hid hg
    clear hg
    have Hn := Lib.hid hn
    clear hn
    go_enter Try.func53, Try.ntmps53
    go_wp2
    go_ret
    exact ⟨rfl, Hg.out, (Below.refl _ _).alloc (Nat.le_refl _) _⟩

/-- One of a list of numbers that lies in a block of its own. -/
def OnePost (B R k : Nat) (lo hi : Int) (w : World) (e : Ending) (w' : World) : Prop :=
  ∃ v : Int, e = .returned (.int .i64 v) ∧ lo ≤ v ∧ v ≤ hi ∧ GR w' B R (k + 1) ∧ w.grownBy w' (some R)

set_option maxHeartbeats 400000 in
theorem one_any (R B k g : Nat) (zs : List Int) (n c : Nat) (lo hi : Int) (w : World) (hg : GR w B R k) (hk : k ≤ 100000) (hn : zs.length = n) (hn1 : 1 ≤ n) (hn2 : n ≤ 1000)
    (hgR : g ≠ R) (hcl : ∀ i, i < n → w.cell? ⟨g, i, none⟩ = some (.int .i64 (zs.getD i 0))) (hbd : ∀ x ∈ zs, lo ≤ x ∧ x ≤ hi) :
    Calls Try.prog 79 #[.pointer (some ⟨R, 0, none⟩), .slice (some ⟨g, 0, none⟩) n c] w (OnePost B R k lo hi w) := by
  have Hn := Lib.hid hn
  clear hn
  have Hcl := Lib.hid hcl
  clear hcl
  have Hbd := Lib.hid hbd
  clear hbd
  go_enter Try.func79, Try.ntmps79
  go_wp2_with fail
  refine (pick_any R B k n w hg hk (by omega) (by omega)).mono ?_
  rintro e w1 ⟨v, rfl, hv0, hv1, -, hg1, hgr⟩
  obtain ⟨i, rfl⟩ := Int.eq_ofNat_of_zero_le hv0
  have hin : i < n := by have := hv1 (by omega); omega
  have hgl : g < w.heap.size := by
    have h0 := Hcl.out 0 (by omega)
    exact World.block_lt_of_cell? w _ h0
  have hc1 : w1.cell? ⟨g, i, none⟩ = some (.int .i64 (zs.getD i 0)) := (World.cell?_of_block (hgr.block g hgl (by intro e; injection e with e; exact hgR e))).trans (Hcl.out i hin)
  obtain ⟨x, Hx⟩ : ∃ x, Hid (zs.getD i 0 = x) := ⟨_, rfl⟩
  rw [Hx.out] at hc1
  clear hv1
  go_wp2
  go_ret
  have hm : x ∈ zs := by rw [← Hx.out]; simp [List.getD, List.getElem?_eq_getElem (show i < zs.length by rw [Hn.out]; exact hin)]
  exact ⟨x, rfl, (Hbd.out x hm).1, (Hbd.out x hm).2, hg1, hgr⟩
end Go.Proofs.Ytdhelapgdgekfaa
namespace Go.Proofs.Ytdhelapgdgekfaa
open Go.ChangeShapes Go.WideShapes Go.ChangeAt Go.RowKit
set_option linter.unusedVariables false
set_option maxRecDepth 4000

theorem lit_cells (w : World) (zs : List Int) (g : Nat) (hg : g = w.heap.size) (t : TypeId) : ∀ i, i < zs.length → (w.alloc (.cells (zs.map (Value.int .i64)).toArray t)).cell? ⟨g, i, none⟩ = some (.int .i64 (zs.getD i 0)) := by
  intro i hi
  subst hg
  rw [cell_of_row _ _ _ _ t (0, 0) (heap_alloc_new w _)]
  simp [hi]
theorem own_slice {w : World} {B n : Nat} {v : Value} {zs : List Int} (h : w.ownsRow B 3 1 v n (zs.map (Value.int .i64))) (hn : zs.length = n) :
    ∃ A c, v = .slice A n c ∧ n ≤ c ∧ c ≤ 9223372036854775807 ∧ RdI w w.heap.size A zs := by
  have h0 := h
  rcases h.2 with ⟨rfl, rfl⟩ | ⟨g, cap, cur, rfl, _, _, hnc, hmx, _⟩
  · exact ⟨none, 0, rfl, Nat.le_refl _, by omega, fun hp => by omega⟩
  · exact ⟨_, cap, rfl, hnc, hmx, rdI_of_own h0 hn⟩

/-- One of the numbers of a list that is written out. -/
theorem oneLit (R B k : Nat) (zs : List Int) (n : Nat) (lo hi : Int) (w : World) (cs : Array Value) (hg : GR w B R k) (hk : k ≤ 100000) (hn : zs.length = n) (hn1 : 1 ≤ n) (hn2 : n ≤ 1000)
    (hcs : (zs.map (Value.int .i64)).toArray = cs) (hbd : ∀ x ∈ zs, lo ≤ x ∧ x ≤ hi) :
    Calls Try.prog 79 #[.pointer (some ⟨R, 0, none⟩), .slice (some ⟨w.heap.size, 0, none⟩) n n] (w.alloc (.cells cs 3)) (OnePost B R k lo hi w) := by
  have hga : GR (w.alloc (.cells cs 3)) B R k := hg.kept (row := none) (World.grownBy_alloc _ _ _) (fun g h => by cases h)
  refine (one_any R B k w.heap.size zs n n lo hi _ hga hk hn hn1 hn2 (by have := hg.lt; omega) (by rw [← hn, ← hcs]; exact lit_cells w zs _ rfl _) hbd).mono ?_
  rintro e w2 ⟨m, rfl, hm2, hm3, hg2, hgr2⟩
  exact ⟨m, rfl, hm2, hm3, hg2, gb_trans (World.grownBy_alloc w _ _) hgr2 (.inl rfl)⟩
/-- The same where the list's block is given by its number. -/
theorem oneLitAt (g : Nat) (R B k : Nat) (zs : List Int) (n : Nat) (lo hi : Int) (w : World) (cs : Array Value) (hg : GR w B R k) (hk : k ≤ 100000) (hn : zs.length = n) (hn1 : 1 ≤ n) (hn2 : n ≤ 1000)
    (hcs : (zs.map (Value.int .i64)).toArray = cs) (hbd : ∀ x ∈ zs, lo ≤ x ∧ x ≤ hi) (he : w.heap.size = g) :
    Calls Try.prog 79 #[.pointer (some ⟨R, 0, none⟩), .slice (some ⟨g, 0, none⟩) n n] (w.alloc (.cells cs 3)) (OnePost B R k lo hi w) := by
  subst he
  exact oneLit R B k zs n lo hi w cs hg hk hn hn1 hn2 hcs hbd
end Go.Proofs.Ytdhelapgdgekfaa
