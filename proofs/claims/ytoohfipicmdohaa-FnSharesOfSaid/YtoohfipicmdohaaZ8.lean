/-
  The laws' total: the sum of a list.
  Conditions: fewer than 2^20 numbers of at most 2^32 each.
  backwards of the laws; FnSharesOf and FnShopsAlone, walked.
  Conditions: as each theorem states.
-/
import Derived.Test.YtoohfipicmdohaaZ0
import Derived.Test.YtoohfipicmdohaaZ7
import Derived.Test.YtoohfipicmdohaaZ2
import Derived.Test.YtoohfipicmdohaaZ9
import Derived.Test.YtoohfipicmdohaaZ3
namespace Go.Proofs.Ytoohfipicmdohaa
open Go.ChangeShapes Go.WideShapes Go.ChangeAt Go.RowKit
set_option linter.unusedVariables false

/-- The sum of the first k numbers. -/
def totI (zs : List Int) : Nat → Int
  | 0 => 0
  | k + 1 => totI zs k + zs.getD k 0
theorem totI_bd {zs : List Int} {M : Int} (hM : 0 ≤ M) : ∀ k, (∀ i, i < k → -M ≤ zs.getD i 0 ∧ zs.getD i 0 ≤ M) → -(M * k) ≤ totI zs k ∧ totI zs k ≤ M * k
  | 0, _ => by simp [totI]
  | k + 1, h => by
    have h1 := totI_bd hM k fun i hi => h i (by omega)
    have h2 := h k (by omega)
    have e : M * ((k + 1 : Nat) : Int) = M * (k : Int) + M := by rw [Int.natCast_add, Int.mul_add]; simp
    simp only [totI]
    rw [e]
    omega
set_option maxHeartbeats 400000 in
theorem total_any (A : Option Addr) (c n : Nat) (zs : List Int) (w : World) (B : Nat) (hr : RdI w B A zs) (hn : zs.length = n) (hb : n ≤ 1048576) (hz : ∀ i, i < n → -4294967296 ≤ zs.getD i 0 ∧ zs.getD i 0 ≤ 4294967296) :
    Calls Try.prog 23 #[.slice A n c] w fun e w' => e = .returned (.int .i64 (totI zs n)) ∧ w = w' := by
  have Hn := Lib.hid hn
  have Hz := Lib.hid hz
  clear hn hz
  go_enter Try.func23, Try.ntmps23
  go_wp2
  go_loop [3, 4] (fun a i => ∃ k : Nat, k ≤ n ∧ a = .int .i64 (totI zs k) ∧ i = .int .i64 k) (fun _ i => n - (intOf i).toNat)
  case atStart => exact ⟨0, Nat.zero_le _, rfl, rfl⟩
  case round =>
    obtain ⟨k, hk, rfl, rfl⟩ := hrel
    by_cases hlt : k < n
    · obtain ⟨b, off, x, rfl, hbw, Hx, hc⟩ := hr.x (k := k) (by rw [Hn.out]; exact hlt)
      have ht := totI_bd (zs := zs) (M := 4294967296) (by omega) k fun i hi => Hz.out i (by omega)
      have hx := Hz.out k hlt
      rw [Hx.out] at hx
      obtain ⟨a, Ha⟩ : ∃ a, Hid (totI zs k = a) := ⟨_, rfl⟩
      rw [Ha.out] at ht ⊢
      have Ha2 : Hid (totI zs (k + 1) = a + x) := by show _ = _; simp only [totI]; rw [Ha.out, Hx.out]
      have hw : IntKind.i64.wrap (a + x) = a + x := IntWalk.i64_in _ (by omega)
      go_wp2
      go_round
      case rel => exact ⟨k + 1, by omega, by rw [Ha2.out], by go_num⟩
      case measure => simp [intOf]; omega
    · obtain rfl : k = n := by omega
      go_wp2
      go_ret
      exact ⟨rfl, rfl⟩
end Go.Proofs.Ytoohfipicmdohaa
namespace Go.Proofs.Ytoohfipicmdohaa
open Go.ChangeShapes Go.WideShapes Go.ChangeAt Go.RowKit
set_option linter.unusedVariables false
set_option maxRecDepth 4000

theorem RowQ.pin {xs : List Int} {L : Nat} {w : World} {e : Ending} {w' : World} (h : RowQ xs w e w') (hL : xs.length = L) (hm : L ≤ 1000) : ∃ A c, e = .returned (.slice A L c) ∧ Hid (PIn w' A c L xs) ∧ Hid (Below w.heap.size w w') := by
  obtain ⟨A, c, he, ho, hb⟩ := h
  obtain ⟨A2, c2, e2, h1, h2, h3⟩ := own_slice ho.out rfl
  injection e2 with e2 _ e3
  subst e2 e3 hL
  exact ⟨A, c, he, ⟨h3, rfl, ⟨h1, h2⟩, by omega⟩, hb⟩
theorem totI_cI (xs : List Nat) : ∀ k, k ≤ xs.length → totI (cI xs) k = (((xs.take k).sum : Nat) : Int)
  | 0, _ => by simp [totI]
  | k + 1, h => by
    rw [totI, totI_cI xs k (by omega), take_snocN (s := xs.getD k 0) (by omega) rfl, List.sum_append, cI_getD]
    simp
theorem shQ_le4 (n : Int) (zs : List Int) : (shQ n zs).length ≤ 4 := by
  by_cases h : vsh n zs = true
  · obtain ⟨N, ss, rfl, rfl, hS⟩ := vsh_get h
    rw [shQ_yes hS, cI_length, shL_length]
    exact hS.l4
  · rw [shQ_no (by simpa using h)]; simp
theorem shQ_some {d : Nat} {zs : List Int} (h : (shQ (d : Int) zs).length ≠ 0) : ∃ ss, zs = cI ss ∧ Sh d ss ∧ shQ (d : Int) zs = cI (shL d ss) := by
  by_cases hv : vsh (d : Int) zs = true
  · obtain ⟨N, ss, hN, rfl, hS⟩ := vsh_get hv
    obtain rfl : d = N := by omega
    exact ⟨ss, rfl, hS, shQ_yes hS⟩
  · rw [shQ_no (by simpa using hv)] at h; simp at h
theorem shL_bd {n : Nat} {ss : List Nat} (h9 : n ≤ 9) {i : Nat} (hi : i < ss.length) : (shL n ss).getD i 0 ≤ 108 := by
  rw [shL_getD hi]; have := shK_le ss (ss.getD i 0) n; omega
theorem cI_reverse (xs : List Nat) : cI xs.reverse = (cI xs).reverse := by simp [cI]
theorem rev_pushQ {zs : List Int} {j m : Nat} (hm : zs.length = m) (hj : j < m) : (zs.drop (j + 1)).reverse ++ [zs.getD j 0] = (zs.drop j).reverse := by
  rw [List.drop_eq_getElem_cons (show j < zs.length by omega), List.reverse_cons]
  simp [List.getD, List.getElem?_eq_getElem (show j < zs.length by omega)]
def BwQ (m : Nat) (zs : List Int) (w : World) (o i : Value) (wr : World) : Prop :=
  ∃ j g c L : Nat, j ≤ m ∧ L + j = m ∧ o = .slice (some ⟨g, 0, none⟩) L c ∧ i = .int .i64 ((j : Int) - 1) ∧ Hid (OwnQ wr w.heap.size g c L (zs.drop j).reverse) ∧ Hid (Below w.heap.size w wr)
set_option maxHeartbeats 800000 in
theorem backQ_any (A : Option Addr) (c m : Nat) (zs : List Int) (w : World) (h : PIn w A c m zs) (hm : m ≤ 1000) :
    Calls Try.prog 24 #[.slice A m c] w (RowQ zs.reverse w) := by
  obtain ⟨i0, hi0, hz0, hz1, hz2⟩ := info_parts intInfo
  have Hn := Lib.hid h.len
  have HR := Lib.hid h.rd
  have HO0 : Hid (OwnQ (w.alloc (.cells #[] 3)) w.heap.size w.heap.size 0 0 (zs.drop m).reverse) := by
    show OwnQ _ _ _ _ _ _
    rw [List.drop_of_length_le (by rw [Hn.out]; omega)]
    exact ⟨rfl, World.ownsRow_lit w #[] 0 (Nat.le_refl _) (by decide) rfl⟩
  have HB0 : Hid (Below w.heap.size w (w.alloc (.cells #[] 3))) := (Below.refl _ _).alloc (Nat.le_refl _) _
  clear h
  go_enter Try.func24, Try.ntmps24
  go_wp2
  go_loopw [3, 4] (fun o i wr => BwQ m zs w o i wr) (fun _ i _ => (intOf i + 1).toNat)
  case atStart => exact ⟨m, _, _, 0, by omega, by omega, rfl, rfl, HO0, HB0⟩
  case round =>
    clear HO0 HB0
    obtain ⟨j, g, c2, L, hj, hL, rfl, rfl, HO, HB⟩ := hrel
    by_cases hpos : 0 < j
    · obtain ⟨i, rfl⟩ : ∃ i, j = i + 1 := ⟨j - 1, by omega⟩
      obtain ⟨b, off, x, rfl, hbw, Hx, hcx⟩ := (HR.out.below HB.out).x (k := i) (by rw [Hn.out]; omega)
      have hic : ((i + 1 : Nat) : Int) - 1 = (i : Int) := by omega
      rw [hic]
      have Hlen := Lib.hid HO.out.1
      have Hown := Lib.hid HO.out.2
      have hsz : L + 1 ≤ maxLen := by unfold maxLen; omega
      have hsz2 : (L + 1) * 8 ≤ 140737488355328 := by omega
      have hsz3 : w.heap.size ≤ (wr.alloc (.cells #[.int .i64 x] 3)).heap.size := by rw [size_alloc1]; have := HB.out.size; omega
      clear hic
      go_wp2_with (at_builtin; refine wpList_append_lies _ rfl _ _ 23 rfl w.heap.size 3 i0 _ 1 8 Try.underlying23 hi0 hz0 hz1 hz2 rfl (by decide) _ _ _ rfl (Hown.out.alloc _) ⟨wr.heap.size, 0, none⟩ 1 1 [.int .i64 x] rfl rfl (cell_one_new _ _ _) (by intro u hu; simp at hu; subst hu; rfl) (by decide) hsz hsz2 hsz3 _ rfl ?_; intro g3 c3 w3 hown3 hgrow3 hat3 hlt3)
      have HO3 : Hid (OwnQ w3 w.heap.size g3 c3 (L + 1) (zs.drop i).reverse) := by
        show OwnQ _ _ _ _ _ _
        rw [← rev_pushQ Hn.out (show i < m by omega), Hx.out]
        exact ownQ_push Hlen.out hown3
      have HB3 : Hid (Below w.heap.size w w3) := (HB.out.alloc HB.out.size _).grown hgrow3 hsz3 (fun q hq => (Hown.out.lt q hq).1)
      clear hown3 hgrow3 hat3 hlt3 Hown HO HB hsz hsz2 hsz3 hcx
      go_wp2
      go_roundw
      case rel => exact ⟨i, g3, c3, L + 1, by omega, by omega, rfl, by go_num, HO3, HB3⟩
      case measure => first | (simp [intOf]; done) | (simp [intOf]; omega)
    · obtain rfl : j = 0 := by omega
      have hown := HO.out
      rw [List.drop_zero] at hown
      have HE := Lib.hid (hown.row (Nat.le_refl _) HB.out)
      clear hown
      go_wp2
      go_ret
      exact HE.out

set_option maxHeartbeats 1600000 in
theorem lawSharesOf_walk (A : Option Addr) (c : Nat) (bs : List Int) (w : World) (hr : RdB w w.heap.size A bs) (hcap : bs.length ≤ c) (hm : c ≤ maxLen) :
    Calls Try.prog 4 #[.slice A bs.length c] w fun e w' => e = .returned (.bool true) ∧ Below w.heap.size w w' := by
  unfold maxLen at hm
  obtain ⟨n, Hn⟩ : ∃ n, Hid (bs.length = n) := ⟨_, rfl⟩
  rw [Hn.out] at hcap ⊢
  have HD := Lib.hid (drawSharesOf_any A c n bs w hr Hn.out hcap (by omega))
  have HI0 := Lib.hid iSharesOf_ok
  have HS0 := Lib.hid sSharesOf_ok
  clear hr
  by_cases hb : 1048576 < n
  · go_enter Try.func4, Try.ntmps4
    go_wp2
    go_ret
    exact ⟨rfl, Below.refl _ _⟩
  · go_enter Try.func4, Try.ntmps4
    go_wp2_with fail
    refine HD.out.mono ?_
    rintro e w1 ⟨d, A1, c1, m, zs, rfl, hd, hm1, hm4, hin, hb1⟩
    have N1 := Lib.hid hin.out
    have B1 := Lib.hid hb1.out
    clear hin hb1 HD hb hcap hm
    have hbe : ∀ x : Int, (x == x) = true := fun x => by simp
    have hL4 := shQ_le4 (d : Int) zs
    have Hf0 := Lib.hid (shQ_some (d := d) (zs := zs))
    obtain ⟨xs, Hx⟩ : ∃ xs, Hid (shQ (d : Int) zs = xs) := ⟨_, rfl⟩
    obtain ⟨L, HL⟩ : ∃ L, Hid (xs.length = L) := ⟨_, rfl⟩
    rw [Hx.out, HL.out] at hL4
    have Hf : Hid (L ≠ 0 → ∃ ss, zs = cI ss ∧ Sh d ss ∧ xs = cI (shL d ss)) := fun h => by
      have := Hf0.out; rw [Hx.out, HL.out] at this; exact this h
    have HI : Hid (∀ A c W, PIn W A c m zs → Calls Try.prog 20 #[.int .i64 (d : Int), .slice A m c] W fun e w' => ∃ A' c', e = .returned (.slice A' L c') ∧ Hid (PIn w' A' c' L xs) ∧ Hid (Below W.heap.size W w')) := fun A c W h => (HI0.out (d : Int) A c m zs W h).mono (fun e w' hr => by rw [Hx.out] at hr; exact hr.pin HL.out (by omega))
    have HS : Hid (∀ A c W, PIn W A c m zs → Calls Try.prog 22 #[.int .i64 (d : Int), .slice A m c] W fun e w' => ∃ A' c', e = .returned (.slice A' L c') ∧ Hid (PIn w' A' c' L xs) ∧ Hid (Below W.heap.size W w')) := fun A c W h => (HS0.out (d : Int) A c m zs W h).mono (fun e w' hr => by rw [Hx.out] at hr; exact hr.pin HL.out (by omega))
    clear HS0 Hf0
    go_wp2_with fail
    refine (HI.out _ _ w1 N1.out).mono ?_
    rintro e w2 ⟨A2, c2, rfl, G2, hq⟩
    have N2 := Lib.hid (N1.out.later hq.out)
    have B2 := Lib.hid (B1.out.trans (hq.out.mono B1.out.size))
    clear hq
    go_wp2_with fail
    refine (HS.out _ _ w2 N2.out).mono ?_
    rintro e w3 ⟨A3, c3, rfl, S3, hq⟩
    have N3 := Lib.hid (N2.out.later hq.out)
    have G3 := Lib.hid (G2.out.later hq.out)
    have B3 := Lib.hid (B2.out.trans (hq.out.mono B2.out.size))
    clear hq
    go_wp2_with fail
    refine (calls_drawn (eqLi_same A2 A3 c2 c3 L L xs w3 _ _ G3.out.rd G3.out.len S3.out.rd S3.out.len (by omega))).mono ?_
    rintro e w4 ⟨rfl, hq⟩
    have N4 := Lib.hid (N3.out.later hq)
    have G4 := Lib.hid (G3.out.later hq)
    have B4 := Lib.hid (B3.out.trans (hq.mono B3.out.size))
    clear hq
    by_cases h0 : L = 0
    · subst h0
      clear Hf
      go_wp2_with fail
      refine (HS.out _ _ w4 N4.out).mono ?_
      rintro e w5 ⟨A4, c4, rfl, S5, hq⟩
      have G5 := Lib.hid (G4.out.later hq.out)
      have B5 := Lib.hid (B4.out.trans (hq.out.mono B4.out.size))
      clear hq
      go_wp2_with fail
      refine (calls_drawn (eqLi_same A2 A4 c2 c4 0 0 xs w5 _ _ G5.out.rd G5.out.len S5.out.rd S5.out.len (by omega))).mono ?_
      rintro e w6 ⟨rfl, hq⟩
      have B6 := Lib.hid (B5.out.trans (hq.mono B5.out.size))
      clear hq
      go_wp2
      go_ret
      exact ⟨rfl, B6.out⟩
    · obtain ⟨ss, rfl, hS, rfl⟩ := Hf.out h0
      have hl0 : ((L : Int) == 0) = false := by rw [beq_eq_false_iff_ne]; omega
      have hn9 := hS.n9
      have hlL : (shL d ss).length = L := by rw [← cI_length]; exact HL.out
      have hlm : ss.length = L := by rw [← shL_length d ss]; exact hlL
      have Ht : Hid (totI (cI (shL d ss)) L = 12 * (d : Int)) := by
        show _ = _
        rw [totI_cI _ _ (by omega), ← hlL, List.take_length, hS.total]
        omega
      have Hbd : Hid (∀ i, i < L → -4294967296 ≤ (cI (shL d ss)).getD i 0 ∧ (cI (shL d ss)).getD i 0 ≤ 4294967296) := fun i hi => by
        rw [cI_getD]
        have := shL_bd hn9 (ss := ss) (i := i) (by omega)
        omega
      have Hrev : Hid (shQ (d : Int) (cI (revS d ss)) = (cI (shL d ss)).reverse) := by
        show _ = _
        rw [shQ_yes hS.rev, hS.turned, cI_reverse]
      have hrl : Hid ((cI (shL d ss)).reverse.length = L) := by show _ = _; rw [List.length_reverse]; exact HL.out
      have hw12 : IntKind.i64.wrap (12 * (d : Int)) = 12 * (d : Int) := IntWalk.i64_in _ (by omega)
      have HF := Lib.hid (fromEnd_any d c1 m A1 ss w4 N4.out hS)
      have hl4 : Hid ((revS d ss).length ≤ 100) := by show _ ≤ _; rw [revS_length]; have := hS.l4; omega
      clear Hf h0 hlL hlm hS
      go_wp2_with fail
      refine (total_any A2 c2 L _ w4 _ G4.out.rd G4.out.len (by omega) Hbd.out).mono ?_
      rintro e w5 ⟨rfl, rfl⟩
      rw [Ht.out]
      go_wp2_with fail
      refine HF.out.mono ?_
      intro e w6 hq
      obtain ⟨A6, c6, m6, rfl, hp6, hb6⟩ := hq.shops (n := d) hl4.out
      have P6 := Lib.hid hp6
      have G6 := Lib.hid (G4.out.later hb6)
      have B6 := Lib.hid (B4.out.trans (hb6.mono B4.out.size))
      clear hq hp6 hb6
      go_wp2_with fail
      refine (HI0.out (d : Int) A6 c6 m6 _ w6 P6.out).mono ?_
      intro e w7 hq
      rw [Hrev.out] at hq
      obtain ⟨A7, c7, rfl, P7, hb7⟩ := hq.pin hrl.out (by omega)
      have G7 := Lib.hid (G6.out.later hb7.out)
      have B7 := Lib.hid (B6.out.trans (hb7.out.mono B6.out.size))
      clear hq hb7
      go_wp2_with fail
      refine (backQ_any A2 c2 L _ w7 G7.out (by omega)).mono ?_
      intro e w8 hq
      obtain ⟨A8, c8, rfl, P8, hb8⟩ := hq.pin hrl.out (by omega)
      have Q8 := Lib.hid (P7.out.later hb8.out)
      have B8 := Lib.hid (B7.out.trans (hb8.out.mono B7.out.size))
      clear hq hb8
      go_wp2_with fail
      refine (calls_drawn (eqLi_same A7 A8 c7 c8 L L _ w8 _ _ Q8.out.rd Q8.out.len P8.out.rd P8.out.len (by omega))).mono ?_
      rintro e w9 ⟨rfl, hq⟩
      have B9 := Lib.hid (B8.out.trans (hq.mono B8.out.size))
      clear hq
      go_wp2
      go_ret
      exact ⟨rfl, B9.out⟩

theorem pin_one (w : World) (x : Int) : PIn (w.alloc (.cells #[.int .i64 x] 3)) (some ⟨w.heap.size, 0, none⟩) 1 1 [x] :=
  ⟨fun _ => ⟨w.heap.size, 0, rfl, by rw [size_alloc1]; omega, fun i hi => by
    rw [cell_of_row _ _ _ _ _ _ (heap_alloc_new w _)]
    rcases (show i = 0 by simp at hi; omega) with rfl
    rfl⟩, rfl, ⟨Nat.le_refl _, by omega⟩, by omega⟩
theorem pin_two (w : World) (x y : Int) : PIn (w.alloc (.cells #[.int .i64 x, .int .i64 y] 3)) (some ⟨w.heap.size, 0, none⟩) 2 2 [x, y] :=
  ⟨fun _ => ⟨w.heap.size, 0, rfl, by rw [size_alloc1]; omega, fun i hi => by
    rw [cell_of_row _ _ _ _ _ _ (heap_alloc_new w _)]
    rcases (show i = 0 ∨ i = 1 by simp at hi; omega) with rfl | rfl <;> rfl⟩, rfl, ⟨Nat.le_refl _, by omega⟩, by omega⟩
end Go.Proofs.Ytoohfipicmdohaa
