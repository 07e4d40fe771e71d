/-
  The model's rows of times, walked: what visits answers.
  Conditions: a round of at most 20 times, at most 8 spots.
-/
import Derived.Test.YtdkonaaoanggiaaYI
import Derived.Test.YtdkonaaoanggiaaYJ
import Derived.Test.YtdkonaaoanggiaaYD
import Derived.Test.YtdkonaaoanggiaaLL
namespace Go.Proofs.Ytdkonaaoanggiaa
open Go.ChangeShapes Go.WideShapes Go.ChangeAt Go.RowKit
set_option linter.unusedVariables false
set_option maxRecDepth 4000

theorem rowInfo : (Try.prog.info? 23).map (fun i => (i.zero, i.size, i.bytes)) = some (some (.slice none 0 0), 1, 24) := by kernel_rfl
theorem own_elemY {w : World} {B n : Nat} {v : Value} {xs : List Value} (h : w.ownsRow B 23 1 v n xs) : ∀ g, v.ownBlock = some g → ∀ cs, w.heap[g]? ≠ some (Obj.cells cs 3 (0, 0)) := by
  intro g hg cs hcs
  rcases h.2 with ⟨rfl, _⟩ | ⟨g', cap, cur, rfl, h2, hb, h3⟩
  · simp [Value.ownBlock] at hg
  · have e : g' = g := by simpa [Value.ownBlock] using hg
    subst e
    rw [hb] at hcs
    injection hcs with hcs
    injection hcs with _ h5 _
    exact absurd h5 (by decide)
theorem rdL_own {w : World} {B n g c : Nat} {l : List Int} (h : w.ownsRow B 3 1 (.slice (some ⟨g, 0, none⟩) n c) n (l.map (Value.int .i64))) (hl : l.length = n) : n ≤ c ∧ RdL w (some ⟨g, 0, none⟩) l := by
  rcases h.2 with ⟨h0, _⟩ | ⟨g', cap, cur, he, _, hb, hnc, _, hs, ht⟩
  · cases h0
  · injection he with he1 he2 he3
    injection he1 with he1
    injection he1 with he1
    subst he1 he3
    refine ⟨hnc, g, cur, rfl, hb, fun i hi => ?_⟩
    have h1 : (List.take (n * 1) cur.toList)[i]? = (l.map (Value.int .i64))[i]? := by rw [ht]
    rw [List.getElem?_take, if_pos (by omega), List.getElem?_map, List.getElem?_eq_getElem hi] at h1
    rw [← Array.getElem?_toList, h1]
    simp [List.getD, List.getElem?_eq_getElem hi]
/-- Rows so far. -/
structure KeptY (W w : World) (out : Value) (acc : List (List Int)) (vs : List Value) : Prop where
  own : w.ownsRow W.heap.size 23 1 out acc.length vs
  rd : RdLL w vs acc
  bel : Below W.heap.size W w
  lo : ∀ v ∈ vs, ∃ b n c, v = .slice (some ⟨b, 0, none⟩) n c ∧ W.heap.size ≤ b
theorem KeptY.later {W w w' : World} {out : Value} {acc : List (List Int)} {vs : List Value} (h : KeptY W w out acc vs) (hb : Below w.heap.size w w') : KeptY W w' out acc vs :=
  ⟨ownN_below h.own hb, h.rd.map fun A l hl => hl.below hb, h.bel.trans (hb.mono h.bel.size), h.lo⟩
theorem KeptY.push {W w w3 : World} {out out' : Value} {acc : List (List Int)} {vs : List Value} {l : List Int} {g n c : Nat} (h : KeptY W w out acc vs) (hl : l.length = n) (hc : n ≤ c) (hr : RdL w (some ⟨g, 0, none⟩) l) (hg : W.heap.size ≤ g)
    (h3 : w3.ownsRow W.heap.size 23 1 out' (acc.length + 1) (vs ++ [.slice (some ⟨g, 0, none⟩) n c])) (g3 : (w.alloc (.cells #[.slice (some ⟨g, 0, none⟩) n c] 23)).grownBy w3 out.ownBlock) :
    KeptY W w3 out' (acc ++ [l]) (vs ++ [.slice (some ⟨g, 0, none⟩) n c]) := by
  have ho := h.own.alloc (.cells #[.slice (some ⟨g, 0, none⟩) n c] 23)
  have hm : ∀ A l', RdL w A l' → RdL w3 A l' := fun A l' hl => (hl.alloc _).grown g3 (own_elemY ho)
  refine ⟨by rw [List.length_append]; exact h3, ?_, ?_, fun v hv => ?_⟩
  · subst hl
    exact RdLL.snoc (h.rd.map hm) hc (hm _ _ hr)
  · exact (h.bel.alloc h.bel.size _).grown g3 (by rw [size_alloc1]; have := h.bel.size; omega) (fun q hq => (h.own.lt q hq).1)
  · rcases List.mem_append.1 hv with h1 | h1
    · exact h.lo v h1
    · rw [List.mem_singleton.1 h1]; exact ⟨_, _, _, rfl, hg⟩
/-- The times of each of the first spots. -/
def tsY (k : Nat) (zs : List Int) (l : Nat) : List (List Int) := (List.range k).map fun (s : Nat) => tmI zs l (s : Int) zs.length
theorem tsY_len (k : Nat) (zs : List Int) (l : Nat) : (tsY k zs l).length = k := by simp [tsY]
theorem tsY_succ (k : Nat) (zs : List Int) (l : Nat) : tsY (k + 1) zs l = tsY k zs l ++ [tmI zs l (k : Int) zs.length] := by simp [tsY, List.range_succ]
/-- Rows of times of the call's own. -/
def RowsIs (L : List (List Int)) (w : World) (e : Ending) (w' : World) : Prop := ∃ A' c' vs, e = .returned (.slice A' L.length c') ∧ Hid (KeptY w w' (.slice A' L.length c') L vs)
def OutRelY (n l : Nat) (zs : List Int) (w : World) (o i : Value) (wr : World) : Prop :=
  ∃ k g c : Nat, ∃ vs, k ≤ n ∧ o = .slice (some ⟨g, 0, none⟩) k c ∧ i = .int .i64 k ∧ Hid (KeptY w wr (.slice (some ⟨g, 0, none⟩) k c) (tsY k zs l) vs)
def InRelY (l m s : Nat) (zs : List Int) (W : World) (o i : Value) (wr : World) : Prop :=
  ∃ j L g c : Nat, j ≤ m ∧ L ≤ j ∧ o = .slice (some ⟨g, 0, none⟩) L c ∧ i = .int .i64 j ∧ Hid (OwnY wr W.heap.size g c L (tmI zs l (s : Int) j)) ∧ Hid (Below W.heap.size W wr)
theorem keptY_nil (w : World) : KeptY w (w.alloc (.cells #[] 23)) (.slice (some ⟨w.heap.size, 0, none⟩) 0 0) [] [] :=
  ⟨World.ownsRow_lit w #[] 0 (Nat.le_refl _) (by decide) rfl, RdLL.nil _, (Below.refl _ _).alloc (Nat.le_refl _) _, fun v hv => by simp at hv⟩
theorem size_allocs (w : World) (cs : Array Value) (t : TypeId) : w.heap.size ≤ (w.alloc (.cells cs t)).heap.size := by rw [size_alloc1]; omega

set_option maxHeartbeats 3200000 in
theorem visits_any (A : Option Addr) (c m n : Nat) (zs : List Int) (w : World) (hr : RdI w w.heap.size A zs) (hn : zs.length = m) (hm : m ≤ 20) (h8 : n ≤ 8) :
    Calls Try.prog 49 #[.int .i64 n, .slice A m c] w (RowsIs (tsY n zs 0) w) := by
  obtain ⟨i0, hi0, hz0, hz1, hz2⟩ := info_parts intInfo
  obtain ⟨j0, hj0, hy0, hy1, hy2⟩ := info_parts rowInfo
  have Hn := Lib.hid hn
  have HRd := Lib.hid hr
  have HBr : Hid (Below w.heap.size w w) := Below.refl _ _
  have HK0 : Hid (KeptY w (w.alloc (.cells #[] 23)) (.slice (some ⟨w.heap.size, 0, none⟩) 0 0) (tsY 0 zs 0) []) := keptY_nil w
  clear hn hr
  go_enter Try.func49, Try.ntmps49
  go_wp2
  go_loopw [5, 6] (fun o i wr => OutRelY n 0 zs w o i wr) (fun _ i _ => n - (intOf i).toNat)
  case atStart => exact ⟨0, _, _, [], by omega, rfl, rfl, HK0⟩
  case round =>
    clear HK0
    obtain ⟨s, g, c2, vs, hs, rfl, rfl, HK⟩ := hrel
    by_cases hsn : s < n
    · obtain ⟨W, hW⟩ : ∃ W, W = wr := ⟨_, rfl⟩
      subst hW
      have hsz0 := HK.out.bel.size
      have HI0 : Hid (OwnY (W.alloc (.cells #[] 3)) W.heap.size W.heap.size 0 0 (tmI zs 0 (s : Int) 0)) := ⟨rfl, World.ownsRow_lit W #[] 0 (Nat.le_refl _) (by decide) rfl⟩
      have HJ0 : Hid (Below W.heap.size W (W.alloc (.cells #[] 3))) := (Below.refl _ _).alloc (Nat.le_refl _) _
      go_wp2
      go_loopw [7, 8] (fun o i wr => InRelY 0 m s zs W o i wr) (fun _ i _ => m - (intOf i).toNat)
      case atStart => exact ⟨0, 0, _, _, by omega, by omega, rfl, rfl, HI0, HJ0⟩
      case round =>
        clear HI0 HJ0
        obtain ⟨j, L, g2, c3, hj, hL, rfl, rfl, HO, HB⟩ := hrel
        have hszr := HB.out.size
        by_cases hjm : j < m
        · obtain ⟨b, off, x, rfl, hbw, Hx, hcx⟩ := ((HRd.out.below HBr.out).more HBr.out.size).below (HK.out.bel.trans (HB.out.mono hsz0)) |>.x (k := j) (by rw [Hn.out]; exact hjm)
          by_cases hxs : x = (s : Int)
          · have hat : atY zs 0 (s : Int) j = true := by rw [at0 (by rw [Hn.out]; exact hjm), Hx.out]; exact beq_iff_eq.2 hxs
            have hb1 : (x == (s : Int)) = true := beq_iff_eq.2 hxs
            clear hxs
            have Hlen := Lib.hid HO.out.1
            have Hown := Lib.hid HO.out.2
            have hsz : L + 1 ≤ maxLen := by unfold maxLen; omega
            have hsz2 : (L + 1) * 8 ≤ 140737488355328 := by omega
            have hsz3 : W.heap.size ≤ (wr.alloc (.cells #[.int .i64 j] 3)).heap.size := by rw [size_alloc1]; omega
            have Hy := Lib.hid (tmI_yes hat)
            clear hat
            go_wp2_with (at_builtin; refine wpList_append_lies _ rfl _ _ 23 rfl W.heap.size 3 i0 _ 1 8 Try.underlying23 hi0 hz0 hz1 hz2 rfl (by decide) _ _ _ rfl (Hown.out.alloc _) ⟨wr.heap.size, 0, none⟩ 1 1 [.int .i64 j] rfl rfl (cell_one_new _ _ _) (by intro u hu; simp at hu; subst hu; rfl) (by decide) hsz hsz2 hsz3 _ rfl ?_; intro g3 c4 w3 hown3 hgrow3 hat3 hlt3)
            have HO3 : Hid (OwnY w3 W.heap.size g3 c4 (L + 1) (tmI zs 0 (s : Int) (j + 1))) := by show OwnY _ _ _ _ _ _; rw [Hy.out]; exact ownY_push Hlen.out hown3
            have HB3 : Hid (Below W.heap.size W w3) := (HB.out.alloc hszr _).grown hgrow3 hsz3 (fun q hq => (Hown.out.lt q hq).1)
            clear hown3 hgrow3 hat3 hlt3 Hown HO HB hsz hsz2 hsz3
            go_wp2
            go_roundw
            case rel => exact ⟨j + 1, L + 1, g3, c4, by omega, by omega, rfl, by go_num, HO3, HB3⟩
            case measure => simp [intOf]; omega
          · have hat : ¬ atY zs 0 (s : Int) j = true := by rw [at0 (by rw [Hn.out]; exact hjm), Hx.out]; exact fun h => hxs (beq_iff_eq.1 h)
            have hb1 : (x == (s : Int)) = false := by rw [beq_eq_false_iff_ne]; exact hxs
            clear hxs
            have HO3 : Hid (OwnY wr W.heap.size g2 c3 L (tmI zs 0 (s : Int) (j + 1))) := by show OwnY _ _ _ _ _ _; rw [tmI_no hat]; exact HO.out
            clear hat HO
            go_wp2
            go_roundw
            case rel => exact ⟨j + 1, L, g2, c3, by omega, by omega, rfl, by go_num, HO3, HB⟩
            case measure => simp [intOf]; omega
        · obtain rfl : j = m := by omega
          have Hl := Lib.hid HO.out.1
          obtain ⟨hLc, hrd⟩ := rdL_own HO.out.2 HO.out.1
          have Hrd := Lib.hid hrd
          have hglo : w.heap.size ≤ g2 := Nat.le_trans hsz0 (HO.out.2.lt g2 rfl).1
          have HK2 := Lib.hid (HK.out.later HB.out)
          have Hown := Lib.hid HK2.out.own
          have hsz : s + 1 ≤ maxLen := by unfold maxLen; omega
          have hsz2 : (s + 1) * 24 ≤ 140737488355328 := by omega
          have hsz3 : w.heap.size ≤ (wr.alloc (.cells #[.slice (some ⟨g2, 0, none⟩) L c3] 23)).heap.size := by rw [size_alloc1]; omega
          rw [tsY_len] at Hown
          clear hrd HO HK
          go_wp2_with (at_builtin; refine wpList_append_lies _ rfl _ _ 46 rfl w.heap.size 23 j0 _ 1 24 Try.underlying46 hj0 hy0 hy1 hy2 rfl (by decide) _ _ _ rfl (Hown.out.alloc _) ⟨wr.heap.size, 0, none⟩ 1 1 [.slice (some ⟨g2, 0, none⟩) L c3] rfl rfl (cell_one_new _ _ _) (by intro u hu; simp at hu; subst hu; rfl) (by decide) hsz hsz2 hsz3 _ rfl ?_; intro g3 c4 w3 hown3 hgrow3 hat3 hlt3)
          have HK3 : Hid (KeptY w w3 (.slice (some ⟨g3, 0, none⟩) (s + 1) c4) (tsY (s + 1) zs 0) (vs ++ [.slice (some ⟨g2, 0, none⟩) L c3])) := by
            show KeptY _ _ _ _ _
            rw [tsY_succ, Hn.out]
            exact KeptY.push HK2.out Hl.out hLc Hrd.out hglo (by rw [tsY_len]; exact hown3) hgrow3
          clear hown3 hgrow3 hat3 hlt3 Hown HK2 Hrd Hl hsz hsz2 hsz3
          go_wp2
          go_roundw
          case rel => exact ⟨s + 1, g3, c4, _, by omega, rfl, by go_num, HK3⟩
          case measure => simp [intOf]; omega
    · obtain rfl : s = n := by omega
      have HE : Hid (RowsIs (tsY s zs 0) w (.returned (.slice (some ⟨g, 0, none⟩) s c2)) wr) := ⟨_, _, vs, by rw [tsY_len], by rw [tsY_len]; exact HK⟩
      clear HK
      go_wp2
      go_ret
      exact HE.out
end Go.Proofs.Ytdkonaaoanggiaa
