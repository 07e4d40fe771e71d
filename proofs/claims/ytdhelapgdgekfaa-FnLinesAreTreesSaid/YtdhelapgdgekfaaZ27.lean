/-
  MostApart: the program fills the table and answers its greatest number.
  Conditions: fewer than 2^20 numbers.
  MostApart of the model appends the same table.
  Conditions: fewer than 2^20 numbers.
  Homes drawn, helpers drawn, how far drawn.
  Conditions: none beyond what each theorem states.
  The drawn arguments of MostApart: a list of at most ten numbers, and a number.
  Conditions: none beyond what each theorem states.
  The law FnLinesAreTrees: on a line's tree at least as many nodes are apart as homes on the line.
  Conditions: none.
-/
import Derived.Test.YtdhelapgdgekfaaZ26
import Derived.Test.YtdhelapgdgekfaaZ2
import Derived.Test.YtdhelapgdgekfaaZ9
import Derived.Test.YtdhelapgdgekfaaZ15
import Derived.Test.YtdhelapgdgekfaaZ19
import Derived.Deep.AppendLies
import Derived.Maps.AppendAt
import Derived.Deep.CutBlock
namespace Go.Proofs.Ytdhelapgdgekfaa
open Go.ChangeShapes Go.WideShapes Go.ChangeAt Go.RowKit
set_option linter.unusedVariables false

theorem if_max (a b : Int) : (if a < b then b else a) = max a b := by split <;> omega
theorem most_store {w : World} {B b n cap m k : Nat} {pre : List Int} {t u : Int} (hl : pre.length = k) (h : w.ownsRow B 3 1 (.slice (some ⟨b, 0, none⟩) n cap) n (rowc pre t m)) :
    (w.setCell ⟨b, k, none⟩ (.int .i64 (if t < u then u else t))).drew.ownsRow B 3 1 (.slice (some ⟨b, 0, none⟩) n cap) n (rowc pre (max t u) m) := by
  have h2 := (h.stored k (.int .i64 (if t < u then u else t))).1
  rw [if_max] at h2 ⊢
  rw [← rowc_set pre t, hl]
  exact h2
theorem rowc_done {far x : Int} {zs : List Int} {j n : Nat} (hx : zs.getD j 0 = x) :
    (bests far zs (j + 1) ++ List.replicate (n - (j + 1)) 0).map (Value.int .i64) = rowc (bests far zs j) (inn far x zs (bests far zs j) j) (n - (j + 1)) := by
  simp [rowc, bests, ← hx]

set_option maxHeartbeats 800000 in
theorem iMost_any (A : Option Addr) (c n : Nat) (zs : List Int) (far : Int) (w : World) (B : Nat) (hr : RdI w B A zs) (hB : B ≤ w.heap.size) (hn : zs.length = n) (hcap : n ≤ c) (hc63 : c ≤ 9223372036854775807) (hb : n ≤ 1048576) :
    Calls Try.prog 49 #[.slice A n c, .int .i64 far] w fun e w' => e = .returned (.int .i64 (mapart zs far)) ∧ Below w.heap.size w w' := by
  obtain ⟨i0, hi0, hz0, hz1, hz2⟩ := info_parts intInfo
  have Hn := Lib.hid hn
  clear hn
  by_cases hv : vh zs = true
  · by_cases hf : far < 0 ∨ 50 < far
    · have Hs := Lib.hid (mapart_no' (zs := zs) (vfar_no hf))
      go_enter Try.func49, Try.ntmps49
      go_wp2_with fail
      refine (iValid_any A c n zs w B hr Hn.out (by omega)).mono ?_
      rintro e w' ⟨rfl, rfl⟩
      go_wp2_with (go_at_call 64; refine (validFar_no _ _ hf).mono ?_; rintro e w' ⟨rfl, rfl⟩)
      go_ret
      exact ⟨ret_int Hs.out.symm, Below.refl _ _⟩
    · have h1 : 0 ≤ far := by omega
      have h2 : far ≤ 50 := by omega
      clear hf
      have Hs := Lib.hid (mapart_yes hv (vfar_yes h1 h2))
      have Hl := vh_len hv
      rw [Hn.out] at Hl
      go_enter Try.func49, Try.ntmps49
      go_wp2_with fail
      refine (iValid_any A c n zs w B hr Hn.out (by omega)).mono ?_
      rintro e w' ⟨rfl, rfl⟩
      have Hv := Lib.hid hv
      go_wp2_with (first
        | (go_at_call 64; refine (validFar_yes _ _ h1 h2).mono ?_; rintro e w' ⟨rfl, rfl⟩)
        | (at_make; refine wpList_make_full _ rfl _ _ 37 rfl w.heap.size 3 i0 _ 1 Try.underlying37 hi0 hz0 hz1 _ _ _ _ n rfl rfl rfl rfl (by rw [hz2]; omega) (by unfold maxLen; omega) (Nat.le_refl _) ?_; intro w1 hown1 hg1))
      clear hv
      have hs1 : w.heap.size < w1.heap.size := (hown1.lt w.heap.size rfl).2
      have hnx1 : Below w.heap.size w w1 := (Below.refl _ _).grown hg1 (Nat.le_refl _) (fun j hj => by cases hj)
      rw [made_ints] at hown1
      go_loopw [5, 24] (fun m i wr => ∃ k : Nat, k ≤ n ∧ i = .int .i64 k ∧ m = .int .i64 (topp far zs k) ∧ wr.ownsRow w.heap.size 3 1 (.slice (some ⟨w.heap.size, 0, none⟩) n n) n ((bests far zs k ++ List.replicate (n - k) 0).map (Value.int .i64)) ∧ Below w.heap.size w wr)
        (fun _ i _ => n - (intOf i).toNat)
      case atStart => exact ⟨0, Nat.zero_le _, rfl, rfl, by simpa [bests] using hown1, hnx1⟩
      case round =>
        obtain ⟨k, hk, rfl, rfl, hown, hnx⟩ := hrel
        obtain ⟨wo, rfl⟩ : ∃ wo : World, wo = wr := ⟨_, rfl⟩
        have htb := topp_bd (far := far) (zs := zs) k
        by_cases hlt : k < n
        · obtain ⟨b, off, x, rfl, hbw, Hx, hc⟩ := (hr.below (hnx.mono hB)).x (k := k) (by rw [Hn.out]; exact hlt)
          obtain ⟨hx1, hx2⟩ := vh_get Hv.out (by rw [Hn.out]; exact hlt) Hx.out
          have hl := bests_length far zs k
          have hst : (wo.setCell ⟨w.heap.size, k, none⟩ (.int .i64 1)).ownsRow w.heap.size 3 1 (.slice (some ⟨w.heap.size, 0, none⟩) n n) n (rowc (bests far zs k) 1 (n - (k + 1))) := by
            rw [show n - k = (n - (k + 1)) + 1 by omega, ← rowc_zero] at hown
            have h := (hown.stored k (.int .i64 1)).1
            rw [← rowc_set _ 0 1]
            rw [hl]
            exact h
          have hcell : ∃ v, wo.cell? ⟨w.heap.size, k, none⟩ = some v := by
            rw [hown.cellAt k (by omega)]
            exact ⟨_, List.getElem?_eq_getElem (by simp [hl]; omega)⟩
          obtain ⟨v, hv⟩ := hcell
          have hfz := hown.frozenAt k
          have Hst := Lib.hid hst
          clear hst
          have Hl2 := Lib.hid hl
          clear hl
          have hnxs : Below w.heap.size w (wo.setCell ⟨w.heap.size, k, none⟩ (.int .i64 1)) := hnx.setCell (Nat.le_refl _) _
          have Hown := Lib.hid hown
          clear hown
          go_wp2
          clear hv hfz hc Hown
          go_loopw [36] (fun i wr => ∃ j : Nat, j ≤ k ∧ i = .int .i64 j ∧ wr.ownsRow w.heap.size 3 1 (.slice (some ⟨w.heap.size, 0, none⟩) n n) n (rowc (bests far zs k) (inn far x zs (bests far zs k) j) (n - (k + 1))) ∧ Below w.heap.size w wr)
            (fun i _ => k - (intOf i).toNat)
          case atStart => exact ⟨0, Nat.zero_le _, rfl, Hst.out, hnxs⟩
          case round =>
            obtain ⟨j, hj, rfl, hown, hnx⟩ := hrel
            have hcw := hown.cellAt k (by omega)
            have hfz := hown.frozenAt k
            have hat := rowc_at (bests far zs k) (inn far x zs (bests far zs k) j) (n - (k + 1))
            rw [Hl2.out] at hat
            rw [hat] at hcw
            clear hat
            have hbd := inn_bd (far := far) (x := x) (zs := zs) (bs := bests far zs k) (j := j) (fun i hi => (bests_bd i (by omega)).2)
            by_cases hjk : j < k
            · obtain ⟨b', off', y, he, _, Hy, hcy⟩ := (hr.below (hnx.mono hB)).x (k := j) (by rw [Hn.out]; omega)
              injection he with he
              injection he with he1 he2
              subst he1 he2
              obtain ⟨hy1, hy2⟩ := vh_get Hv.out (by rw [Hn.out]; omega) Hy.out
              have hbj := bests_bd (far := far) (zs := zs) j hjk
              have hcj := hown.cellAt j (by omega)
              rw [rowc_lt _ _ _ (by rw [Hl2.out]; exact hjk)] at hcj
              obtain ⟨v, Hv2⟩ : ∃ v, Hid ((bests far zs k).getD j 0 = v) := ⟨_, rfl⟩
              rw [Hv2.out] at hcj hbj
              obtain ⟨t, Ht⟩ : ∃ t, Hid (inn far x zs (bests far zs k) j = t) := ⟨_, rfl⟩
              rw [Ht.out] at hcw hbd
              have Hown := Lib.hid hown
              clear hown
              by_cases hxy : 2 * far < x - y
              · have Hi := Lib.hid (inn_yes Hy.out Hv2.out Ht.out hxy)
                go_wp2
                go_region
                go_wp2
                go_roundw
                case rel => exact ⟨j + 1, by omega, by go_num, by rw [Hi.out]; rw [Ht.out] at Hown; exact most_store Hl2.out Hown.out, (hnx.setCell (Nat.le_refl _) _).drew⟩
                case measure => simp [intOf]; omega
              · have Hi := Lib.hid (inn_no Hy.out Ht.out hxy)
                go_wp2
                go_roundw
                case rel => exact ⟨j + 1, by omega, by go_num, by rw [Hi.out, ← Ht.out]; exact Hown.out, hnx⟩
                case measure => simp [intOf]; omega
            · obtain rfl : j = k := by omega
              obtain ⟨t, Ht⟩ : ∃ t, Hid (inn far x zs (bests far zs j) j = t) := ⟨_, rfl⟩
              rw [Ht.out] at hcw hbd
              have Hown := Lib.hid hown
              clear hown
              have htp : topp far zs (j + 1) = max (topp far zs j) t := by rw [← Ht.out, ← Hx.out]; rfl
              have Htp := Lib.hid htp
              clear htp
              go_wp2
              go_roundw
              case rel => exact ⟨j + 1, by omega, by go_num, by rw [Htp.out, if_max], by rw [rowc_done Hx.out]; exact Hown.out, hnx⟩
              case measure => simp [intOf]; omega
        · obtain rfl : k = n := by omega
          go_wp2
          go_ret
          exact ⟨ret_int (by rw [Hs.out, Hn.out]), hnx⟩
  · have hv' : vh zs = false := by simpa using hv
    clear hv
    have Hs := Lib.hid (mapart_no (far := far) hv')
    go_enter Try.func49, Try.ntmps49
    go_wp2_with fail
    refine (iValid_any A c n zs w B hr Hn.out (by omega)).mono ?_
    rintro e w' ⟨rfl, rfl⟩
    go_wp2
    go_ret
    exact ⟨ret_int Hs.out.symm, Below.refl _ _⟩
end Go.Proofs.Ytdhelapgdgekfaa
namespace Go.Proofs.Ytdhelapgdgekfaa
open Go.ChangeShapes Go.WideShapes Go.ChangeAt Go.RowKit
set_option linter.unusedVariables false
set_option maxRecDepth 4000

theorem best_next {far x : Int} {zs : List Int} {j : Nat} (hx : zs.getD j 0 = x) :
    (bests far zs (j + 1)).map (Value.int .i64) = (bests far zs j).map (Value.int .i64) ++ [.int .i64 (inn far x zs (bests far zs j) j)] := by
  simp [bests, ← hx]
theorem below_alloc_drewN {B : Nat} {a w : World} (h : Below B a w) (hB : B ≤ w.heap.size) (q : Nat) (o : Obj) : Below B a ((w.drewN q).alloc o) := (below_drewN h q).alloc hB o

set_option maxHeartbeats 800000 in
theorem sMost_any (A : Option Addr) (c n : Nat) (zs : List Int) (far : Int) (w : World) (B : Nat) (hr : RdI w B A zs) (hB : B ≤ w.heap.size) (hn : zs.length = n) (hb : n ≤ 1048576) :
    Calls Try.prog 50 #[.slice A n c, .int .i64 far] w fun e w' => e = .returned (.int .i64 (mapart zs far)) ∧ Below w.heap.size w w' := by
  obtain ⟨i0, hi0, hz0, hz1, hz2⟩ := info_parts intInfo
  have Hn := Lib.hid hn
  clear hn
  by_cases hv : vh zs = true
  · by_cases hf : far < 0 ∨ 50 < far
    · have Hs := Lib.hid (mapart_no' (zs := zs) (vfar_no hf))
      go_enter Try.func50, Try.ntmps50
      go_wp2_with fail
      refine (sValid_any A c n zs w B hr Hn.out (by omega)).mono ?_
      rintro e w' ⟨rfl, q, rfl⟩
      go_wp2_with (go_at_call 68; refine (inRange_no _ _ _ _ hf).mono ?_; rintro e w' ⟨rfl, rfl⟩)
      go_ret
      exact ⟨ret_int Hs.out.symm, below_drewN (Below.refl _ _) _⟩
    · have h1 : 0 ≤ far := by omega
      have h2 : far ≤ 50 := by omega
      clear hf
      have Hs := Lib.hid (mapart_yes hv (vfar_yes h1 h2))
      have Hl := vh_len hv
      rw [Hn.out] at Hl
      go_enter Try.func50, Try.ntmps50
      go_wp2_with fail
      refine (sValid_any A c n zs w B hr Hn.out (by omega)).mono ?_
      rintro e w' ⟨rfl, q, rfl⟩
      have Hv := Lib.hid hv
      go_wp2_with (first
        | (go_at_call 68; refine (inRange_yes _ _ _ _ h1 h2).mono ?_; rintro e w' ⟨rfl, rfl⟩))
      clear hv
      have hown0 : ((w.drewN q).alloc (.cells #[] 3)).ownsRow w.heap.size 3 1 (.slice (some ⟨w.heap.size, 0, none⟩) 0 0) 0 [] :=
        World.ownsRow_lit (w.drewN q) #[] 0 (Nat.le_refl _) (by decide) rfl
      have hnx0 : Below w.heap.size w ((w.drewN q).alloc (.cells #[] 3)) := (below_drewN (Below.refl _ _) _).alloc (Nat.le_refl _) _
      have Hown0 := Lib.hid hown0
      clear hown0
      go_loopw [5, 6, 7] (fun v m i wr => ∃ k : Nat, k ≤ n ∧ i = .int .i64 k ∧ m = .int .i64 (topp far zs k) ∧ wr.ownsRow w.heap.size 3 1 v k ((bests far zs k).map (Value.int .i64)) ∧ Below w.heap.size w wr)
        (fun _ _ i _ => n - (intOf i).toNat)
      case atStart => exact ⟨0, Nat.zero_le _, rfl, rfl, Hown0.out, hnx0⟩
      case round =>
        clear hnx0 Hown0
        obtain ⟨k, hk, rfl, rfl, hown, hnx⟩ := hrel
        obtain ⟨wo, rfl⟩ : ∃ wo : World, wo = wr := ⟨_, rfl⟩
        have htb := topp_bd (far := far) (zs := zs) k
        by_cases hlt : k < n
        · obtain ⟨b, off, x, rfl, hbw, Hx, hc⟩ := (hr.below (hnx.mono hB)).x (k := k) (by rw [Hn.out]; exact hlt)
          obtain ⟨hx1, hx2⟩ := vh_get Hv.out (by rw [Hn.out]; exact hlt) Hx.out
          have Hl2 := Lib.hid (bests_length far zs k)
          have Hown := Lib.hid hown
          clear hown
          go_wp2
          go_loopw [8, 9] (fun t i wr => ∃ j : Nat, ∃ q : Nat, j ≤ k ∧ i = .int .i64 j ∧ t = .int .i64 (inn far x zs (bests far zs k) j) ∧ wr = wo.drewN q)
            (fun _ i _ => k - (intOf i).toNat)
          case atStart => exact ⟨0, 0, Nat.zero_le _, rfl, rfl, rfl⟩
          case round =>
            obtain ⟨j, q1, hj, rfl, rfl, rfl⟩ := hrel
            have hbd := inn_bd (far := far) (x := x) (zs := zs) (bs := bests far zs k) (j := j) (fun i hi => (bests_bd i (by omega)).2)
            obtain ⟨t, Ht⟩ : ∃ t, Hid (inn far x zs (bests far zs k) j = t) := ⟨_, rfl⟩
            rw [Ht.out] at hbd
            rw [Ht.out]
            by_cases hjk : j < k
            · obtain ⟨b', off', y, he, _, Hy, hcy⟩ := (hr.below (hnx.mono hB)).x (k := j) (by rw [Hn.out]; omega)
              injection he with he
              injection he with he1 he2
              subst he1 he2
              obtain ⟨hy1, hy2⟩ := vh_get Hv.out (by rw [Hn.out]; omega) Hy.out
              have hbj := bests_bd (far := far) (zs := zs) j hjk
              obtain ⟨g, cap, rfl, hg1, hg2⟩ := Hown.out.form (by omega)
              have hcj := Hown.out.cellAt j (by omega)
              rw [List.getElem?_map, List.getElem?_eq_getElem (by rw [Hl2.out]; exact hjk)] at hcj
              obtain ⟨v, Hv2⟩ : ∃ v, Hid ((bests far zs k).getD j 0 = v) := ⟨_, rfl⟩
              have hgv : (bests far zs k)[j]'(by rw [Hl2.out]; exact hjk) = v := by
                rw [← Hv2.out]; simp [List.getD, List.getElem?_eq_getElem (show j < (bests far zs k).length by rw [Hl2.out]; exact hjk)]
              rw [hgv] at hcj
              clear hgv
              rw [Hv2.out] at hbj
              simp only [Option.map_some] at hcj
              by_cases hxy : 2 * far < x - y
              · have Hi := Lib.hid (inn_yes Hy.out Hv2.out Ht.out hxy)
                go_wp2
                go_quiet (fail)
                go_wp2
                go_roundw
                case rel => exact ⟨j + 1, _, by omega, by go_num, by rw [Hi.out, if_max], rfl⟩
                case measure => simp [intOf]; omega
              · have Hi := Lib.hid (inn_no Hy.out Ht.out hxy)
                go_wp2
                go_quiet (fail)
                go_wp2
                go_roundw
                case rel => exact ⟨j + 1, _, by omega, by go_num, by rw [Hi.out], rfl⟩
                case measure => simp [intOf]; omega
            · obtain rfl : j = k := by omega
              have htp : topp far zs (j + 1) = max (topp far zs j) t := by rw [← Ht.out, ← Hx.out]; rfl
              have Htp := Lib.hid htp
              clear htp
              have hsz : w.heap.size ≤ wo.heap.size := hnx.size
              go_wp2_with (at_builtin; refine wpList_append_own _ rfl _ _ 37 rfl w.heap.size 3 i0 (.int .i64 0) 1 8 Try.underlying37 hi0 hz0 hz1 hz2 rfl (by decide) _ _ _ rfl (Hown.out.alloc _) ⟨wo.heap.size, 0, none⟩ 1 1 [.int .i64 t] rfl rfl ?c1 ?c2 ?c3 ?c4 ?c5 ?_)
              case c1 => exact cell_one_new _ _ _
              case c2 => intro u hu; simp at hu; subst hu; rfl
              case c3 => unfold maxLen; omega
              case c4 => omega
              case c5 => simp; omega
              intro v' w1 hown' hgrow _
              go_wp2
              go_roundw
              case rel => exact ⟨j + 1, by omega, by go_num, by rw [Htp.out, if_max], by rw [best_next Hx.out, Ht.out]; exact hown', (below_alloc_drewN hnx hsz q1 _).grown hgrow (by simp; omega) (fun g hg => (Hown.out.lt g hg).1)⟩
              case measure => simp [intOf]; omega
        · obtain rfl : k = n := by omega
          go_wp2
          go_ret
          exact ⟨ret_int (by rw [Hs.out, Hn.out]), hnx⟩
  · have hv' : vh zs = false := by simpa using hv
    clear hv
    have Hs := Lib.hid (mapart_no (far := far) hv')
    go_enter Try.func50, Try.ntmps50
    go_wp2_with fail
    refine (sValid_any A c n zs w B hr Hn.out (by omega)).mono ?_
    rintro e w' ⟨rfl, q, rfl⟩
    go_wp2
    go_ret
    exact ⟨ret_int Hs.out.symm, below_drewN (Below.refl _ _) _⟩

theorem iMost_b (A : Option Addr) (c n : Nat) (zs : List Int) (far : Int) (w : World) (B : Nat) (hr : RdI w B A zs) (hn : zs.length = n) (hb : n ≤ 1048576) (hB : B ≤ w.heap.size) (hcap : n ≤ c) (hc63 : c ≤ 9223372036854775807) :
    Calls Try.prog 49 #[.slice A n c, .int .i64 far] w fun e w' => e = .returned (.int .i64 (mapart zs far)) ∧ Below w.heap.size w w' := iMost_any A c n zs far w B hr hB hn hcap hc63 hb
theorem sMost_b (A : Option Addr) (c n : Nat) (zs : List Int) (far : Int) (w : World) (B : Nat) (hr : RdI w B A zs) (hn : zs.length = n) (hb : n ≤ 1048576) (hB : B ≤ w.heap.size) (hcap : n ≤ c) (hc63 : c ≤ 9223372036854775807) :
    Calls Try.prog 50 #[.slice A n c, .int .i64 far] w fun e w' => e = .returned (.int .i64 (mapart zs far)) ∧ Below w.heap.size w w' := sMost_any A c n zs far w B hr hB hn hb
end Go.Proofs.Ytdhelapgdgekfaa
namespace Go.Proofs.Ytdhelapgdgekfaa
open Go.ChangeShapes Go.WideShapes Go.ChangeAt Go.RowKit
set_option linter.unusedVariables false
set_option maxRecDepth 4000

def HomesPost (B R k : Nat) (w : World) (e : Ending) (w' : World) : Prop :=
  ∃ v, ∃ xs : List Int, e = .returned v ∧ xs.length ≤ 10 ∧ (∀ x ∈ xs, -1 ≤ x ∧ x ≤ 51) ∧ w'.ownsRow w.heap.size 3 1 v xs.length (xs.map (Value.int .i64)) ∧ GR w' B R (k + 40) ∧ w.grownBy w' (some R)

def HomesRel (B R k : Nat) (w : World) (v a i : Value) (wr : World) : Prop :=
  ∃ xs : List Int, ∃ at' m : Int, ∃ q : Nat, i = .int .i64 m ∧ a = .int .i64 at' ∧ 0 ≤ at' ∧ at' ≤ 50 ∧ -10 ≤ m ∧ (xs.length : Int) + m ≤ 10 ∧ xs.length ≤ 10 ∧ (q : Int) + m ≤ k + 13 ∧ q ≤ k + 20 ∧ (∀ x ∈ xs, -1 ≤ x ∧ x ≤ 51) ∧
    wr.ownsRow w.heap.size 3 1 v xs.length (xs.map (Value.int .i64)) ∧ GR wr B R q ∧ w.grownBy wr (some R)

set_option maxHeartbeats 800000 in
theorem someHomes_any (R B k : Nat) (most : Int) (w : World) (hg : GR w B R k) (hk : k ≤ 90000) (hm0 : 0 ≤ most) (hm1 : most ≤ 10) :
    Calls Try.prog 93 #[.pointer (some ⟨R, 0, none⟩), .int .i64 most] w (HomesPost B R k w) := by
  obtain ⟨i0, hi0, hz0, hz1, hz2⟩ := info_parts intInfo
  have hRlt := hg.lt
  go_enter Try.func93, Try.ntmps93
  go_wp2_with fail
  have hga : GR (w.alloc (.cells #[] 3)) B R k := hg.kept (row := none) (World.grownBy_alloc _ _ _) (fun g h => by cases h)
  have hgba : w.grownBy (w.alloc (.cells #[] 3)) (some R) := World.grownBy_alloc _ _ _
  have hown0 : (w.alloc (.cells #[] 3)).ownsRow w.heap.size 3 1 (.slice (some ⟨w.heap.size, 0, none⟩) 0 0) 0 [] :=
    World.ownsRow_lit w #[] 0 (Nat.le_refl _) (by decide) rfl
  refine (pick_any R B k 6 _ hga (by omega) (by omega) (by omega)).mono ?_
  rintro e w1 ⟨a, rfl, ha0, ha1, -, hg1, hgr1⟩
  have ha2 := ha1 (by omega)
  clear ha1
  have hgb1 := gb_trans hgba hgr1 (.inl rfl)
  have hown1 := hown0.kept hgr1 (.inr (by simp [Value.ownBlock]; omega))
  have Hown1 := Lib.hid hown1
  clear hown1 hown0 hgba hga hgr1
  go_wp2_with fail
  refine (oneLit R B (k + 1) [5, 4, 6, 3, 7, 2, 10, 1, 0] 9 0 10 w1 _ hg1 (by omega) rfl (by omega) (by omega) rfl (by decide)).mono ?_
  rintro e w2 ⟨m, rfl, hm2, hm3, hg2, hgr2⟩
  have hgb2 := gb_trans hgb1 hgr2 (.inl rfl)
  have hown2 := Hown1.out.kept hgr2 (.inr (by simp [Value.ownBlock]; omega))
  have Hown2 := Lib.hid hown2
  clear hown2 hgr2 Hown1 hgb1 hg1
  go_upto_block 0 with fail
  have hM0 : 0 ≤ (if most < m then most else m) ∧ (if most < m then most else m) ≤ 10 := by split <;> omega
  generalize (if most < m then most else m) = M at hM0 ⊢
  go_wp2_with fail
  go_loopw [5, 6, 7] (fun v a i wr => HomesRel B R k w v a i wr) (fun _ _ i _ => (intOf i).toNat)
  case atStart => exact ⟨[], a, M, _, rfl, rfl, ha0, by omega, by omega, by simp; omega, by simp, by omega, by omega, by simp, Hown2.out, hg2, hgb2⟩
  case round =>
    clear hg2 Hown2 hgb2
    obtain ⟨xs, at', m', q, rfl, rfl, hat0, hat1, hm'0, hlm, hl10, hq1, hq2, Hxs, hown, hgr, hgb⟩ := hrel
    have Hxs' := Lib.hid Hxs
    clear Hxs
    have hws := hgb.size
    by_cases hpos : 0 < m'
    · go_wp2_with (at_builtin; refine wpList_append_own _ rfl _ _ 37 rfl w.heap.size 3 i0 (.int .i64 0) 1 8 Try.underlying37 hi0 hz0 hz1 hz2 rfl (by decide) _ _ _ rfl (hown.alloc _) ⟨wr.heap.size, 0, none⟩ 1 1 [.int .i64 at'] rfl rfl ?c1 ?c2 ?c3 ?c4 ?c5 ?_)
      case c1 => exact cell_one_new _ _ _
      case c2 => intro u hu; simp at hu; subst hu; rfl
      case c3 => unfold maxLen; omega
      case c4 => omega
      case c5 => simp; omega
      intro v' w3 hown' hgrow _
      have hgr3 : GR w3 B R q := (hgr.kept (row := none) (World.grownBy_alloc _ _ _) (fun g h => by cases h)).kept hgrow (fun g h => by have := (hown.lt g h).1; omega)
      have hgb3 : w.grownBy w3 (some R) := gb_trans (gb_trans hgb (World.grownBy_alloc wr _ none) (.inr (fun g h => by cases h))) hgrow (.inr (fun g h => (hown.lt g h).1))
      have hwo := hown'.lt
      have Hwo := Lib.hid hwo
      have Hown' := Lib.hid hown'
      clear hown' hgrow hown hgr hgb hws hwo
      go_wp2_with fail
      refine (oneLit R B q [1, 2, 3, 0, 5, 9, 12] 7 0 12 w3 _ hgr3 (by omega) rfl (by omega) (by omega) rfl (by decide)).mono ?_
      rintro e w4 ⟨d, rfl, hd0, hd1, hgr4, hgw4⟩
      have hgb4 := gb_trans hgb3 hgw4 (.inl rfl)
      have hown4 := Hown'.out.kept hgw4 (.inr (fun e => by have := (Hwo.out R e).1; omega))
      have Hown4 := Lib.hid hown4
      clear hown4 Hown' hgw4 hgb3 hgr3
      have Hxs2 : Hid (∀ x ∈ xs ++ [at'], -1 ≤ x ∧ x ≤ 51) := fun x hx => by
        rcases List.mem_append.1 hx with h | h
        · exact Hxs'.out x h
        · simp at h; omega
      go_wp2
      all_goals
        go_roundw
        case rel => exact ⟨xs ++ [at'], _, m' - 1, q + 1, rfl, rfl, by omega, by omega, by omega, by simp; omega, by simp; omega, by omega, by omega, Hxs2.out, by simpa using Hown4.out, hgr4, hgb4⟩
        case measure => simp [intOf]; omega
    · obtain ⟨A, c, rfl, hc1, hc2, hrd⟩ := own_slice hown rfl
      obtain ⟨n, Hn⟩ : ∃ n, Hid (xs.length = n) := ⟨_, rfl⟩
      have hgm : GR wr B R (k + 40) := hgr.more (by omega)
      have hwo := hown.lt
      have Hwo := Lib.hid hwo
      have Hown := Lib.hid hown
      clear hown hwo
      by_cases hx0 : xs.length = 0
      · have hx0' : ¬ (0 : Int) < ((xs.length : Nat) : Int) := by omega
        have Hx0 := Lib.hid hx0
        clear hx0
        go_wp2
        go_ret
        exact ⟨_, xs, rfl, hl10, Hxs'.out, Hown.out, hgm, hgb⟩
      · have hx1 : (0 : Int) < ((xs.length : Nat) : Int) := by omega
        have hx2 : 0 < xs.length := by omega
        clear hx0
        go_wp2_with fail
        refine (pick_any R B q 40 wr hgr (by omega) (by omega) (by omega)).mono ?_
        rintro e w5 ⟨v, rfl, hv0, hv1, -, hgr5, hgw5⟩
        have hgb5 := gb_trans hgb hgw5 (.inl rfl)
        have hown5 := Hown.out.kept hgw5 (.inr (fun e => by have := (Hwo.out R e).1; omega))
        have Hown5 := Lib.hid hown5
        clear hown5 hv1 hgw5 Hown
        by_cases hv : v = 0
        · subst hv
          go_wp2_with fail
          refine (pick_any R B (q + 1) xs.length w5 hgr5 (by omega) (by omega) (by omega)).mono ?_
          rintro e w6 ⟨i, rfl, hi0, hi1, -, hgr6, hgw6⟩
          have hgb6 := gb_trans hgb5 hgw6 (.inl rfl)
          have hown6 := Hown5.out.kept hgw6 (.inr (fun e => by have := (Hwo.out R e).1; omega))
          have Hown6 := Lib.hid hown6
          clear hown6 hgw6 Hown5 hgb5
          obtain ⟨i, rfl⟩ := Int.eq_ofNat_of_zero_le hi0
          have hil : i < xs.length := by have := hi1 (by omega); omega
          clear hi1
          go_wp2_with fail
          refine (oneLit R B (q + 1 + 1) [-1, 51, 0] 3 (-1) 51 w6 _ hgr6 (by omega) rfl (by omega) (by omega) rfl (by decide)).mono ?_
          rintro e w7 ⟨d, rfl, hd0, hd1, hgr7, hgw7⟩
          have hgb7 := gb_trans hgb6 hgw7 (.inl rfl)
          have hown7 := Hown6.out.kept hgw7 (.inr (fun e => by have := (Hwo.out R e).1; omega))
          obtain ⟨g, cap, he, hg1, hg2⟩ := hown7.form hx2
          injection he with he1 he2 he3
          subst he1 he3
          obtain ⟨v7, hv7⟩ : ∃ v7, w7.cell? ⟨g, i, none⟩ = some v7 := by
            rw [hown7.cellAt i (by omega)]
            exact ⟨_, List.getElem?_eq_getElem (by simpa using hil)⟩
          have hf7 := hown7.frozenAt i
          have hst := (hown7.stored i (.int .i64 d)).1
          have hgs := (hown7.stored i (.int .i64 d)).2
          have hgb8 := gb_trans hgb7 hgs (.inr (fun g' h' => by cases h'; exact hg1))
          have hgr8 := hgr7.kept hgs (fun g' h' => by cases h'; omega)
          have Hst := Lib.hid hst
          have Hgb8 := Lib.hid hgb8
          have Hgr8 := Lib.hid hgr8
          have Hxs2 : Hid (∀ x ∈ xs.set i d, -1 ≤ x ∧ x ≤ 51) := fun x hx => by
            rcases List.mem_or_eq_of_mem_set hx with h | h
            · exact Hxs'.out x h
            · omega
          clear hst hgb8 hgr8 hown7 hgb7 hgb6 hgw7 hgs Hown6
          go_wp2
          go_ret
          exact ⟨_, xs.set i d, rfl, by rw [List.length_set]; exact hl10, Hxs2.out, by rw [List.length_set, List.map_set]; exact Hst.out, Hgr8.out.more (by omega), Hgb8.out⟩
        · have hvb : (v == 0) = false := by rw [beq_eq_false_iff_ne]; exact hv
          clear hv
          go_wp2
          go_ret
          exact ⟨_, xs, rfl, hl10, Hxs'.out, Hown5.out, hgr5.more (by omega), hgb5⟩

end Go.Proofs.Ytdhelapgdgekfaa
namespace Go.Proofs.Ytdhelapgdgekfaa
open Go.ChangeShapes Go.WideShapes Go.ChangeAt Go.RowKit
set_option linter.unusedVariables false

def DrawnList (w : World) (e : Ending) (w' : World) : Prop :=
  ∃ A c, ∃ xs : List Int, e = .returned (.slice A xs.length c) ∧ xs.length ≤ 10 ∧ xs.length ≤ c ∧ c ≤ 9223372036854775807 ∧ RdI w' w'.heap.size A xs ∧ Below w.heap.size w w'
def DrawnTwo (w : World) (e : Ending) (w' : World) : Prop :=
  ∃ A c, ∃ xs : List Int, ∃ k : Int, e = .returned (.tuple #[.slice A xs.length c, .int .i64 k]) ∧ -1 ≤ k ∧ k ≤ 51 ∧ xs.length ≤ 10 ∧ xs.length ≤ c ∧ c ≤ 9223372036854775807 ∧ RdI w' w'.heap.size A xs ∧ Below w.heap.size w w'

theorem drawMostApart_any (A : Option Addr) (c n : Nat) (bs : List Int) (w : World) (hr : RdB w w.heap.size A bs) (hn : bs.length = n) (hc : n ≤ c) (hm : c ≤ 9223372036854775807) :
    Calls Try.prog 48 #[.slice A n c] w (DrawnTwo w) := by
  have H := Lib.hid (newReader_any A c n bs w hr hn hc hm)
  clear hn
  go_enter Try.func48, Try.ntmps48
  go_wp2_with fail
  refine H.out.mono ?_
  rintro e w1 ⟨rfl, hg1, hnx1⟩
  go_wp2_with fail
  refine (someHomes_any w.heap.size w.heap.size 0 10 w1 hg1 (by omega) (by omega) (by omega)).mono ?_
  rintro e w2 ⟨v, xs, rfl, hl, hx, hown, hg2, hgb2⟩
  have hwo := hown.lt
  have Hwo := Lib.hid hwo
  have Hown := Lib.hid hown
  clear hwo hown
  go_wp2_with fail
  refine (aFar_any w.heap.size w.heap.size (0 + 40) w2 hg2 (by omega)).mono ?_
  rintro e w3 ⟨k, rfl, hk1, hk2, hg3, hgb3⟩
  have hown3 := Hown.out.kept hgb3 (.inr (fun e => by have := (Hwo.out _ e).1; have := hg1.lt; omega))
  obtain ⟨A', c', rfl, hc1, hc2, hrd⟩ := own_slice hown3 rfl
  go_wp2
  go_ret2
  exact ⟨A', c', xs, k, rfl, by omega, by omega, hl, hc1, hc2, hrd, hnx1.trans (gb_below (gb_trans hgb2 hgb3 (.inl rfl)) (Nat.le_refl _) hnx1.size)⟩
end Go.Proofs.Ytdhelapgdgekfaa
namespace Go.Proofs.Ytdhelapgdgekfaa
open Go.ChangeShapes Go.WideShapes Go.ChangeAt Go.RowKit
set_option linter.unusedVariables false
set_option maxRecDepth 4000

theorem mapart_bd (zs : List Int) (far : Int) (hl : zs.length ≤ 10) : -1 ≤ mapart zs far ∧ mapart zs far ≤ 10 := by
  have := topp_bd (far := far) (zs := zs) zs.length
  unfold mapart
  split <;> omega
theorem mapart_is {zs : List Int} {far : Int} (h : 1 ≤ mapart zs far) : vh zs = true ∧ 0 ≤ far ∧ far ≤ 50 ∧ 1 ≤ zs.length ∧ mapart zs far = topp far zs zs.length := by
  by_cases hv : vh zs = true ∧ vfar far = true
  · have e := mapart_yes hv.1 hv.2
    have hb := topp_bd (far := far) (zs := zs) zs.length
    have hf := hv.2
    simp only [vfar, Bool.and_eq_true, decide_eq_true_eq] at hf
    refine ⟨hv.1, hf.1, hf.2, ?_, e⟩
    rw [e] at h
    omega
  · unfold mapart at h
    rw [if_neg hv] at h
    omega
theorem line_apv {zs : List Int} {ts : List (Int × Int)} {last far : Int} (h : LineT zs zs.length ts last) (h7 : diffc zs zs.length ≤ 7) (ho : 1 ≤ mapart zs far) : mapart zs far ≤ apv ts far := by
  obtain ⟨hv, h0, h50, hl, e⟩ := mapart_is ho
  rw [e]
  unfold apv
  rw [if_pos ⟨lineT_vt h h7, h0, h50⟩]
  exact line_pk h h7 h0
theorem bc_most7 : ∀ f s, bc f s ≤ f
  | 0, _ => Nat.le_refl _
  | f + 1, s => by have := bc_most7 f (s / 2); simp only [bc]; omega
theorem apv_bd {ts : List (Int × Int)} {far : Int} (hl : ts.length ≤ 7) : -1 ≤ apv ts far ∧ apv ts far ≤ 7 := by
  unfold apv
  split
  · have : pkB (dn ts ts.length) far ts.length (2 ^ ts.length) ≤ 7 := pkB_le _ fun s hs _ => by
      exact bc_most7 7 s
    omega
  · omega

/-- The law's loop. -/
def LineRel (B : Nat) (w : World) (zs : List Int) (v l i : Value) (wr : World) : Prop :=
  ∃ k : Nat, ∃ ts : List (Int × Int), ∃ last : Int, 1 ≤ k ∧ k ≤ zs.length ∧ i = .int .i64 k ∧ l = .int .i64 last ∧ Hid (LineT zs k ts last) ∧ wr.ownsRow B 42 2 v ts.length ((flat ts).map (Value.int .i64)) ∧ Below B w wr

set_option maxHeartbeats 1600000 in
theorem lawLinesAreTrees_walk (A : Option Addr) (c : Nat) (bs : List Int) (w : World) (hr : RdB w w.heap.size A bs) (hcap : bs.length ≤ c) (hm : c ≤ maxLen) :
    Calls Try.prog 14 #[.slice A bs.length c] w fun e w' => e = .returned (.bool true) ∧ Below w.heap.size w w' := by
  unfold maxLen at hm
  obtain ⟨i0, hi0, hz0, hz1, hz2⟩ := info_parts roadInfo
  by_cases hb : 1048576 < bs.length
  · go_enter Try.func14, Try.ntmps14
    go_wp2
    go_ret
    exact ⟨rfl, Below.refl _ _⟩
  · have H := Lib.hid (drawMostApart_any A c bs.length bs w hr rfl hcap hm)
    go_enter Try.func14, Try.ntmps14
    go_wp2_with fail
    refine H.out.mono ?_
    rintro e w1 ⟨A', c', xs, far, rfl, hk1, hk2, hl, hc1, hc2, hrd, hnx⟩
    clear H
    go_wp2_with fail
    refine (iMost_any A' c' xs.length xs far w1 _ hrd (Nat.le_refl _) rfl hc1 hc2 (by omega)).mono ?_
    rintro e w2 ⟨rfl, hq2⟩
    obtain ⟨o, Ho⟩ : ∃ o, Hid (mapart xs far = o) := ⟨_, rfl⟩
    have hob := mapart_bd xs far hl
    rw [Ho.out] at hob
    rw [Ho.out]
    have hnx2 := hnx.trans (hq2.mono hnx.size)
    have hrd2 := (hrd.below hq2).more hq2.size
    clear hq2 hnx hrd
    go_wp2_with fail
    refine (sMost_any A' c' xs.length xs far w2 _ hrd2 (Nat.le_refl _) rfl (by omega)).mono ?_
    rintro e w3 ⟨rfl, hq3⟩
    rw [Ho.out]
    have hnx3 := hnx2.trans (hq3.mono hnx2.size)
    have hrd3 := (hrd2.below hq3).more hq3.size
    clear hq3 hnx2 hrd2
    go_wp2_with fail
    refine (iMost_any A' c' xs.length xs far w3 _ hrd3 (Nat.le_refl _) rfl hc1 hc2 (by omega)).mono ?_
    rintro e w4 ⟨rfl, hq4⟩
    rw [Ho.out]
    have hnx4 := hnx3.trans (hq4.mono hnx3.size)
    have hrd4 := (hrd3.below hq4).more hq4.size
    clear hq4 hnx3 hrd3
    by_cases ho : o < 1
    · go_wp2
      go_ret
      exact ⟨rfl, hnx4⟩
    · obtain ⟨hv, hf0, hf1, hl1, -⟩ := mapart_is (zs := xs) (far := far) (by rw [Ho.out]; omega)
      have Hok := Lib.hid (vh_ok hv)
      have Hvh := Lib.hid hv
      clear hv
      obtain ⟨D, HD⟩ : ∃ D, Hid (diffc xs xs.length = D) := ⟨_, rfl⟩
      have hDb := diffc_bd xs xs.length
      rw [HD.out] at hDb
      go_wp2_with fail
      refine (different_any A' c' xs.length xs w4 _ hrd4 rfl hc1 hc2 (by omega)).mono ?_
      rintro e w' ⟨rfl, q, rfl⟩
      rw [HD.out]
      by_cases h7 : 7 < D
      · go_wp2
        go_ret
        exact ⟨rfl, below_drewN hnx4 _⟩
      · obtain ⟨b, off, x0, rfl, hbw, Hx0, hx0⟩ := hrd4.x (k := 0) (by omega)
        rw [Nat.add_zero] at hx0
        have hown0 : ((w4.drewN q).alloc (.cells #[.int .i64 (-1), .int .i64 0] 42)).ownsRow w4.heap.size 42 2 (.slice (some ⟨w4.heap.size, 0, none⟩) 1 1) 1 [.int .i64 (-1), .int .i64 0] :=
          World.ownsRow_lit (w4.drewN q) #[.int .i64 (-1), .int .i64 0] 1 (Nat.le_refl _) (by decide) rfl
        have hnx0 : Below w4.heap.size w4 ((w4.drewN q).alloc (.cells #[.int .i64 (-1), .int .i64 0] 42)) := (below_drewN (Below.refl _ _) _).alloc (Nat.le_refl _) _
        have hx0' : ((w4.drewN q).alloc (.cells #[.int .i64 (-1), .int .i64 0] 42)).cell? ⟨b, off, none⟩ = some (.int .i64 x0) := by
          rw [hnx0.cell hbw]; exact hx0
        have Hown0 := Lib.hid hown0
        clear hown0
        go_wp2
        go_loopw [6, 7, 8] (fun v l i wr => LineRel w4.heap.size w4 xs v l i wr) (fun _ _ i _ => xs.length - (intOf i).toNat)
        case atStart => exact ⟨1, [(-1, 0)], x0, Nat.le_refl _, by omega, rfl, rfl, by rw [← Hx0.out]; exact lineT_start, Hown0.out, hnx0⟩
        case round =>
          clear hnx0 Hown0 hx0 hx0'
          obtain ⟨k, ts, last, hk1', hk, rfl, rfl, HL, hown, hbl⟩ := hrel
          have hlast := lineT_last HL.out
          obtain ⟨hla1, hla2⟩ := vh_get Hvh.out (k := k - 1) (by omega) hlast.symm
          obtain ⟨hln1, hln2⟩ := lineT_len HL.out
          have hln3 := diffc_bd xs k
          have hln4 : ts.length ≤ 10 := by omega
          clear hln2 hln3
          have Hown := Lib.hid hown
          obtain ⟨At, ct, rfl, hct1, hct2, hrt⟩ := rdR_own hown rfl
          have Hrt := Lib.hid hrt
          clear hown hrt
          have hsz := hbl.size
          by_cases hlt : k < xs.length
          · obtain ⟨b', off', x, he, _, Hx, hcx⟩ := (hrd4.below hbl).x (k := k) hlt
            injection he with he
            injection he with he1 he2
            subst he1 he2
            obtain ⟨hx1, hx2⟩ := vh_get Hvh.out hlt Hx.out
            have hge : last ≤ x := by
              obtain ⟨j, rfl⟩ : ∃ j, k = j + 1 := ⟨k - 1, by omega⟩
              have := ok_step Hok.out hlt
              rw [hlast, ← Hx.out]; exact this
            clear hlast
            by_cases h9 : 9 < x - last
            · go_wp2
              go_ret
              exact ⟨rfl, hnx4.trans (hbl.mono hnx4.size)⟩
            · by_cases hup : last < x
              · have HL' := Lib.hid (lineT_next HL.out hk1' hlt Hx.out hup (by omega))
                clear HL Hrt
                have hl0 : 0 ≤ ((ts.length : Nat) : Int) - 1 := by omega
                have Hn7 : Hid (ts.length + 1 ≤ 12) := by show ts.length + 1 ≤ 12; omega
                go_wp2_with (at_builtin; refine wpList_append_own _ rfl _ _ 23 rfl w4.heap.size 42 i0 _ 2 16 Try.underlying23 hi0 hz0 hz1 hz2 rfl (by decide) _ _ _ rfl (Hown.out.alloc _) ⟨wr.heap.size, 0, none⟩ 1 1 [.int .i64 ((ts.length : Int) - 1), .int .i64 (x - last)] rfl rfl ?c1 ?c2 ?c3 ?c4 ?c5 ?_)
                case c2 => exact ⟨rfl, rfl⟩
                case c3 => have := Hn7.out; unfold maxLen; omega
                case c4 => have := Hn7.out; omega
                case c5 => omega
                intro v' w5 hown' hgrow _
                have hbl5 : Below w4.heap.size w4 w5 := (hbl.alloc hsz _).grown hgrow (by rw [size_alloc1]; omega) (fun g hg => (Hown.out.lt g hg).1)
                have hcx5 : w5.cell? ⟨b, off + k, none⟩ = some (.int .i64 x) := by
                  rw [hbl5.cell hbw, ← hbl.cell hbw]; exact hcx
                have Hown' := Lib.hid hown'
                clear hown' hgrow Hown
                go_wp2
                go_roundw
                case rel => exact ⟨k + 1, ts ++ [((ts.length : Int) - 1, x - last)], x, by omega, by omega, by go_num, rfl, HL', by simpa [flat_append, flat] using Hown'.out, hbl5⟩
                case measure => simp [intOf]; omega
              · have HL' := Lib.hid (lineT_same HL.out hk1' hlt Hx.out hge hup)
                clear HL Hrt
                go_wp2
                go_roundw
                case rel => exact ⟨k + 1, ts, last, by omega, by omega, by go_num, rfl, HL', Hown.out, hbl⟩
                case measure => simp [intOf]; omega
          · obtain rfl : k = xs.length := by omega
            have hap := line_apv (far := far) HL.out (by rw [HD.out]; omega) (by rw [Ho.out]; omega)
            have hab := apv_bd (ts := ts) (far := far) (by have := (lineT_len HL.out).2; rw [HD.out] at this; omega)
            rw [Ho.out] at hap
            obtain ⟨p, Hp⟩ : ∃ p, Hid (apv ts far = p) := ⟨_, rfl⟩
            rw [Hp.out] at hap hab
            clear Hown
            go_wp2_with fail
            refine (iTreeApart_any At ct ts.length ts far wr Hrt.out rfl hct1 (by omega)).mono ?_
            rintro e w6 ⟨rfl, hbl6⟩
            rw [Hp.out]
            have h06 := hnx4.trans ((hbl.trans (hbl6.mono hsz)).mono hnx4.size)
            go_wp2
            go_ret
            exact ⟨rfl, h06⟩
end Go.Proofs.Ytdhelapgdgekfaa
