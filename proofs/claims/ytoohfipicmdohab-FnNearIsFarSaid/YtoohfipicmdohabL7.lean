/-
  MostApart: the program fills the table and answers its greatest number.
  Conditions: fewer than 2^20 numbers.
-/
import Derived.Test.YtoohfipicmdohabM1
import Derived.Test.YtoohfipicmdohabE0
namespace Go.Proofs.Ytoohfipicmdohab
open Go.ChangeShapes Go.WideShapes Go.ChangeAt Go.RowKit
set_option linter.unusedVariables false

theorem if_max (a b : Int) : (if a < b then b else a) = max a b := by split <;> omega
theorem most_store {w : World} {B b n cap m k : Nat} {pre : List Int} {t u : Int} (hl : pre.length = k) (h : w.ownsRow B 3 1 (.slice (some ⟨b, 0, none⟩) n cap) n (rowc pre t m)) :
    (w.setCell ⟨b, k, none⟩ (.int .i64 (if t < u then u else t))).drew.ownsRow B 3 1 (.slice (some ⟨b, 0, none⟩) n cap) n (rowc pre (max t u) m) := by
  have h2 := (h.stored k (.int .i64 (if t < u then u else t))).1
  rw [if_max] at h2 ⊢
  rw [← rowc_set pre t, hl]
  exact h2
theorem rowc_done {far x : Int} {zs : List Int} {j n : Nat} (hx : zs.getD j 0 = x) :
    (bests far zs (j + 1) ++ List.replicate (n - (j + 1)) 0).map (Value.int .i64) = rowc (bests far zs j) (inn far x zs (bests far zs j) j) (n - (j + 1)) := by
  simp [rowc, bests, ← hx]

set_option maxHeartbeats 800000 in
theorem iMost_any (A : Option Addr) (c n : Nat) (zs : List Int) (far : Int) (w : World) (B : Nat) (hr : RdI w B A zs) (hB : B ≤ w.heap.size) (hn : zs.length = n) (hcap : n ≤ c) (hc63 : c ≤ 9223372036854775807) (hb : n ≤ 1048576) :
    Calls Try.prog 25 #[.slice A n c, .int .i64 far] w fun e w' => e = .returned (.int .i64 (mapart zs far)) ∧ Below w.heap.size w w' := by
  obtain ⟨i0, hi0, hz0, hz1, hz2⟩ := info_parts intInfo
  have Hn := Lib.hid hn
  clear hn
  by_cases hv : vh zs = true
  · by_cases hf : far < 0 ∨ 50 < far
    · have Hs := Lib.hid (mapart_no' (zs := zs) (vfar_no hf))
      go_enter Try.func25, Try.ntmps25
      go_wp2_with fail
      refine (iValid_any A c n zs w B hr Hn.out (by omega)).mono ?_
      rintro e w' ⟨rfl, rfl⟩
      go_wp2_with (go_at_call 50; refine (validFar_no _ _ hf).mono ?_; rintro e w' ⟨rfl, rfl⟩)
      go_ret
      exact ⟨ret_int Hs.out.symm, Below.refl _ _⟩
    · have h1 : 0 ≤ far := by omega
      have h2 : far ≤ 50 := by omega
      clear hf
      have Hs := Lib.hid (mapart_yes hv (vfar_yes h1 h2))
      have Hl := vh_len hv
      rw [Hn.out] at Hl
      go_enter Try.func25, Try.ntmps25
      go_wp2_with fail
      refine (iValid_any A c n zs w B hr Hn.out (by omega)).mono ?_
      rintro e w' ⟨rfl, rfl⟩
      have Hv := Lib.hid hv
      go_wp2_with (first
        | (go_at_call 50; refine (validFar_yes _ _ h1 h2).mono ?_; rintro e w' ⟨rfl, rfl⟩)
        | (at_make; refine wpList_make_full _ rfl _ _ 23 rfl w.heap.size 3 i0 _ 1 Try.underlying23 hi0 hz0 hz1 _ _ _ _ n rfl rfl rfl rfl (by rw [hz2]; omega) (by unfold maxLen; omega) (Nat.le_refl _) ?_; intro w1 hown1 hg1))
      clear hv
      have hs1 : w.heap.size < w1.heap.size := (hown1.lt w.heap.size rfl).2
      have hnx1 : Below w.heap.size w w1 := (Below.refl _ _).grown hg1 (Nat.le_refl _) (fun j hj => by cases hj)
      rw [made_ints] at hown1
      go_loopw [5, 24] (fun m i wr => ∃ k : Nat, k ≤ n ∧ i = .int .i64 k ∧ m = .int .i64 (topp far zs k) ∧ wr.ownsRow w.heap.size 3 1 (.slice (some ⟨w.heap.size, 0, none⟩) n n) n ((bests far zs k ++ List.replicate (n - k) 0).map (Value.int .i64)) ∧ Below w.heap.size w wr)
        (fun _ i _ => n - (intOf i).toNat)
      case atStart => exact ⟨0, Nat.zero_le _, rfl, rfl, by simpa [bests] using hown1, hnx1⟩
      case round =>
        obtain ⟨k, hk, rfl, rfl, hown, hnx⟩ := hrel
        obtain ⟨wo, rfl⟩ : ∃ wo : World, wo = wr := ⟨_, rfl⟩
        have htb := topp_bd (far := far) (zs := zs) k
        by_cases hlt : k < n
        · obtain ⟨b, off, x, rfl, hbw, Hx, hc⟩ := (hr.below (hnx.mono hB)).x (k := k) (by rw [Hn.out]; exact hlt)
          obtain ⟨hx1, hx2⟩ := vh_get Hv.out (by rw [Hn.out]; exact hlt) Hx.out
          have hl := bests_length far zs k
          have hst : (wo.setCell ⟨w.heap.size, k, none⟩ (.int .i64 1)).ownsRow w.heap.size 3 1 (.slice (some ⟨w.heap.size, 0, none⟩) n n) n (rowc (bests far zs k) 1 (n - (k + 1))) := by
            rw [show n - k = (n - (k + 1)) + 1 by omega, ← rowc_zero] at hown
            have h := (hown.stored k (.int .i64 1)).1
            rw [← rowc_set _ 0 1]
            rw [hl]
            exact h
          have hcell : ∃ v, wo.cell? ⟨w.heap.size, k, none⟩ = some v := by
            rw [hown.cellAt k (by omega)]
            exact ⟨_, List.getElem?_eq_getElem (by simp [hl]; omega)⟩
          obtain ⟨v, hv⟩ := hcell
          have hfz := hown.frozenAt k
          have Hst := Lib.hid hst
          clear hst
          have Hl2 := Lib.hid hl
          clear hl
          have hnxs : Below w.heap.size w (wo.setCell ⟨w.heap.size, k, none⟩ (.int .i64 1)) := hnx.setCell (Nat.le_refl _) _
          have Hown := Lib.hid hown
          clear hown
          go_wp2
          clear hv hfz hc Hown
          go_loopw [36] (fun i wr => ∃ j : Nat, j ≤ k ∧ i = .int .i64 j ∧ wr.ownsRow w.heap.size 3 1 (.slice (some ⟨w.heap.size, 0, none⟩) n n) n (rowc (bests far zs k) (inn far x zs (bests far zs k) j) (n - (k + 1))) ∧ Below w.heap.size w wr)
            (fun i _ => k - (intOf i).toNat)
          case atStart => exact ⟨0, Nat.zero_le _, rfl, Hst.out, hnxs⟩
          case round =>
            obtain ⟨j, hj, rfl, hown, hnx⟩ := hrel
            have hcw := hown.cellAt k (by omega)
            have hfz := hown.frozenAt k
            have hat := rowc_at (bests far zs k) (inn far x zs (bests far zs k) j) (n - (k + 1))
            rw [Hl2.out] at hat
            rw [hat] at hcw
            clear hat
            have hbd := inn_bd (far := far) (x := x) (zs := zs) (bs := bests far zs k) (j := j) (fun i hi => (bests_bd i (by omega)).2)
            by_cases hjk : j < k
            · obtain ⟨b', off', y, he, _, Hy, hcy⟩ := (hr.below (hnx.mono hB)).x (k := j) (by rw [Hn.out]; omega)
              injection he with he
              injection he with he1 he2
              subst he1 he2
              obtain ⟨hy1, hy2⟩ := vh_get Hv.out (by rw [Hn.out]; omega) Hy.out
              have hbj := bests_bd (far := far) (zs := zs) j hjk
              have hcj := hown.cellAt j (by omega)
              rw [rowc_lt _ _ _ (by rw [Hl2.out]; exact hjk)] at hcj
              obtain ⟨v, Hv2⟩ : ∃ v, Hid ((bests far zs k).getD j 0 = v) := ⟨_, rfl⟩
              rw [Hv2.out] at hcj hbj
              obtain ⟨t, Ht⟩ : ∃ t, Hid (inn far x zs (bests far zs k) j = t) := ⟨_, rfl⟩
              rw [Ht.out] at hcw hbd
              have Hown := Lib.hid hown
              clear hown
              by_cases hxy : 2 * far < x - y
              · have Hi := Lib.hid (inn_yes Hy.out Hv2.out Ht.out hxy)
                go_wp2
                go_region
                go_wp2
                go_roundw
                case rel => exact ⟨j + 1, by omega, by go_num, by rw [Hi.out]; rw [Ht.out] at Hown; exact most_store Hl2.out Hown.out, (hnx.setCell (Nat.le_refl _) _).drew⟩
                case measure => simp [intOf]; omega
              · have Hi := Lib.hid (inn_no Hy.out Ht.out hxy)
                go_wp2
                go_roundw
                case rel => exact ⟨j + 1, by omega, by go_num, by rw [Hi.out, ← Ht.out]; exact Hown.out, hnx⟩
                case measure => simp [intOf]; omega
            · obtain rfl : j = k := by omega
              obtain ⟨t, Ht⟩ : ∃ t, Hid (inn far x zs (bests far zs j) j = t) := ⟨_, rfl⟩
              rw [Ht.out] at hcw hbd
              have Hown := Lib.hid hown
              clear hown
              have htp : topp far zs (j + 1) = max (topp far zs j) t := by rw [← Ht.out, ← Hx.out]; rfl
              have Htp := Lib.hid htp
              clear htp
              go_wp2
              go_roundw
              case rel => exact ⟨j + 1, by omega, by go_num, by rw [Htp.out, if_max], by rw [rowc_done Hx.out]; exact Hown.out, hnx⟩
              case measure => simp [intOf]; omega
        · obtain rfl : k = n := by omega
          go_wp2
          go_ret
          exact ⟨ret_int (by rw [Hs.out, Hn.out]), hnx⟩
  · have hv' : vh zs = false := by simpa using hv
    clear hv
    have Hs := Lib.hid (mapart_no (far := far) hv')
    go_enter Try.func25, Try.ntmps25
    go_wp2_with fail
    refine (iValid_any A c n zs w B hr Hn.out (by omega)).mono ?_
    rintro e w' ⟨rfl, rfl⟩
    go_wp2
    go_ret
    exact ⟨ret_int Hs.out.symm, Below.refl _ _⟩
end Go.Proofs.Ytoohfipicmdohab
