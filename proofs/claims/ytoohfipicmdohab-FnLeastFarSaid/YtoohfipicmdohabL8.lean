/-
  MostApart of the model appends the same table.
  Conditions: fewer than 2^20 numbers.
-/
import Derived.Test.YtoohfipicmdohabL7
import Derived.Deep.AppendLies
import Derived.Maps.AppendAt
namespace Go.Proofs.Ytoohfipicmdohab
open Go.ChangeShapes Go.WideShapes Go.ChangeAt Go.RowKit
set_option linter.unusedVariables false
set_option maxRecDepth 4000

theorem best_next {far x : Int} {zs : List Int} {j : Nat} (hx : zs.getD j 0 = x) :
    (bests far zs (j + 1)).map (Value.int .i64) = (bests far zs j).map (Value.int .i64) ++ [.int .i64 (inn far x zs (bests far zs j) j)] := by
  simp [bests, ← hx]
theorem below_alloc_drewN {B : Nat} {a w : World} (h : Below B a w) (hB : B ≤ w.heap.size) (q : Nat) (o : Obj) : Below B a ((w.drewN q).alloc o) := (below_drewN h q).alloc hB o

set_option maxHeartbeats 800000 in
theorem sMost_any (A : Option Addr) (c n : Nat) (zs : List Int) (far : Int) (w : World) (B : Nat) (hr : RdI w B A zs) (hB : B ≤ w.heap.size) (hn : zs.length = n) (hb : n ≤ 1048576) :
    Calls Try.prog 27 #[.slice A n c, .int .i64 far] w fun e w' => e = .returned (.int .i64 (mapart zs far)) ∧ Below w.heap.size w w' := by
  obtain ⟨i0, hi0, hz0, hz1, hz2⟩ := info_parts intInfo
  have Hn := Lib.hid hn
  clear hn
  by_cases hv : vh zs = true
  · by_cases hf : far < 0 ∨ 50 < far
    · have Hs := Lib.hid (mapart_no' (zs := zs) (vfar_no hf))
      go_enter Try.func27, Try.ntmps27
      go_wp2_with fail
      refine (sValid_any A c n zs w B hr Hn.out (by omega)).mono ?_
      rintro e w' ⟨rfl, q, rfl⟩
      go_wp2_with (go_at_call 43; refine (inRange_no _ _ _ _ hf).mono ?_; rintro e w' ⟨rfl, rfl⟩)
      go_ret
      exact ⟨ret_int Hs.out.symm, below_drewN (Below.refl _ _) _⟩
    · have h1 : 0 ≤ far := by omega
      have h2 : far ≤ 50 := by omega
      clear hf
      have Hs := Lib.hid (mapart_yes hv (vfar_yes h1 h2))
      have Hl := vh_len hv
      rw [Hn.out] at Hl
      go_enter Try.func27, Try.ntmps27
      go_wp2_with fail
      refine (sValid_any A c n zs w B hr Hn.out (by omega)).mono ?_
      rintro e w' ⟨rfl, q, rfl⟩
      have Hv := Lib.hid hv
      go_wp2_with (first
        | (go_at_call 43; refine (inRange_yes _ _ _ _ h1 h2).mono ?_; rintro e w' ⟨rfl, rfl⟩))
      clear hv
      have hown0 : ((w.drewN q).alloc (.cells #[] 3)).ownsRow w.heap.size 3 1 (.slice (some ⟨w.heap.size, 0, none⟩) 0 0) 0 [] :=
        World.ownsRow_lit (w.drewN q) #[] 0 (Nat.le_refl _) (by decide) rfl
      have hnx0 : Below w.heap.size w ((w.drewN q).alloc (.cells #[] 3)) := (below_drewN (Below.refl _ _) _).alloc (Nat.le_refl _) _
      have Hown0 := Lib.hid hown0
      clear hown0
      go_loopw [5, 6, 7] (fun v m i wr => ∃ k : Nat, k ≤ n ∧ i = .int .i64 k ∧ m = .int .i64 (topp far zs k) ∧ wr.ownsRow w.heap.size 3 1 v k ((bests far zs k).map (Value.int .i64)) ∧ Below w.heap.size w wr)
        (fun _ _ i _ => n - (intOf i).toNat)
      case atStart => exact ⟨0, Nat.zero_le _, rfl, rfl, Hown0.out, hnx0⟩
      case round =>
        clear hnx0 Hown0
        obtain ⟨k, hk, rfl, rfl, hown, hnx⟩ := hrel
        obtain ⟨wo, rfl⟩ : ∃ wo : World, wo = wr := ⟨_, rfl⟩
        have htb := topp_bd (far := far) (zs := zs) k
        by_cases hlt : k < n
        · obtain ⟨b, off, x, rfl, hbw, Hx, hc⟩ := (hr.below (hnx.mono hB)).x (k := k) (by rw [Hn.out]; exact hlt)
          obtain ⟨hx1, hx2⟩ := vh_get Hv.out (by rw [Hn.out]; exact hlt) Hx.out
          have Hl2 := Lib.hid (bests_length far zs k)
          have Hown := Lib.hid hown
          clear hown
          go_wp2
          go_loopw [8, 9] (fun t i wr => ∃ j : Nat, ∃ q : Nat, j ≤ k ∧ i = .int .i64 j ∧ t = .int .i64 (inn far x zs (bests far zs k) j) ∧ wr = wo.drewN q)
            (fun _ i _ => k - (intOf i).toNat)
          case atStart => exact ⟨0, 0, Nat.zero_le _, rfl, rfl, rfl⟩
          case round =>
            obtain ⟨j, q1, hj, rfl, rfl, rfl⟩ := hrel
            have hbd := inn_bd (far := far) (x := x) (zs := zs) (bs := bests far zs k) (j := j) (fun i hi => (bests_bd i (by omega)).2)
            obtain ⟨t, Ht⟩ : ∃ t, Hid (inn far x zs (bests far zs k) j = t) := ⟨_, rfl⟩
            rw [Ht.out] at hbd
            rw [Ht.out]
            by_cases hjk : j < k
            · obtain ⟨b', off', y, he, _, Hy, hcy⟩ := (hr.below (hnx.mono hB)).x (k := j) (by rw [Hn.out]; omega)
              injection he with he
              injection he with he1 he2
              subst he1 he2
              obtain ⟨hy1, hy2⟩ := vh_get Hv.out (by rw [Hn.out]; omega) Hy.out
              have hbj := bests_bd (far := far) (zs := zs) j hjk
              obtain ⟨g, cap, rfl, hg1, hg2⟩ := Hown.out.form (by omega)
              have hcj := Hown.out.cellAt j (by omega)
              rw [List.getElem?_map, List.getElem?_eq_getElem (by rw [Hl2.out]; exact hjk)] at hcj
              obtain ⟨v, Hv2⟩ : ∃ v, Hid ((bests far zs k).getD j 0 = v) := ⟨_, rfl⟩
              have hgv : (bests far zs k)[j]'(by rw [Hl2.out]; exact hjk) = v := by
                rw [← Hv2.out]; simp [List.getD, List.getElem?_eq_getElem (show j < (bests far zs k).length by rw [Hl2.out]; exact hjk)]
              rw [hgv] at hcj
              clear hgv
              rw [Hv2.out] at hbj
              simp only [Option.map_some] at hcj
              by_cases hxy : 2 * far < x - y
              · have Hi := Lib.hid (inn_yes Hy.out Hv2.out Ht.out hxy)
                go_wp2
                go_quiet (fail)
                go_wp2
                go_roundw
                case rel => exact ⟨j + 1, _, by omega, by go_num, by rw [Hi.out, if_max], rfl⟩
                case measure => simp [intOf]; omega
              · have Hi := Lib.hid (inn_no Hy.out Ht.out hxy)
                go_wp2
                go_quiet (fail)
                go_wp2
                go_roundw
                case rel => exact ⟨j + 1, _, by omega, by go_num, by rw [Hi.out], rfl⟩
                case measure => simp [intOf]; omega
            · obtain rfl : j = k := by omega
              have htp : topp far zs (j + 1) = max (topp far zs j) t := by rw [← Ht.out, ← Hx.out]; rfl
              have Htp := Lib.hid htp
              clear htp
              have hsz : w.heap.size ≤ wo.heap.size := hnx.size
              go_wp2_with (at_builtin; refine wpList_append_own _ rfl _ _ 23 rfl w.heap.size 3 i0 (.int .i64 0) 1 8 Try.underlying23 hi0 hz0 hz1 hz2 rfl (by decide) _ _ _ rfl (Hown.out.alloc _) ⟨wo.heap.size, 0, none⟩ 1 1 [.int .i64 t] rfl rfl ?c1 ?c2 ?c3 ?c4 ?c5 ?_)
              case c1 => exact cell_one_new _ _ _
              case c2 => intro u hu; simp at hu; subst hu; rfl
              case c3 => unfold maxLen; omega
              case c4 => omega
              case c5 => simp; omega
              intro v' w1 hown' hgrow _
              go_wp2
              go_roundw
              case rel => exact ⟨j + 1, by omega, by go_num, by rw [Htp.out, if_max], by rw [best_next Hx.out, Ht.out]; exact hown', (below_alloc_drewN hnx hsz q1 _).grown hgrow (by simp; omega) (fun g hg => (Hown.out.lt g hg).1)⟩
              case measure => simp [intOf]; omega
        · obtain rfl : k = n := by omega
          go_wp2
          go_ret
          exact ⟨ret_int (by rw [Hs.out, Hn.out]), hnx⟩
  · have hv' : vh zs = false := by simpa using hv
    clear hv
    have Hs := Lib.hid (mapart_no (far := far) hv')
    go_enter Try.func27, Try.ntmps27
    go_wp2_with fail
    refine (sValid_any A c n zs w B hr Hn.out (by omega)).mono ?_
    rintro e w' ⟨rfl, q, rfl⟩
    go_wp2
    go_ret
    exact ⟨ret_int Hs.out.symm, below_drewN (Below.refl _ _) _⟩

theorem iMost_b (A : Option Addr) (c n : Nat) (zs : List Int) (far : Int) (w : World) (B : Nat) (hr : RdI w B A zs) (hn : zs.length = n) (hb : n ≤ 1048576) (hB : B ≤ w.heap.size) (hcap : n ≤ c) (hc63 : c ≤ 9223372036854775807) :
    Calls Try.prog 25 #[.slice A n c, .int .i64 far] w fun e w' => e = .returned (.int .i64 (mapart zs far)) ∧ Below w.heap.size w w' := iMost_any A c n zs far w B hr hB hn hcap hc63 hb
theorem sMost_b (A : Option Addr) (c n : Nat) (zs : List Int) (far : Int) (w : World) (B : Nat) (hr : RdI w B A zs) (hn : zs.length = n) (hb : n ≤ 1048576) (hB : B ≤ w.heap.size) (hcap : n ≤ c) (hc63 : c ≤ 9223372036854775807) :
    Calls Try.prog 27 #[.slice A n c, .int .i64 far] w fun e w' => e = .returned (.int .i64 (mapart zs far)) ∧ Below w.heap.size w w' := sMost_any A c n zs far w B hr hB hn hb
end Go.Proofs.Ytoohfipicmdohab
