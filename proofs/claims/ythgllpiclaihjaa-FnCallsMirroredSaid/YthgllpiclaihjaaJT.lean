/-
  The law on calls seen from the other end.
  Conditions: none.
-/
import Derived.Test.YthgllpiclaihjaaJQ
namespace Go.Proofs.Ythgllpiclaihjaa
open Go.ChangeShapes Go.WideShapes Go.ChangeAt Go.RowKit
set_option linter.unusedVariables false
set_option maxRecDepth 4000

theorem mir50_step {zs : List Int} {k : Nat} {x : Int} (hk : k < zs.length) (hx : zs.getD k 0 = x) : mir50 (zs.take (k + 1)) = mir50 (zs.take k) ++ [50 - x] := by
  rw [List.take_succ_eq_append_getElem hk]
  have e : zs.getD k 0 = zs[k] := by simp [List.getD, List.getElem?_eq_getElem hk]
  rw [← e, hx]
  simp [mir50]
theorem mir50_len (zs : List Int) : (mir50 zs).length = zs.length := by simp [mir50]
theorem vcl_mir {a b : Int} {zs : List Int} (h : vcl a b zs = true) : vcl (50 - b) (50 - a) (mir50 zs) = true := by
  obtain ⟨h1, h2, h3⟩ := vcl_iff.1 h
  refine vcl_iff.2 ⟨by omega, by rw [mir50_len]; exact h2, fun x hx => ?_⟩
  obtain ⟨y, hy, rfl⟩ := List.mem_map.1 hx
  have := h3 y hy
  omega
/-- The list so far. -/
def MirRel (w : World) (n : Nat) (zs : List Int) (o v : Value) (wr : World) : Prop :=
  ∃ k : Nat, (∃ g c, o = .slice (some ⟨g, 0, none⟩) k c) ∧ v = .int .i64 k ∧ k ≤ n ∧ Hid (wr.ownsRow w.heap.size 3 1 o k ((mir50 (zs.take k)).map (Value.int .i64))) ∧ Hid (Below w.heap.size w wr)

set_option maxHeartbeats 1600000 in
theorem lawCallsMirrored_walk (A : Option Addr) (c : Nat) (bs : List Int) (w : World) (hr : RdB w w.heap.size A bs) (hcap : bs.length ≤ c) (hm : c ≤ maxLen) :
    Calls Try.prog 9 #[.slice A bs.length c] w fun e w' => e = .returned (.bool true) ∧ Below w.heap.size w w' := by
  unfold maxLen at hm
  by_cases hb : 1048576 < bs.length
  · go_enter Try.func9, Try.ntmps9
    go_wp2
    go_ret
    exact ⟨rfl, Below.refl _ _⟩
  · have HD := Lib.hid (drawWayBoth_any A c bs.length bs w hr rfl hcap hm)
    have HBI := Lib.hid iWayBoth_ok
    have HBS := Lib.hid sWayBoth_ok
    have HAI := Lib.hid iWayAhead_ok
    go_enter Try.func9, Try.ntmps9
    go_wp2_with fail
    refine HD.out.mono ?_
    rintro e w1 ⟨a, b, A1, c1, n, zs, rfl, h9, N1, HB1⟩
    clear HD hr hb hcap hm
    have hcw := N1.out.cap
    have hbe : ∀ x : Int, (x == x) = true := fun x => by simp
    have hbn : ∀ x : Int, (x != x) = false := fun x => by simp
    obtain ⟨v, Hv⟩ : ∃ v, Hid (wav a b zs = v) := ⟨_, rfl⟩
    obtain ⟨d, Hd⟩ : ∃ d, Hid (bwv a b zs = d) := ⟨_, rfl⟩
    obtain ⟨i0, hi0, hz0, hz1, hz2⟩ := info_parts intInfo
    have Hf : Hid (¬ d < 0 → bwv (50 - b) (50 - a) (mir50 zs) = d ∧ wav (50 - b) (50 - a) (mir50 zs) = v ∧ (0 ≤ a ∧ a ≤ b ∧ b ≤ 50) ∧ n ≤ 8 ∧ ∀ k x, k < n → zs.getD k 0 = x → 0 ≤ x ∧ x ≤ 50) := fun h => by
      have hv := bwv_valid (by rw [Hd.out]; exact h)
      obtain ⟨h1, h2, h3⟩ := vcl_iff.1 hv
      have hm := vcl_mir hv
      rw [← Hv.out, ← Hd.out, bwv_is hm, wav_is hm, bwv_is hv, wav_is hv, bw_mir zs a b h1.2.1, lw_mir2]
      exact ⟨rfl, rfl, h1, by rw [← N1.out.len]; exact h2, fun k x hk hx => h3 x (by rw [← hx]; simp [List.getD, List.getElem?_eq_getElem (show k < zs.length by rw [N1.out.len]; exact hk)])⟩
    go_wp2_with fail
    refine (HBI.out a b _ _ _ zs w1 N1.out).mono ?_
    rintro e w2 ⟨rfl, hq⟩
    rw [Hd.out]
    have N2 := Lib.hid (N1.out.later hq)
    have HB2 := Lib.hid (HB1.out.trans (hq.mono HB1.out.size))
    clear hq
    go_wp2_with fail
    refine (HBS.out a b _ _ _ zs w2 N2.out).mono ?_
    rintro e w3 ⟨rfl, hq⟩
    rw [Hd.out]
    have N3 := Lib.hid (N2.out.later hq)
    have HB3 := Lib.hid (HB2.out.trans (hq.mono HB2.out.size))
    clear hq
    go_wp2_with fail
    refine (HBI.out a b _ _ _ zs w3 N3.out).mono ?_
    rintro e w4 ⟨rfl, hq⟩
    rw [Hd.out]
    have N4 := Lib.hid (N3.out.later hq)
    have HB4 := Lib.hid (HB3.out.trans (hq.mono HB3.out.size))
    clear hq
    by_cases ha : d < 0
    · clear Hf
      go_wp2
      go_ret
      exact ⟨rfl, HB4.out⟩
    · obtain ⟨f1, f2, ⟨f3, f4, f5⟩, f6, f7⟩ := Hf.out (by omega)
      have F1 := Lib.hid f1
      have F2 := Lib.hid f2
      have F7 := Lib.hid f7
      clear Hf f1 f2 f7
      have HO0 : Hid ((w4.alloc (.cells #[] 3)).ownsRow w4.heap.size 3 1 (.slice (some ⟨w4.heap.size, 0, none⟩) 0 0) 0 ((mir50 (zs.take 0)).map (Value.int .i64))) := World.ownsRow_lit w4 #[] 0 (Nat.le_refl _) (by decide) rfl
      have HB0 : Hid (Below w4.heap.size w4 (w4.alloc (.cells #[] 3))) := (Below.refl _ w4).alloc (Nat.le_refl _) _
      go_wp2
      go_loopw [7, 8] (fun o v wr => MirRel w4 n zs o v wr) (fun _ v _ => n - (intOf v).toNat)
      case atStart => exact ⟨0, ⟨_, _, rfl⟩, rfl, Nat.zero_le _, HO0, HB0⟩
      case round =>
        clear HO0 HB0
        obtain ⟨k, ⟨g, c', rfl⟩, rfl, hk, HO, HB⟩ := hrel
        by_cases hlt : k < n
        · obtain ⟨bx, ox, x, rfl, hbx, Hx, hcx0⟩ := N4.out.rd.x (k := k) (by rw [N4.out.len]; exact hlt)
          have hcx : wr.cell? ⟨bx, ox + k, none⟩ = some (.int .i64 x) := (HB.out.cell (p := ⟨bx, ox + k, none⟩) hbx).trans hcx0
          obtain ⟨hx0, hx1⟩ := F7.out k x hlt Hx.out
          have hws : IntKind.i64.wrap (50 - x) = 50 - x := IntWalk.i64_in _ (by omega)
          have Hst := Lib.hid (mir50_step (by rw [N4.out.len]; exact hlt) Hx.out)
          have hsz : k + 1 ≤ maxLen := by unfold maxLen; omega
          have hsz2 : (k + 1) * 8 ≤ 140737488355328 := by omega
          have hsz3 : w4.heap.size ≤ (wr.alloc (.cells #[.int .i64 (50 - x)] 3)).heap.size := by rw [size_alloc1]; have := HB.out.size; omega
          clear hcx0
          go_wp2_with (at_builtin; refine wpList_append_lies _ rfl _ _ 23 rfl w4.heap.size 3 i0 _ 1 8 Try.underlying23 hi0 hz0 hz1 hz2 rfl (by decide) _ _ _ rfl (HO.out.alloc _) ⟨wr.heap.size, 0, none⟩ 1 1 [.int .i64 (50 - x)] rfl rfl (cell_one_new _ _ _) (by intro u hu; simp at hu; subst hu; rfl) (by decide) hsz hsz2 hsz3 _ rfl ?_; intro g9 c9 w9 hown9 hgrow9 hat9 hlt9)
          have HO9 : Hid (w9.ownsRow w4.heap.size 3 1 (.slice (some ⟨g9, 0, none⟩) (k + 1) c9) (k + 1) ((mir50 (zs.take (k + 1))).map (Value.int .i64))) := by show World.ownsRow _ _ _ _ _ _ _; rw [Hst.out, List.map_append]; exact hown9
          have HB9 : Hid (Below w4.heap.size w4 w9) := (HB.out.alloc HB.out.size _).grown hgrow9 (by rw [size_alloc1]; have := HB.out.size; omega) (fun g h => (HO.out.lt g h).1)
          clear hown9 hgrow9 hat9 hlt9 HO HB hsz hsz2 hsz3
          go_wp2
          go_roundw
          case rel => exact ⟨k + 1, ⟨g9, c9, rfl⟩, by go_num, by omega, HO9, HB9⟩
          case measure => simp [intOf]; omega
        · obtain rfl : k = n := by omega
          have hlen : zs.length = k := N4.out.len
          have hO := HO.out
          rw [List.take_of_length_le (by omega)] at hO
          have hJ : OwnJ wr w4.heap.size (.slice (some ⟨g, 0, none⟩) k c') (mir50 zs) := by show World.ownsRow _ _ _ _ _ _ _; rw [mir50_len, hlen]; exact hO
          obtain ⟨A', c'', he, hin, -⟩ := callsIn_own (n := k) hJ (by rw [mir50_len]; exact hlen) (by omega)
          injection he with he1 he2 he3
          subst he1 he3
          have M5 := Lib.hid hin
          have N5 := Lib.hid (N4.out.later HB.out)
          have HB5 := Lib.hid (HB4.out.trans (HB.out.mono HB4.out.size))
          have hwx : IntKind.i64.wrap (50 - b) = 50 - b := IntWalk.i64_in _ (by omega)
          have hwy : IntKind.i64.wrap (50 - a) = 50 - a := IntWalk.i64_in _ (by omega)
          clear hO hJ hin he2 HO HB hlen
          go_wp2_with fail
          refine (HBI.out (50 - b) (50 - a) _ _ _ (mir50 zs) wr M5.out).mono ?_
          rintro e w6 ⟨rfl, hq⟩
          rw [F1.out]
          have M6 := Lib.hid (M5.out.later hq)
          have N6 := Lib.hid (N5.out.later hq)
          have HB6 := Lib.hid (HB5.out.trans (hq.mono HB5.out.size))
          clear hq M5 N5 HB5
          go_wp2_with fail
          refine (HAI.out (50 - b) (50 - a) _ _ _ (mir50 zs) w6 M6.out).mono ?_
          rintro e w7 ⟨rfl, hq⟩
          rw [F2.out]
          have N7 := Lib.hid (N6.out.later hq)
          have HB7 := Lib.hid (HB6.out.trans (hq.mono HB6.out.size))
          clear hq M6 N6 HB6
          go_wp2_with fail
          refine (HAI.out a b _ _ _ zs w7 N7.out).mono ?_
          rintro e w8 ⟨rfl, hq⟩
          rw [Hv.out]
          have N8 := Lib.hid (N7.out.later hq)
          have HB8 := Lib.hid (HB7.out.trans (hq.mono HB7.out.size))
          clear hq
          go_wp2
          go_ret
          exact ⟨rfl, HB8.out⟩
end Go.Proofs.Ythgllpiclaihjaa
