/-
  The law FnSlantCells follows from the functions' contracts.
  Conditions: none beyond the contracts'.
-/
import Derived.Test.YtkgomgfhhhdnjaaZ13
import Derived.Test.YtkgomgfhhhdnjaaZ8
import Derived.Test.YtkgomgfhhhdnjaaZ12
namespace Go.Proofs.Ytkgomgfhhhdnjaa
open Go.ChangeShapes Go.WideShapes Go.ChangeAt Go.RowKit
set_option linter.unusedVariables false
set_option maxRecDepth 4000

/-- How many there are of the first rests. -/
def sS (w h : Int) : Nat → Nat
  | 0 => 0
  | j + 1 => sS w h j + (slG w h (j : Nat)).length
theorem sS_le (w h : Int) : ∀ j, sS w h j ≤ 100 * j
  | 0 => Nat.le_refl _
  | j + 1 => by have h1 := sS_le w h j; have h2 := slG_len w h (j : Nat); simp only [sS]; omega
theorem sS_all {a b : Nat} (g : Rg a b) : sS a b 5 = a * b := by
  have h := sl_sum a (a * b)
  have e : ∀ j : Nat, j < 5 → (slG (a : Int) (b : Int) (j : Nat)).length = (slN a (a * b) j).length := fun j hj => by rw [slG_yes g hj]; unfold slL; rw [List.length_map]
  have e0 := e 0 (by omega)
  have e1 := e 1 (by omega)
  have e2 := e 2 (by omega)
  have e3 := e 3 (by omega)
  have e4 := e 4 (by omega)
  simp only [sS]
  omega
set_option maxHeartbeats 3200000 in
theorem lawSlantCells_walk (A : Option Addr) (c : Nat) (bs : List Int) (w : World) (hr : RdB w w.heap.size A bs) (hcap : bs.length ≤ c) (hm : c ≤ maxLen) :
    Calls Try.prog 7 #[.slice A bs.length c] w fun e w' => e = .returned (.bool true) ∧ Below w.heap.size w w' := by
  unfold maxLen at hm
  by_cases hb : 1048576 < bs.length
  · go_enter Try.func7, Try.ntmps7
    go_wp2
    go_ret
    exact ⟨rfl, Below.refl _ _⟩
  · have H := Lib.hid (drawSlantCells_any A c bs.length bs w hr rfl hcap hm)
    have HI := Lib.hid iSlantCells_ok
    have HS := Lib.hid sSlantCells_ok
    have HP := Lib.hid iIsPerfect_ok
    clear hr
    go_enter Try.func7, Try.ntmps7
    go_wp2_with fail
    refine H.out.mono ?_
    rintro e w1 ⟨x, y, k, rfl, hB1⟩
    have HB1 := Lib.hid hB1
    have hbe : ∀ x : Int, (x == x) = true := fun x => by simp
    obtain ⟨xs, Hx⟩ : ∃ xs, Hid (slG x y k = xs) := ⟨_, rfl⟩
    have hl100 := slG_len x y k
    rw [Hx.out] at hl100
    obtain ⟨L, HL⟩ : ∃ L, Hid (xs.length = L) := ⟨_, rfl⟩
    rw [HL.out] at hl100
    have HI2 : Hid (∀ W, Calls Try.prog 32 #[.int .i64 x, .int .i64 y, .int .i64 k] W (RowG xs W)) := fun W => by have := HI.out x y k W; rw [Hx.out] at this; exact this
    have HS2 : Hid (∀ W, Calls Try.prog 33 #[.int .i64 x, .int .i64 y, .int .i64 k] W (RowG xs W)) := fun W => by have := HS.out x y k W; rw [Hx.out] at this; exact this
    clear hB1
    go_wp2_with fail
    refine (HI2.out w1).mono ?_
    intro e w2 h2
    obtain ⟨A2, c2, rfl, HO2, HR2, hc2, hd2, HB2⟩ := rowG_get HL.out h2
    have HBw2 := Lib.hid (HB1.out.trans (HB2.out.mono HB1.out.size))
    clear h2 HB2
    go_wp2_with fail
    refine (HS2.out w2).mono ?_
    intro e w3 h3
    obtain ⟨A3, c3, rfl, HO3, HR3, hc3, hd3, HB3⟩ := rowG_get HL.out h3
    have HBw3 := Lib.hid (HBw2.out.trans (HB3.out.mono HBw2.out.size))
    have HR23 := Lib.hid ((HR2.out.below HB3.out).more HB3.out.size)
    clear h3
    go_wp2_with fail
    refine (eqLi_same A2 A3 c2 c3 L L xs w3 _ _ HR23.out HL.out HR3.out HL.out (by omega)).mono ?_
    rintro e w4 ⟨rfl, q4, rfl⟩
    have HBw4 := Lib.hid (below_drewN HBw3.out q4)
    have HR4 : Hid (RdI (w3.drewN q4) (w3.drewN q4).heap.size A2 xs) := HR23.out
    clear HO3 HR3 HR23 HB3
    by_cases hok : ((1 ≤ x ∧ 1 ≤ y) ∧ x ≤ 10 ∧ y ≤ 10) ∧ 0 ≤ k ∧ k ≤ 4
    · obtain ⟨⟨⟨o1, o2⟩, o3, o4⟩, o5, o6⟩ := hok
      obtain ⟨a, b, rfl, rfl, g⟩ := rok_nat (show rok x y from ⟨⟨o1, o3⟩, o2, o4⟩)
      obtain ⟨r, rfl⟩ := Int.eq_ofNat_of_zero_le o5
      have hmm : (a : Int) * (b : Int) = ((a * b : Nat) : Int) := (Int.natCast_mul a b).symm
      have hn100 := g.n100
      have Hall := Lib.hid (sS_all g)
      have Hprf : Hid (a % 5 = 0 → b % 5 = 0 → prf a b xs 1 = true) := fun h1 h2 => by rw [← Hx.out, slG_yes g (by omega)]; exact sl_prf g h1 h2 (by omega)
      obtain ⟨n, Hn⟩ : ∃ n, Hid (a * b = n) := ⟨_, rfl⟩
      rw [Hn.out] at hmm hn100 Hall
      clear g
      go_wp2
      go_loopw [7, 8] (fun o i wr => ∃ j : Nat, j ≤ 5 ∧ i = .int .i64 j ∧ o = .int .i64 (sS a b j : Nat) ∧ Hid (RdI wr wr.heap.size A2 xs) ∧ Hid (Below w.heap.size w wr)) (fun _ i _ => 5 - (intOf i).toNat)
      case atStart => exact ⟨0, by omega, rfl, rfl, HR4, HBw4⟩
      case round =>
        clear HR4 HBw4
        obtain ⟨j, hj, rfl, rfl, HR, HB⟩ := hrel
        have hsb := sS_le a b j
        by_cases hlt : j < 5
        · have hgl := slG_len a b (j : Nat)
          have Hsn : Hid (sS a b (j + 1) = sS a b j + (slG a b (j : Nat)).length) := rfl
          obtain ⟨ys, Hy⟩ : ∃ ys, Hid (slG a b (j : Nat) = ys) := ⟨_, rfl⟩
          rw [Hy.out] at Hsn hgl
          obtain ⟨M, HM⟩ : ∃ M, Hid (ys.length = M) := ⟨_, rfl⟩
          rw [HM.out] at Hsn hgl
          obtain ⟨T, HT⟩ : ∃ T, Hid (sS a b j = T) := ⟨_, rfl⟩
          rw [HT.out] at Hsn hsb ⊢
          go_wp2_with fail
          refine (HI.out a b j wr).mono ?_
          intro e w5 h5
          rw [Hy.out] at h5
          obtain ⟨A5, c5, rfl, HO5, HR5, hc5, hd5, HB5⟩ := rowG_get HM.out h5
          have HBw5 := Lib.hid (HB.out.trans (HB5.out.mono HB.out.size))
          have HR45 := Lib.hid ((HR.out.below HB5.out).more HB5.out.size)
          clear h5
          go_wp2
          go_roundw
          case rel => exact ⟨j + 1, by omega, by go_num, by rw [Hsn.out]; go_num, HR45, HBw5⟩
          case measure => simp [intOf]; omega
        · obtain rfl : j = 5 := by omega
          rw [Hall.out]
          have e1 : (a : Int).tmod 5 = ((a % 5 : Nat) : Int) := (Int.ofNat_tmod a 5).symm
          have e2 : (b : Int).tmod 5 = ((b % 5 : Nat) : Int) := (Int.ofNat_tmod b 5).symm
          obtain ⟨u, Hu⟩ : ∃ u, Hid (a % 5 = u) := ⟨_, rfl⟩
          obtain ⟨v, Hv⟩ : ∃ v, Hid (b % 5 = v) := ⟨_, rfl⟩
          rw [Hu.out] at e1 Hprf
          rw [Hv.out] at e2 Hprf
          by_cases hu : 0 < u
          · have hu2 : (0 : Int) < (u : Int) := by omega
            go_wp2
            go_ret
            exact ⟨rfl, HB.out⟩
          · have hu2 : ¬ (0 : Int) < (u : Int) := by omega
            by_cases hv : 0 < v
            · have hv2 : (0 : Int) < (v : Int) := by omega
              go_wp2
              go_ret
              exact ⟨rfl, HB.out⟩
            · have hv2 : ¬ (0 : Int) < (v : Int) := by omega
              have Hpt := Lib.hid (Hprf.out (by omega) (by omega))
              have HLst : Hid (LstG wr A2 c2 L xs) := ⟨HR.out, HL.out, ⟨hc2, hd2⟩, by omega⟩
              go_wp2_with fail
              refine (HP.out a b A2 c2 L xs 1 wr HLst.out).mono ?_
              rintro e w6 ⟨rfl, hb6⟩
              rw [Hpt.out]
              have HB6 := Lib.hid (HB.out.trans (hb6.mono HB.out.size))
              clear hb6
              go_wp2
              go_ret
              exact ⟨rfl, HB6.out⟩
    · by_cases q1 : x < 1
      · clear hok
        go_wp2_with fail
        refine (HS2.out _).mono ?_
        intro e w5 h5
        obtain ⟨A5, c5, rfl, HO5, HR5, hc5, hd5, HB5⟩ := rowG_get HL.out h5
        have HBw5 := Lib.hid (HBw4.out.trans (HB5.out.mono HBw4.out.size))
        have HR45 := Lib.hid ((HR4.out.below HB5.out).more HB5.out.size)
        clear h5
        go_wp2_with fail
        refine (eqLi_same A2 A5 c2 c5 L L xs w5 _ _ HR45.out HL.out HR5.out HL.out (by omega)).mono ?_
        rintro e w6 ⟨rfl, q6', rfl⟩
        go_wp2
        go_ret
        exact ⟨rfl, below_drewN HBw5.out q6'⟩
      · by_cases q2 : y < 1
        · clear hok
          go_wp2_with fail
          refine (HS2.out _).mono ?_
          intro e w5 h5
          obtain ⟨A5, c5, rfl, HO5, HR5, hc5, hd5, HB5⟩ := rowG_get HL.out h5
          have HBw5 := Lib.hid (HBw4.out.trans (HB5.out.mono HBw4.out.size))
          have HR45 := Lib.hid ((HR4.out.below HB5.out).more HB5.out.size)
          clear h5
          go_wp2_with fail
          refine (eqLi_same A2 A5 c2 c5 L L xs w5 _ _ HR45.out HL.out HR5.out HL.out (by omega)).mono ?_
          rintro e w6 ⟨rfl, q6', rfl⟩
          go_wp2
          go_ret
          exact ⟨rfl, below_drewN HBw5.out q6'⟩
        · by_cases q3 : 10 < x
          · clear hok
            go_wp2_with fail
            refine (HS2.out _).mono ?_
            intro e w5 h5
            obtain ⟨A5, c5, rfl, HO5, HR5, hc5, hd5, HB5⟩ := rowG_get HL.out h5
            have HBw5 := Lib.hid (HBw4.out.trans (HB5.out.mono HBw4.out.size))
            have HR45 := Lib.hid ((HR4.out.below HB5.out).more HB5.out.size)
            clear h5
            go_wp2_with fail
            refine (eqLi_same A2 A5 c2 c5 L L xs w5 _ _ HR45.out HL.out HR5.out HL.out (by omega)).mono ?_
            rintro e w6 ⟨rfl, q6', rfl⟩
            go_wp2
            go_ret
            exact ⟨rfl, below_drewN HBw5.out q6'⟩
          · by_cases q4 : 10 < y
            · clear hok
              go_wp2_with fail
              refine (HS2.out _).mono ?_
              intro e w5 h5
              obtain ⟨A5, c5, rfl, HO5, HR5, hc5, hd5, HB5⟩ := rowG_get HL.out h5
              have HBw5 := Lib.hid (HBw4.out.trans (HB5.out.mono HBw4.out.size))
              have HR45 := Lib.hid ((HR4.out.below HB5.out).more HB5.out.size)
              clear h5
              go_wp2_with fail
              refine (eqLi_same A2 A5 c2 c5 L L xs w5 _ _ HR45.out HL.out HR5.out HL.out (by omega)).mono ?_
              rintro e w6 ⟨rfl, q6', rfl⟩
              go_wp2
              go_ret
              exact ⟨rfl, below_drewN HBw5.out q6'⟩
            · by_cases q5 : k < 0
              · clear hok
                go_wp2_with fail
                refine (HS2.out _).mono ?_
                intro e w5 h5
                obtain ⟨A5, c5, rfl, HO5, HR5, hc5, hd5, HB5⟩ := rowG_get HL.out h5
                have HBw5 := Lib.hid (HBw4.out.trans (HB5.out.mono HBw4.out.size))
                have HR45 := Lib.hid ((HR4.out.below HB5.out).more HB5.out.size)
                clear h5
                go_wp2_with fail
                refine (eqLi_same A2 A5 c2 c5 L L xs w5 _ _ HR45.out HL.out HR5.out HL.out (by omega)).mono ?_
                rintro e w6 ⟨rfl, q6', rfl⟩
                go_wp2
                go_ret
                exact ⟨rfl, below_drewN HBw5.out q6'⟩
              · have q6 : 4 < k := by omega
                clear hok
                go_wp2_with fail
                refine (HS2.out _).mono ?_
                intro e w5 h5
                obtain ⟨A5, c5, rfl, HO5, HR5, hc5, hd5, HB5⟩ := rowG_get HL.out h5
                have HBw5 := Lib.hid (HBw4.out.trans (HB5.out.mono HBw4.out.size))
                have HR45 := Lib.hid ((HR4.out.below HB5.out).more HB5.out.size)
                clear h5
                go_wp2_with fail
                refine (eqLi_same A2 A5 c2 c5 L L xs w5 _ _ HR45.out HL.out HR5.out HL.out (by omega)).mono ?_
                rintro e w6 ⟨rfl, q6', rfl⟩
                go_wp2
                go_ret
                exact ⟨rfl, below_drewN HBw5.out q6'⟩
end Go.Proofs.Ytkgomgfhhhdnjaa
