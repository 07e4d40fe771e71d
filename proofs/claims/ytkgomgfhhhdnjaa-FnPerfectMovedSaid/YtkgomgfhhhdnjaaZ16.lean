/-
  The law FnPerfectMoved follows from the functions' contracts.
  Conditions: none beyond the contracts'.
-/
import Derived.Test.YtkgomgfhhhdnjaaZ13
import Derived.Test.YtkgomgfhhhdnjaaZ8
import Derived.Test.YtkgomgfhhhdnjaaZ12
namespace Go.Proofs.Ytkgomgfhhhdnjaa
open Go.ChangeShapes Go.WideShapes Go.ChangeAt Go.RowKit
set_option linter.unusedVariables false
set_option maxRecDepth 4000

theorem mvL_yes {w k : Nat} {zs : List Int} (h : hasB zs ((mvN w k : Nat) : Int) = true) : mvL w (k + 1) zs = mvL w k zs ++ [(k : Int)] := by
  have h' : ((mvN w k : Nat) : Int) ∈ zs := by unfold hasB at h; rwa [List.contains_iff_mem] at h
  unfold mvL mvd; rw [List.range_succ, List.filter_append, List.map_append]; simp [h']
theorem mvL_no {w k : Nat} {zs : List Int} (h : hasB zs ((mvN w k : Nat) : Int) = false) : mvL w (k + 1) zs = mvL w k zs := by
  have h' : ¬ ((mvN w k : Nat) : Int) ∈ zs := by
    intro hm
    have : hasB zs ((mvN w k : Nat) : Int) = true := by unfold hasB; rw [List.contains_iff_mem]; exact hm
    rw [h] at this; cases this
  unfold mvL mvd; rw [List.range_succ, List.filter_append, List.map_append]; simp [h']
theorem mvL_len (w n : Nat) (zs : List Int) : (mvL w n zs).length ≤ n := by
  unfold mvL mvd
  rw [List.length_map]
  have := List.length_filter_le (fun c => decide (((mvN w c : Nat) : Int) ∈ zs)) (List.range n)
  rwa [List.length_range] at this
set_option maxHeartbeats 6400000 in
theorem lawPerfectMoved_walk (A : Option Addr) (c : Nat) (bs : List Int) (w : World) (hr : RdB w w.heap.size A bs) (hcap : bs.length ≤ c) (hm : c ≤ maxLen) :
    Calls Try.prog 10 #[.slice A bs.length c] w fun e w' => e = .returned (.bool true) ∧ Below w.heap.size w w' := by
  unfold maxLen at hm
  by_cases hb : 1048576 < bs.length
  · go_enter Try.func10, Try.ntmps10
    go_wp2
    go_ret
    exact ⟨rfl, Below.refl _ _⟩
  · have H := Lib.hid (drawIsPerfect_any A c bs.length bs w hr rfl hcap hm)
    have HI := Lib.hid iIsPerfect_ok
    have HS := Lib.hid sIsPerfect_ok
    clear hr
    go_enter Try.func10, Try.ntmps10
    go_wp2_with fail
    refine H.out.mono ?_
    rintro e w1 ⟨a, b, A1, c1, m, zs, far, rfl, ha, hb', hfar, HL1, hm101, HB1⟩
    obtain ⟨i0, hi0, hz0, hz1, hz2⟩ := info_parts intInfo
    have hbn : ∀ x : Bool, (x != x) = false := fun x => by simp
    have hbe : ∀ x : Bool, (x == x) = true := fun x => by simp
    obtain ⟨p, Hp⟩ : ∃ p, Hid (prf a b zs far = p) := ⟨_, rfl⟩
    have g : Rg a b := ⟨ha.1, ha.2, hb'.1, hb'.2⟩
    have Hmv : Hid (AscP zs m → (mvL a (a * b) zs).length = m → prf a b (mvL a (a * b) zs) far = p) := fun h1 h2 => by
      rw [← HL1.out.len] at h1 h2
      rw [prf_moved g (ascP_pair h1) h2, Hp.out]
    have hml := mvL_len a (a * b) zs
    have hmm : (a : Int) * (b : Int) = ((a * b : Nat) : Int) := (Int.natCast_mul a b).symm
    have hn100 : a * b ≤ 100 := Nat.mul_le_mul ha.2 hb'.2
    have haw := ha.1
    have haw10 := ha.2
    have hbw := hb'.1
    have hbw10 := hb'.2
    obtain ⟨n, Hn⟩ : ∃ n, Hid (a * b = n) := ⟨_, rfl⟩
    rw [Hn.out] at hmm hn100 Hmv hml
    clear g ha hb'
    go_wp2_with fail
    refine (HI.out a b A1 c1 m zs far w1 HL1.out).mono ?_
    rintro e w2 ⟨rfl, hb3⟩
    rw [Hp.out]
    have HL2 := Lib.hid (HL1.out.later hb3)
    have HB2 := Lib.hid (HB1.out.trans (hb3.mono HB1.out.size))
    clear hb3
    go_wp2_with fail
    refine (HS.out a b A1 c1 m zs far w2 HL2.out).mono ?_
    rintro e w3 ⟨rfl, hb3⟩
    rw [Hp.out]
    have HL3 := Lib.hid (HL2.out.later hb3)
    have HB3 := Lib.hid (HB2.out.trans (hb3.mono HB2.out.size))
    clear hb3
    go_wp2_with fail
    refine (HI.out a b A1 c1 m zs far w3 HL3.out).mono ?_
    rintro e w4 ⟨rfl, hb3⟩
    rw [Hp.out]
    have HL4 := Lib.hid (HL3.out.later hb3)
    have HB4 := Lib.hid (HB3.out.trans (hb3.mono HB3.out.size))
    clear hb3
    have q1 : ¬ (a : Int) < 1 := by omega
    have q2 : ¬ (b : Int) < 1 := by omega
    have q3 : ¬ (10 : Int) < (a : Int) := by omega
    have q4 : ¬ (10 : Int) < (b : Int) := by omega
    have HO0 : Hid (OwnG (w4.alloc (.cells #[] 3)) w4.heap.size w4.heap.size 0 0 (mvL a 0 zs)) := ⟨rfl, World.ownsRow_lit w4 #[] 0 (Nat.le_refl _) (by decide) rfl⟩
    have HBa : Hid (Below w4.heap.size w4 (w4.alloc (.cells #[] 3))) := (Below.refl _ _).alloc (Nat.le_refl _) _
    have hane : ¬ (a : Int) = 0 := by omega
    have haz : ((a : Int) == 0) = false := by rw [beq_eq_false_iff_ne]; exact hane
    obtain ⟨W4, HW4⟩ : ∃ W4, Hid (w4 = W4) := ⟨_, rfl⟩
    go_wp2
    go_loopw [8, 9] (fun o i wr => ∃ k g c L : Nat, k ≤ n ∧ L ≤ k ∧ o = .slice (some ⟨g, 0, none⟩) L c ∧ i = .int .i64 k ∧ Hid (OwnG wr W4.heap.size g c L (mvL a k zs)) ∧ Hid (Below W4.heap.size W4 wr)) (fun _ i _ => n - (intOf i).toNat)
    case atStart =>
      have e := HW4.out
      subst e
      exact ⟨0, _, 0, 0, by omega, by omega, rfl, rfl, HO0, HBa⟩
    case round =>
      rw [HW4.out] at HL4 HB4
      clear HO0 HBa HW4
      obtain ⟨k, g, c, L, hk, hLk, rfl, rfl, HO, HB⟩ := hrel
      by_cases hlt : k < n
      · have e1 : (k : Int).tdiv (a : Int) = ((k / a : Nat) : Int) := (Int.ofNat_tdiv k a).symm
        have e2 : (k : Int).tmod (a : Int) = ((k % a : Nat) : Int) := (Int.ofNat_tmod k a).symm
        have l1 : k / a * a ≤ k := Nat.div_mul_le_self k a
        have e3 : ((k / a : Nat) : Int) * (a : Int) = ((k / a * a : Nat) : Int) := (Int.natCast_mul _ _).symm
        have l2 := Nat.mod_lt k haw
        have Hmn : Hid (mvN a k = k / a * a + (k % a + 1) % a) := rfl
        obtain ⟨Q, HQ⟩ : ∃ Q, Hid (k / a * a = Q) := ⟨_, rfl⟩
        rw [HQ.out] at e3 l1 Hmn
        obtain ⟨u, Hu⟩ : ∃ u, Hid (k / a = u) := ⟨_, rfl⟩
        rw [Hu.out] at e1 e3
        have lu : u ≤ k := by rw [← Hu.out]; exact Nat.div_le_self _ _
        obtain ⟨x, Hx⟩ : ∃ x, Hid (k % a = x) := ⟨_, rfl⟩
        rw [Hx.out] at e2 l2 Hmn
        have e4 : ((x : Int) + 1).tmod (a : Int) = (((x + 1) % a : Nat) : Int) := by rw [show ((x : Int) + 1) = ((x + 1 : Nat) : Int) by omega]; exact (Int.ofNat_tmod (x + 1) a).symm
        have l3 := Nat.mod_lt (x + 1) haw
        obtain ⟨y, Hy⟩ : ∃ y, Hid ((x + 1) % a = y) := ⟨_, rfl⟩
        rw [Hy.out] at e4 l3 Hmn
        have Hyes : Hid (hasB zs ((mvN a k : Nat) : Int) = true → mvL a (k + 1) zs = mvL a k zs ++ [(k : Int)]) := mvL_yes
        have Hno : Hid (hasB zs ((mvN a k : Nat) : Int) = false → mvL a (k + 1) zs = mvL a k zs) := mvL_no
        rw [Hmn.out] at Hyes Hno
        have hsum : (Q : Int) + (y : Int) = ((Q + y : Nat) : Int) := by omega
        obtain ⟨z, Hz⟩ : ∃ z, Hid (Q + y = z) := ⟨_, rfl⟩
        have hzb : z ≤ 200 := by rw [← Hz.out]; omega
        rw [Hz.out] at hsum Hyes Hno
        have HIn := Lib.hid (fun (V : World) (hV : ∃ q, V = wr.drewN q) => isIn_any A1 c1 m zs (z : Int) V W4.heap.size (by obtain ⟨q, rfl⟩ := hV; exact (HL4.out.rd.below (below_drewN HB.out q))) HL4.out.len (by omega))
        obtain ⟨hb0, Hhb⟩ : ∃ hb0, Hid (hasB zs (z : Int) = hb0) := ⟨_, rfl⟩
        rw [Hhb.out] at HIn Hyes Hno
        cases hb0 with
        | true =>
          have HT := Lib.hid (Hyes.out rfl)
          have Hlen := Lib.hid HO.out.1
          have Hown := Lib.hid HO.out.2
          clear Hyes Hno
          go_wp2
          go_quiet ((go_at_call 20; exact quiet_gen (HIn.out _ ⟨_, rfl⟩) ⟨_, rfl⟩))
          have HB2 := Lib.hid (below_drewN HB.out nq)
          have Hown2 : Hid ((wr.drewN nq).ownsRow W4.heap.size 3 1 (.slice (some ⟨g, 0, none⟩) L c) L ((mvL a k zs).map (Value.int .i64))) := Hown.out
          have hsz : L + 1 ≤ maxLen := by unfold maxLen; omega
          have hsz2 : (L + 1) * 8 ≤ 140737488355328 := by omega
          have hsz3 : W4.heap.size ≤ ((wr.drewN nq).alloc (.cells #[.int .i64 k] 3)).heap.size := by rw [size_alloc1]; have := HB2.out.size; omega
          clear HO HB HIn
          go_wp2_with (at_builtin; refine wpList_append_lies _ rfl _ _ 25 rfl W4.heap.size 3 i0 _ 1 8 Try.underlying25 hi0 hz0 hz1 hz2 rfl (by decide) _ _ _ rfl (Hown2.out.alloc _) ⟨(wr.drewN nq).heap.size, 0, none⟩ 1 1 [.int .i64 k] rfl rfl (cell_one_new _ _ _) (by intro u hu; simp at hu; subst hu; rfl) (by decide) hsz hsz2 hsz3 _ rfl ?_; intro g3 c3 w5 hown4 hgrow4 hat4 hlt4)
          have HO4 : Hid (OwnG w5 W4.heap.size g3 c3 (L + 1) (mvL a (k + 1) zs)) := by show OwnG _ _ _ _ _ _; rw [HT.out]; exact ownG_push Hlen.out hown4
          have HB4' : Hid (Below W4.heap.size W4 w5) := (HB2.out.alloc HB2.out.size _).grown hgrow4 hsz3 (fun q hq => (Hown2.out.lt q hq).1)
          clear hown4 hgrow4 hat4 hlt4 Hown Hown2 hsz hsz2 hsz3
          go_wp2
          go_roundw
          case rel => exact ⟨k + 1, g3, c3, L + 1, by omega, by omega, rfl, by go_num, HO4, HB4'⟩
          case measure => simp [intOf]; omega
        | false =>
          have HT := Lib.hid (Hno.out rfl)
          clear Hyes Hno
          go_wp2
          go_quiet ((go_at_call 20; exact quiet_gen (HIn.out _ ⟨_, rfl⟩) ⟨_, rfl⟩))
          have HB2 := Lib.hid (below_drewN HB.out nq)
          have HO4 : Hid (OwnG (wr.drewN nq) W4.heap.size g c L (mvL a (k + 1) zs)) := by show OwnG _ _ _ _ _ _; rw [HT.out]; exact HO.out
          clear HO HB HIn
          go_wp2
          go_roundw
          case rel => exact ⟨k + 1, g, c, L, by omega, by omega, rfl, by go_num, HO4, HB2⟩
          case measure => simp [intOf]; omega
      · obtain rfl : k = n := by omega
        have HBw := Lib.hid (HB4.out.trans (HB.out.mono HB4.out.size))
        have HLw := Lib.hid (HL4.out.later HB.out)
        by_cases hlm : L = m
        · have hlb : (((L : Nat) : Int) != ((m : Nat) : Int)) = false := by subst hlm; simp
          have Hmv2 : Hid (AscP zs m → prf a b (mvL a k zs) far = p) := fun h => Hmv.out h (by rw [HO.out.1, hlm])
          obtain ⟨A9, c9, he9, hc9, hd9, hR9⟩ := own_slice HO.out.2 HO.out.1
          injection he9 with he1 he2 he3
          subst he1 he3
          have HLm : Hid (LstG wr (some ⟨g, 0, none⟩) c L (mvL a k zs)) := ⟨hR9, HO.out.1, ⟨hc9, hd9⟩, by omega⟩
          obtain ⟨p2, Hp2⟩ : ∃ p2, Hid (prf a b (mvL a k zs) far = p2) := ⟨_, rfl⟩
          rw [Hp2.out] at Hmv2
          clear hlm Hmv hR9 he2
          go_wp2_with fail
          refine (HI.out a b (some ⟨g, 0, none⟩) c L (mvL a k zs) far wr HLm.out).mono ?_
          rintro e w5 ⟨rfl, hb5⟩
          rw [Hp2.out]
          have HL5 := Lib.hid (HLw.out.later hb5)
          have HB5 := Lib.hid (HBw.out.trans (hb5.mono HBw.out.size))
          clear hb5
          by_cases hpp : p2 = p
          · subst hpp
            go_wp2
            go_ret
            exact ⟨rfl, HB5.out⟩
          · have hpb : (p2 == p) = false := by rw [beq_eq_false_iff_ne]; exact hpp
            have Has : Hid (decide (AscP zs m) = false) := decide_eq_false (fun h => hpp (Hmv2.out h))
            clear hpp
            go_wp2_with fail
            refine (ascends_any A1 c1 m zs w5 _ HL5.out.rd HL5.out.len (by omega)).mono ?_
            rintro e w6 ⟨rfl, q6, rfl⟩
            rw [Has.out]
            go_wp2
            go_ret
            exact ⟨rfl, below_drewN HB5.out q6⟩
        · have hlb : (((L : Nat) : Int) != ((m : Nat) : Int)) = true := by rw [bne_iff_ne]; omega
          clear hlm
          go_wp2
          go_ret
          exact ⟨rfl, HBw.out⟩
end Go.Proofs.Ytkgomgfhhhdnjaa
