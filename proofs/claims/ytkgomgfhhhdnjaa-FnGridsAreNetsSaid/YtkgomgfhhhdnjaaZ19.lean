/-
  The law FnGridsAreNets follows from the functions' contracts.
  Conditions: none beyond the contracts'.
-/
import Derived.Test.YtkgomgfhhhdnjaaZ10
import Derived.Test.YtkgomgfhhhdnjaaZ8
import Derived.Test.YtkgomgfhhhdnjaaZ17
import Derived.Test.YtkgomgfhhhdnjaaZ18
import Derived.Deep.AppendLies
namespace Go.Proofs.Ytkgomgfhhhdnjaa
open Go.ChangeShapes Go.WideShapes Go.ChangeAt Go.RowKit
set_option linter.unusedVariables false
set_option maxRecDepth 4000

theorem strInfo9 : (Try.prog.info? 40).map (fun i => (i.zero, i.size, i.bytes)) = some (some (.agg #[.int .i64 0, .int .i64 0, .int .i64 0]), 3, 24) := by kernel_rfl
theorem rdS_own9 {w : World} {B n : Nat} {v : Value} {ss : List Str} (h : w.ownsRow B 40 3 v n ((flat3 ss).map (Value.int .i64))) (hn : ss.length = n) :
    ∃ A c, v = .slice A n c ∧ n ≤ c ∧ c ≤ 9223372036854775807 ∧ RdS w w.heap.size A ss := by
  have h0 := h
  rcases h.2 with ⟨rfl, rfl⟩ | ⟨g, cap, cur, rfl, _, _, hnc, hmx, _⟩
  · refine ⟨none, 0, rfl, Nat.le_refl _, by omega, fun hp => ?_⟩
    rw [flat3_len] at hp; omega
  · exact ⟨_, cap, rfl, hnc, hmx, rdI_of_ownN h0 (by rw [flat3_len, hn])⟩
theorem gst_len (w n : Nat) : ∀ k, (gst w n k).length ≤ 2 * k
  | 0 => by simp [gst]
  | k + 1 => by
    have := gst_len w n k
    simp only [gst, List.length_append]
    have h1 : (gs1 w n k).length ≤ 1 := by unfold gs1; split <;> simp
    have h2 : (gs2 w n k).length ≤ 1 := by unfold gs2; split <;> simp
    omega
/-- Streets of the call's own. -/
def OwnS (wr : World) (B : Nat) (g c L : Nat) (ss : List Str) : Prop := ss.length = L ∧ wr.ownsRow B 40 3 (.slice (some ⟨g, 0, none⟩) L c) L ((flat3 ss).map (Value.int .i64))
theorem ownS_push {w3 : World} {B g3 c3 L : Nat} {ss : List Str} {x y z : Int} (h : ss.length = L) (ho : w3.ownsRow B 40 3 (.slice (some ⟨g3, 0, none⟩) (L + 1) c3) (L + 1) ((flat3 ss).map (Value.int .i64) ++ [.int .i64 x, .int .i64 y, .int .i64 z])) : OwnS w3 B g3 c3 (L + 1) (ss ++ [(x, y, z)]) :=
  ⟨by simp [h], by rw [flat3_append, List.map_append]; exact ho⟩
set_option maxHeartbeats 6400000 in
theorem lawGridsAreNets_walk (A : Option Addr) (c : Nat) (bs : List Int) (w : World) (hr : RdB w w.heap.size A bs) (hcap : bs.length ≤ c) (hm : c ≤ maxLen) :
    Calls Try.prog 8 #[.slice A bs.length c] w fun e w' => e = .returned (.bool true) ∧ Below w.heap.size w w' := by
  unfold maxLen at hm
  by_cases hb : 1048576 < bs.length
  · go_enter Try.func8, Try.ntmps8
    go_wp2
    go_ret
    exact ⟨rfl, Below.refl _ _⟩
  · have H := Lib.hid (drawGridCover_any A c bs.length bs w hr rfl hcap hm)
    have HI := Lib.hid iGridCover_ok
    have HA := Lib.hid iGridApart_ok
    have HS := Lib.hid sGridCover_ok
    have HNC := Lib.hid iNetCover_ok
    have HNA := Lib.hid iNetApart_ok
    clear hr
    go_enter Try.func8, Try.ntmps8
    go_wp2_with fail
    refine H.out.mono ?_
    rintro e w1 ⟨x, y, far, rfl, hB1⟩
    obtain ⟨i0, hi0, hz0, hz1, hz2⟩ := info_parts strInfo9
    have HB1 := Lib.hid hB1
    have hbn : ∀ x : Int, (x != x) = false := fun x => by simp
    have hbe : ∀ x : Int, (x == x) = true := fun x => by simp
    have hrng := gcv_rng x y far
    obtain ⟨v, Hv⟩ : ∃ v, Hid (gcv x y far = v) := ⟨_, rfl⟩
    rw [Hv.out] at hrng
    clear hB1
    go_wp2_with fail
    refine (HI.out x y far w1).mono ?_
    rintro e w2 ⟨rfl, hb2⟩
    rw [Hv.out]
    have HB2 := Lib.hid (HB1.out.trans (hb2.mono HB1.out.size))
    clear hb2
    go_wp2_with fail
    refine (HS.out x y far w2).mono ?_
    rintro e w3 ⟨rfl, hb3⟩
    rw [Hv.out]
    have HB3 := Lib.hid (HB2.out.trans (hb3.mono HB2.out.size))
    clear hb3
    go_wp2_with fail
    refine (HI.out x y far w3).mono ?_
    rintro e w4 ⟨rfl, hb4⟩
    rw [Hv.out]
    have HB4 := Lib.hid (HB3.out.trans (hb4.mono HB3.out.size))
    clear hb4
    by_cases hneg : v < 0
    · go_wp2
      go_ret
      exact ⟨rfl, HB4.out⟩
    · obtain ⟨k1, k2, k3⟩ := gcv_has (show 0 ≤ gcv x y far by rw [Hv.out]; omega)
      obtain ⟨a, b, rfl, rfl, g⟩ := gok_nat k1
      have hmm : (a : Int) * (b : Int) = ((a * b : Nat) : Int) := (Int.natCast_mul a b).symm
      have hn10 := g.n10
      have haw := g.w1
      have haw5 := g.w5
      have Hfacts : Hid (a * b ≤ 7 → ncv ((a * b : Nat) : Int) (gst a (a * b) (a * b)) far = gcv a b far ∧ nap ((a * b : Nat) : Int) (gst a (a * b) (a * b)) far = gpk a b far) := fun h7 => gnet_facts g h7 k2 k3
      have Hwf := Lib.hid (wf_small (n := far) (by omega))
      obtain ⟨n, Hn⟩ : ∃ n, Hid (a * b = n) := ⟨_, rfl⟩
      rw [Hn.out] at hmm hn10 Hfacts
      rw [Hv.out] at Hfacts
      clear k1 g
      by_cases h7 : 7 < n
      · have h7' : (7 : Int) < (n : Int) := by omega
        go_wp2
        go_ret
        exact ⟨rfl, HB4.out⟩
      · have h7' : ¬ (7 : Int) < (n : Int) := by omega
        obtain ⟨f1, f2⟩ := Hfacts.out (by omega)
        have F1 := Lib.hid f1
        have F2 := Lib.hid f2
        have hgl := gst_len a n n
        have hane : ¬ (a : Int) = 0 := by omega
        have haz : ((a : Int) == 0) = false := by rw [beq_eq_false_iff_ne]; exact hane
        have HO0 : Hid (OwnS (w4.alloc (.cells #[] 40)) w4.heap.size w4.heap.size 0 0 (gst a n 0)) := ⟨rfl, World.ownsRow_lit w4 #[] 0 (Nat.le_refl _) (by decide) rfl⟩
        have HBa : Hid (Below w4.heap.size w4 (w4.alloc (.cells #[] 40))) := (Below.refl _ _).alloc (Nat.le_refl _) _
        obtain ⟨W4, HW4⟩ : ∃ W4, Hid (w4 = W4) := ⟨_, rfl⟩
        clear Hfacts f1 f2
        go_wp2
        go_loopw [7, 8] (fun o i wr => ∃ k g c L : Nat, k ≤ n ∧ L ≤ 2 * k ∧ o = .slice (some ⟨g, 0, none⟩) L c ∧ i = .int .i64 k ∧ Hid (OwnS wr W4.heap.size g c L (gst a n k)) ∧ Hid (Below W4.heap.size W4 wr)) (fun _ i _ => n - (intOf i).toNat)
        case atStart =>
          have e := HW4.out
          subst e
          exact ⟨0, _, 0, 0, by omega, by omega, rfl, rfl, HO0, HBa⟩
        case round =>
          rw [HW4.out] at HB4
          clear HO0 HBa HW4
          obtain ⟨k, g, c, L, hk, hLk, rfl, rfl, HO, HB⟩ := hrel
          by_cases hlt : k < n
          · have hL20 : L ≤ 20 := by omega
            have e2 : (k : Int).tmod (a : Int) = ((k % a : Nat) : Int) := (Int.ofNat_tmod k a).symm
            have l2 := Nat.mod_lt k haw
            obtain ⟨x, Hx⟩ : ∃ x, Hid (k % a = x) := ⟨_, rfl⟩
            rw [Hx.out] at e2 l2
            by_cases h1 : x + 1 < a
            · have h1' : (x : Int) + 1 < (a : Int) := by omega
              by_cases h2 : k + a < n
              · have h2' : (k : Int) + (a : Int) < (n : Int) := by omega
                have Hst : Hid (gst a n (k + 1) = gst a n k ++ [((k : Int), (k : Int) + 1, 1)] ++ [((k : Int), (k : Int) + (a : Int), 1)]) := by show _ = _; simp only [gst]; unfold gs1 gs2; rw [if_pos (by rw [Hx.out]; exact h1), if_pos h2]
                have Hlen7 := Lib.hid HO.out.1
                have Hown7 := Lib.hid HO.out.2
                have hsz7 : Hid (L + 1 ≤ maxLen) := by show _ ≤ _; unfold maxLen; omega
                have hszb7 : (L + 1) * 24 ≤ 140737488355328 := Nat.le_trans (Nat.mul_le_mul_right 24 (Nat.succ_le_succ hL20)) (by decide)
                have hszc7 : Hid (W4.heap.size ≤ (wr.alloc (.cells #[.int .i64 (k : Int), .int .i64 ((k : Int) + 1), .int .i64 1] 40)).heap.size) := by show _ ≤ _; rw [size_alloc1]; have := HB.out.size; omega
                have hsz8 : Hid (L + 1 + 1 ≤ maxLen) := by show _ ≤ _; unfold maxLen; omega
                have hszb8 : (L + 1 + 1) * 24 ≤ 140737488355328 := Nat.le_trans (Nat.mul_le_mul_right 24 (Nat.succ_le_succ (Nat.succ_le_succ hL20))) (by decide)
                go_wp2_with (first
                  | (at_builtin; refine wpList_append_lies _ rfl _ _ 38 rfl W4.heap.size 40 i0 _ 3 24 Try.underlying38 hi0 hz0 hz1 hz2 rfl (by decide) _ _ _ rfl (Hown8.out.alloc _) ⟨w7.heap.size, 0, none⟩ 1 1 [.int .i64 (k : Int), .int .i64 ((k : Int) + (a : Int)), .int .i64 1] rfl rfl (World.news_of_block (cs := #[.int .i64 (k : Int), .int .i64 ((k : Int) + (a : Int)), .int .i64 1]) (t := 40) (fr := (0, 0)) (heap_alloc_new w7 _)) (by simp [Value.oneCell']) (by decide) hsz8.out hszb8 hszc8.out _ rfl ?_; intro g8 c8 w8 hown8 hgrow8 hat8 hlt8; have HO8 : Hid (OwnS w8 W4.heap.size g8 c8 (L + 1 + 1) (gst a n k ++ [((k : Int), (k : Int) + 1, 1)] ++ [((k : Int), (k : Int) + (a : Int), 1)])) := ownS_push Hlen8.out hown8; have HB8 : Hid (Below W4.heap.size W4 w8) := (HB7.out.alloc HB7.out.size _).grown hgrow8 hszc8.out (fun q hq => (Hown8.out.lt q hq).1); clear hown8 hgrow8 hat8 hlt8)
                  | (at_builtin; refine wpList_append_lies _ rfl _ _ 38 rfl W4.heap.size 40 i0 _ 3 24 Try.underlying38 hi0 hz0 hz1 hz2 rfl (by decide) _ _ _ rfl (Hown7.out.alloc _) ⟨wr.heap.size, 0, none⟩ 1 1 [.int .i64 (k : Int), .int .i64 ((k : Int) + 1), .int .i64 1] rfl rfl (World.news_of_block (cs := #[.int .i64 (k : Int), .int .i64 ((k : Int) + 1), .int .i64 1]) (t := 40) (fr := (0, 0)) (heap_alloc_new wr _)) (by simp [Value.oneCell']) (by decide) hsz7.out hszb7 hszc7.out _ rfl ?_; intro g7 c7 w7 hown7 hgrow7 hat7 hlt7; have HO7 : Hid (OwnS w7 W4.heap.size g7 c7 (L + 1) (gst a n k ++ [((k : Int), (k : Int) + 1, 1)])) := ownS_push Hlen7.out hown7; have HB7 : Hid (Below W4.heap.size W4 w7) := (HB.out.alloc HB.out.size _).grown hgrow7 hszc7.out (fun q hq => (Hown7.out.lt q hq).1); have Hlen8 := Lib.hid HO7.out.1; have Hown8 := Lib.hid HO7.out.2; have hszc8 : Hid (W4.heap.size ≤ (w7.alloc (.cells #[.int .i64 (k : Int), .int .i64 ((k : Int) + (a : Int)), .int .i64 1] 40)).heap.size) := (by show _ ≤ _; rw [size_alloc1]; have := HB7.out.size; omega); clear hown7 hgrow7 hat7 hlt7))
                have HOz : Hid (OwnS w8 W4.heap.size g8 c8 (L + 1 + 1) (gst a n (k + 1))) := by show OwnS _ _ _ _ _ _; rw [Hst.out]; exact HO8.out
                clear Hown7 Hlen7 Hown8 Hlen8 hsz7 hszb7 hszc7 hsz8 hszb8 hszc8
                go_wp2
                go_roundw
                case rel => exact ⟨k + 1, g8, c8, L + 1 + 1, Nat.succ_le_of_lt hlt, (Nat.succ_le_succ (Nat.succ_le_succ hLk) : L + 1 + 1 ≤ 2 * (k + 1)), rfl, by go_num, HOz, HB8⟩
                case measure => simp [intOf]; omega
              · have h2' : ¬ (k : Int) + (a : Int) < (n : Int) := by omega
                have Hst : Hid (gst a n (k + 1) = gst a n k ++ [((k : Int), (k : Int) + 1, 1)]) := by show _ = _; simp only [gst]; unfold gs1 gs2; rw [if_pos (by rw [Hx.out]; exact h1), if_neg h2]; simp
                have Hlen7 := Lib.hid HO.out.1
                have Hown7 := Lib.hid HO.out.2
                have hsz7 : L + 1 ≤ maxLen := Nat.le_trans (Nat.succ_le_succ hL20) (by decide)
                have hszb7 : (L + 1) * 24 ≤ 140737488355328 := Nat.le_trans (Nat.mul_le_mul_right 24 (Nat.succ_le_succ hL20)) (by decide)
                have hszc7 : Hid (W4.heap.size ≤ (wr.alloc (.cells #[.int .i64 (k : Int), .int .i64 ((k : Int) + 1), .int .i64 1] 40)).heap.size) := by show _ ≤ _; rw [size_alloc1]; have := HB.out.size; omega
                go_wp2_with (at_builtin; refine wpList_append_lies _ rfl _ _ 38 rfl W4.heap.size 40 i0 _ 3 24 Try.underlying38 hi0 hz0 hz1 hz2 rfl (by decide) _ _ _ rfl (Hown7.out.alloc _) ⟨wr.heap.size, 0, none⟩ 1 1 [.int .i64 (k : Int), .int .i64 ((k : Int) + 1), .int .i64 1] rfl rfl (World.news_of_block (cs := #[.int .i64 (k : Int), .int .i64 ((k : Int) + 1), .int .i64 1]) (t := 40) (fr := (0, 0)) (heap_alloc_new wr _)) (by simp [Value.oneCell']) (by decide) hsz7 hszb7 hszc7.out _ rfl ?_; intro g7 c7 w7 hown7 hgrow7 hat7 hlt7)
                have HO7 : Hid (OwnS w7 W4.heap.size g7 c7 (L + 1) (gst a n k ++ [((k : Int), ((k : Int) + 1), 1)])) := ownS_push Hlen7.out hown7
                have HB7 : Hid (Below W4.heap.size W4 w7) := (HB.out.alloc HB.out.size _).grown hgrow7 hszc7.out (fun q hq => (Hown7.out.lt q hq).1)
                clear hown7 hgrow7 hat7 hlt7 Hown7 Hlen7 hsz7 hszb7 hszc7
                have HOz : Hid (OwnS w7 W4.heap.size g7 c7 (L + 1) (gst a n (k + 1))) := by show OwnS _ _ _ _ _ _; rw [Hst.out]; exact HO7.out
                go_wp2
                go_roundw
                case rel => exact ⟨k + 1, g7, c7, (L + 1), Nat.succ_le_of_lt hlt, (Nat.le_succ_of_le (Nat.succ_le_succ hLk) : L + 1 ≤ 2 * (k + 1)), rfl, by go_num, HOz, HB7⟩
                case measure => simp [intOf]; omega
            · have h1' : ¬ (x : Int) + 1 < (a : Int) := by omega
              by_cases h2 : k + a < n
              · have h2' : (k : Int) + (a : Int) < (n : Int) := by omega
                have Hst : Hid (gst a n (k + 1) = gst a n k ++ [((k : Int), (k : Int) + (a : Int), 1)]) := by show _ = _; simp only [gst]; unfold gs1 gs2; rw [if_neg (by rw [Hx.out]; exact h1), if_pos h2]; simp
                have Hlen8 := Lib.hid HO.out.1
                have Hown8 := Lib.hid HO.out.2
                have hsz8 : L + 1 ≤ maxLen := Nat.le_trans (Nat.succ_le_succ hL20) (by decide)
                have hszb8 : (L + 1) * 24 ≤ 140737488355328 := Nat.le_trans (Nat.mul_le_mul_right 24 (Nat.succ_le_succ hL20)) (by decide)
                have hszc8 : Hid (W4.heap.size ≤ (wr.alloc (.cells #[.int .i64 (k : Int), .int .i64 ((k : Int) + (a : Int)), .int .i64 1] 40)).heap.size) := by show _ ≤ _; rw [size_alloc1]; have := HB.out.size; omega
                go_wp2_with (at_builtin; refine wpList_append_lies _ rfl _ _ 38 rfl W4.heap.size 40 i0 _ 3 24 Try.underlying38 hi0 hz0 hz1 hz2 rfl (by decide) _ _ _ rfl (Hown8.out.alloc _) ⟨wr.heap.size, 0, none⟩ 1 1 [.int .i64 (k : Int), .int .i64 ((k : Int) + (a : Int)), .int .i64 1] rfl rfl (World.news_of_block (cs := #[.int .i64 (k : Int), .int .i64 ((k : Int) + (a : Int)), .int .i64 1]) (t := 40) (fr := (0, 0)) (heap_alloc_new wr _)) (by simp [Value.oneCell']) (by decide) hsz8 hszb8 hszc8.out _ rfl ?_; intro g8 c8 w8 hown8 hgrow8 hat8 hlt8)
                have HO8 : Hid (OwnS w8 W4.heap.size g8 c8 (L + 1) (gst a n k ++ [((k : Int), ((k : Int) + (a : Int)), 1)])) := ownS_push Hlen8.out hown8
                have HB8 : Hid (Below W4.heap.size W4 w8) := (HB.out.alloc HB.out.size _).grown hgrow8 hszc8.out (fun q hq => (Hown8.out.lt q hq).1)
                clear hown8 hgrow8 hat8 hlt8 Hown8 Hlen8 hsz8 hszb8 hszc8
                have HOz : Hid (OwnS w8 W4.heap.size g8 c8 (L + 1) (gst a n (k + 1))) := by show OwnS _ _ _ _ _ _; rw [Hst.out]; exact HO8.out
                go_wp2
                go_roundw
                case rel => exact ⟨k + 1, g8, c8, (L + 1), Nat.succ_le_of_lt hlt, (Nat.le_succ_of_le (Nat.succ_le_succ hLk) : L + 1 ≤ 2 * (k + 1)), rfl, by go_num, HOz, HB8⟩
                case measure => simp [intOf]; omega
              · have h2' : ¬ (k : Int) + (a : Int) < (n : Int) := by omega
                have Hst : Hid (gst a n (k + 1) = gst a n k) := by show _ = _; simp only [gst]; unfold gs1 gs2; rw [if_neg (by rw [Hx.out]; exact h1), if_neg h2]; simp
                have HOz : Hid (OwnS wr W4.heap.size g c L (gst a n (k + 1))) := by show OwnS _ _ _ _ _ _; rw [Hst.out]; exact HO.out
                go_wp2
                go_roundw
                case rel => exact ⟨k + 1, g, c, L, Nat.succ_le_of_lt hlt, (Nat.le_succ_of_le (Nat.le_succ_of_le hLk) : L ≤ 2 * (k + 1)), rfl, by go_num, HOz, HB⟩
                case measure => simp [intOf]; omega
          · obtain rfl : k = n := by omega
            have HBw := Lib.hid (HB4.out.trans (HB.out.mono HB4.out.size))
            obtain ⟨A9, c9, he9, hc9, hd9, hR9⟩ := rdS_own9 HO.out.2 HO.out.1
            injection he9 with he1 he2 he3
            subst he1 he3
            have N1 : Hid (NetIn wr (some ⟨g, 0, none⟩) c L (k : Int) (gst a k k)) := ⟨hR9, HO.out.1, ⟨hc9, hd9⟩, by omega, wf_small (by omega)⟩
            obtain ⟨p, Hp⟩ : ∃ p, Hid (gpk a b far = p) := ⟨_, rfl⟩
            rw [Hp.out] at F2
            clear hR9 he2
            go_wp2_with fail
            refine (HNC.out _ _ _ (k : Int) (gst a k k) far wr N1.out Hwf.out).mono ?_
            rintro e w5 ⟨rfl, hb5⟩
            rw [F1.out]
            have N2 := Lib.hid (N1.out.later hb5)
            have HB5 := Lib.hid (HBw.out.trans (hb5.mono HBw.out.size))
            clear hb5
            go_wp2_with fail
            refine (HNA.out _ _ _ (k : Int) (gst a k k) far w5 N2.out Hwf.out).mono ?_
            rintro e w6 ⟨rfl, hb6⟩
            rw [F2.out]
            have HB6 := Lib.hid (HB5.out.trans (hb6.mono HB5.out.size))
            clear hb6
            go_wp2_with fail
            refine (HA.out a b far w6).mono ?_
            rintro e w7 ⟨rfl, hb7⟩
            rw [Hp.out]
            have HB7 := Lib.hid (HB6.out.trans (hb7.mono HB6.out.size))
            clear hb7
            go_wp2
            go_ret
            exact ⟨rfl, HB7.out⟩
end Go.Proofs.Ytkgomgfhhhdnjaa
