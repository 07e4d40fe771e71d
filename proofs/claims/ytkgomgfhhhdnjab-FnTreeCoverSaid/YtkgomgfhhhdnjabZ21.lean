/-
  TreeCover: the program answers the model's cover.
  Conditions: fewer than 2^60 roads.
  The drawn arguments of the laws on trees: a tree alone.
  Conditions: none beyond what each theorem states.
  The drawn arguments of TreeTable, TreeCover and TreeApart.
  Conditions: none beyond what each theorem states.
  The law FnTreeCover: in trees as many as cover are apart, and so many cover the net of the roads.
  Conditions: none.
-/
import Derived.Test.YtkgomgfhhhdnjabZ19
import Derived.Test.YtkgomgfhhhdnjabZ20
import Derived.Test.YtkgomgfhhhdnjabZ18
import Derived.Test.YtkgomgfhhhdnjabZ15
import Derived.Test.YtkgomgfhhhdnjabZ1
import Derived.Test.YtkgomgfhhhdnjabZ11
namespace Go.Proofs.Ytkgomgfhhhdnjab
open Go.ChangeShapes Go.WideShapes Go.ChangeAt Go.RowKit
set_option linter.unusedVariables false
set_option maxRecDepth 4000

theorem deep_of {t : List (Int × Int)} {n : Nat} {ord : List Nat} (h : SortO t n n ord) : Deep t n ord := ⟨h.all.1, h.all.2.1, h.all.2.2, h.srt⟩
theorem grown_drewN {a w : World} {row : Option Nat} (h : a.grownBy w row) (q : Nat) : a.grownBy (w.drewN q) row := ⟨h.os, h.tape, h.output, h.size, h.block⟩
/-- What the loop over the nodes keeps. -/
def CovI (w6 : World) (t : List (Int × Int)) (far : Int) (n : Nat) (T : Int) (R : Nat) (ord : List Nat) (o i : Value) (wr : World) : Prop :=
  ∃ out k : Nat, ∃ has : Nat → Bool, k ≤ n ∧ o = .int .i64 out ∧ i = .int .i64 k ∧ leftC has n + out ≤ n ∧ Hid (T = out + covC t (dn t n) far n (n - out) has) ∧ Hid (∀ j, j < k → has (ord.getD j 0) = true) ∧
    wr.heap[R]? = some (.cells (hrow has n).toArray 4 (0, 0)) ∧ w6.grownBy wr (some R)
/-- A node that has none near: one helper more. -/
theorem cov_step {t : List (Int × Int)} (ht : Ahead t) {far T : Int} {n k out : Nat} {has : Nat → Bool} {ord : List Nat} (hn : n ≤ t.length) (hfar : 0 ≤ far) (hd : Deep t n ord) (hk : k < n) (hall : ∀ j, j < k → has (ord.getD j 0) = true) (hf : has (ord.getD k 0) = false)
    (hl : leftC has n + out ≤ n) (hT : T = out + covC t (dn t n) far n (n - out) has) {z : Nat} (hz : clmC t (dn t n) far (ord.getD k 0) (ord.getD k 0) (ord.getD k 0) = z) :
    z < n ∧ leftC (addC (dn t n) far has z) n + (out + 1) ≤ n ∧ T = ((out + 1 : Nat) : Int) + covC t (dn t n) far n (n - (out + 1)) (addC (dn t n) far has z) ∧ ∀ j, j < k + 1 → addC (dn t n) far has z (ord.getD j 0) = true := by
  have hfst := deep_first hd hk hall hf
  have han := hd.2.1 k hk
  have hlt := left_next ht hn hfar hfst
  obtain ⟨hz1, hz2⟩ := clmC_is ht (d := dn t n) (far := far) (a := ord.getD k 0) (ord.getD k 0) (ord.getD k 0) (by omega) (by rw [dn_diag t n _ han]; exact hfar)
  rw [hz] at hlt hz1 hz2
  refine ⟨by omega, by omega, ?_, fun j hj => ?_⟩
  · obtain ⟨f, hf'⟩ : ∃ f, n - out = f + 1 := ⟨n - out - 1, by omega⟩
    rw [hf', covC_next hfst, hz] at hT
    rw [hT, show n - (out + 1) = f by omega]
    omega
  · by_cases e : j = k
    · subst e
      rw [dn_symm] at hz2
      unfold addC
      rw [decide_eq_true hz2, Bool.or_true]
    · unfold addC
      rw [hall j (by omega), Bool.true_or]
theorem cov_end {t : List (Int × Int)} {far T : Int} {n out : Nat} {has : Nat → Bool} {ord : List Nat} (hd : Deep t n ord) (hall : ∀ j, j < n → has (ord.getD j 0) = true) (hT : T = out + covC t (dn t n) far n (n - out) has) : T = out := by
  rw [covC_end (deep_end hd hall)] at hT
  simpa using hT

set_option maxHeartbeats 1600000 in
theorem iTreeCover_any (A : Option Addr) (c n : Nat) (ts : List (Int × Int)) (far : Int) (w : World) (hr : RdR w w.heap.size A ts) (hn : ts.length = n) (hc : n ≤ c) (hb : n ≤ 1152921504606846976) (hwa : (Lit.int .i64 far).wf = true) :
    Calls Try.prog 29 #[.slice A n c, .int .i64 far] w fun e w' => e = .returned (.int .i64 (cvv ts far)) ∧ Below w.heap.size w w' := by
  obtain ⟨i0, hi0, hz0, hz1, hz2⟩ := info_parts boolInfo
  have hb1 := (Below.refl w.heap.size w).alloc (Nat.le_refl _) (.cells #[.int .i64 far] 3)
  have hr1 := (hr.below hb1).more hb1.size
  have c1 : (w.alloc (.cells #[.int .i64 far] 3)).cell? ⟨w.heap.size, 0, none⟩ = some (.int .i64 far) := by
    rw [cell_of_row _ _ _ _ _ _ (heap_alloc_new w _)]; rfl
  have HC := Lib.hid c1
  have HB := Lib.hid hb1
  by_cases hv : vt ts = true
  · have H1 := Lib.hid (iValidTree_is A c n ts _ _ hr1 hn hc hb (Nat.le_refl _) hv)
    by_cases hf : far < 0 ∨ 50 < far
    · have Hs := Lib.hid (cvv_no (t := ts) (.inr hf))
      have H2 := Lib.hid (fun w2 => farOk_no far w2 hf)
      clear hv hf hr hn hr1 c1 hb1 hwa
      go_enter Try.func29, Try.ntmps29
      go_wp2_with fail
      refine H1.out.mono ?_
      rintro e w2 ⟨rfl, hnx2⟩
      have c2 : w2.cell? ⟨w.heap.size, 0, none⟩ = some (.int .i64 far) := (hnx2.cell (p := ⟨w.heap.size, 0, none⟩) (by rw [size_alloc1]; exact Nat.lt_succ_self _)).trans HC.out
      have HB2 := Lib.hid (HB.out.trans (hnx2.mono HB.out.size))
      clear hnx2
      go_wp2_with fail
      refine (H2.out w2).mono ?_
      rintro e w' ⟨rfl, rfl⟩
      go_wp2
      go_ret
      exact ⟨ret_int Hs.out.symm, HB2.out⟩
    · obtain ⟨h1, h7, -⟩ := (vt_iff ts).1 hv
      rw [hn] at h1 h7
      have H2 := Lib.hid (fun w2 => farOk_yes far w2 (by omega) (by omega))
      have Hs := Lib.hid (cvv_yes hv (show 0 ≤ far by omega) (show far ≤ 50 by omega))
      rw [hn] at Hs
      obtain ⟨T, HT⟩ : ∃ T, Hid (((covC ts (dn ts n) far n n (fun _ => false) : Nat) : Int) = T) := ⟨_, rfl⟩
      rw [HT.out] at Hs
      have hfar0 : 0 ≤ far := by omega
      have Hr1 := Lib.hid hr1
      have Hn := Lib.hid hn
      have Hv := Lib.hid hv
      clear hv hf hr hn hr1 c1 hb1
      go_enter Try.func29, Try.ntmps29
      go_wp2_with fail
      refine H1.out.mono ?_
      rintro e w2 ⟨rfl, hnx2⟩
      have c2 : w2.cell? ⟨w.heap.size, 0, none⟩ = some (.int .i64 far) := (hnx2.cell (p := ⟨w.heap.size, 0, none⟩) (by rw [size_alloc1]; exact Nat.lt_succ_self _)).trans HC.out
      have hszw2 : w.heap.size < w2.heap.size := Nat.lt_of_lt_of_le (by rw [size_alloc1]; exact Nat.lt_succ_self _) hnx2.size
      have Hl := Lib.hid (linked_any A c n ts w2 ((Hr1.out.below hnx2).more hnx2.size) Hn.out hc Hv.out)
      have HB2 := Lib.hid (HB.out.trans (hnx2.mono HB.out.size))
      clear hnx2
      go_wp2_with fail
      refine (H2.out w2).mono ?_
      rintro e w' ⟨rfl, rfl⟩
      go_wp2_with fail
      refine Hl.out.mono ?_
      rintro e w3 ⟨v, P, RV, rfl, hlk, hown, hnx3⟩
      rw [Hn.out] at hlk hown
      obtain ⟨A', c', rfl, -, -, hA⟩ := own_sliceN hown
      obtain ⟨gn, rfl, -, -⟩ := hA (by omega)
      have hb3 := HB2.out.trans (hnx3.mono HB2.out.size)
      have c3 : w3.cell? ⟨w.heap.size, 0, none⟩ = some (.int .i64 far) := (hnx3.cell (p := ⟨w.heap.size, 0, none⟩) hszw2).trans c2
      have hszw3 : w.heap.size < w3.heap.size := Nat.lt_of_lt_of_le hszw2 hnx3.size
      have HLK := Lib.hid hlk
      have HON := Lib.hid hown
      have HB3 := Lib.hid hb3
      have HC3 := Lib.hid c3
      clear hlk hown hnx3 hA hb3 c2 c3
      have hbm : i0.bytes * n ≤ 281474976710656 := by rw [hz2]; omega
      have hml : n ≤ maxLen := by unfold maxLen; omega
      go_wp2_with (at_make; refine wpList_make_full _ rfl _ _ 84 rfl w.heap.size 4 i0 _ 1 Try.underlying84 hi0 hz0 hz1 _ _ _ _ n rfl rfl rfl rfl hbm hml HB3.out.size ?_; intro w4 hown4 hg4)
      rw [made_none] at hown4
      have hgw3 := (own_heap HON.out (g := gn) rfl).2.2
      have hb34 : Below w3.heap.size w3 w4 := (Below.refl _ _).grown hg4 (Nat.le_refl _) (fun j hj => by cases hj)
      have hR4 := own_blockN hown4
      obtain ⟨R, HR⟩ : ∃ R, Hid (w3.heap.size = R) := ⟨_, rfl⟩
      rw [HR.out] at hR4
      have hRlt : R < w4.heap.size := (Array.getElem?_eq_some_iff.1 hR4).1
      rw [HR.out]
      have hb45 := (Below.refl w4.heap.size w4).alloc (Nat.le_refl _) (.cells #[.slice (some ⟨R, 0, none⟩) n n] 84)
      have hb35 := hb34.trans (hb45.mono hb34.size)
      have hR5 : (w4.alloc (.cells #[.slice (some ⟨R, 0, none⟩) n n] 84)).heap[R]? = some (.cells (hrow (fun _ => false) n).toArray 4 (0, 0)) := (heap_alloc_old w4 _ hRlt).trans hR4
      have cS5 : (w4.alloc (.cells #[.slice (some ⟨R, 0, none⟩) n n] 84)).cell? ⟨w4.heap.size, 0, none⟩ = some (.slice (some ⟨R, 0, none⟩) n n) := by
        rw [cell_of_row _ _ _ _ _ _ (heap_alloc_new w4 _)]; rfl
      have cF5 : (w4.alloc (.cells #[.slice (some ⟨R, 0, none⟩) n n] 84)).cell? ⟨w.heap.size, 0, none⟩ = some (.int .i64 far) := (hb35.cell (p := ⟨w.heap.size, 0, none⟩) hszw3).trans HC3.out
      have hlk5 := HLK.out.below hb35
      have hD := deepest_any P RV w2.heap.size n c' gn ts _ (vt_ahead Hv.out) (by rw [Hn.out]; exact Nat.le_refl _) h1 h7 hlk5 (Nat.lt_of_lt_of_le hgw3 hb35.size) (fun j hj => by
        rw [hb35.cell (p := ⟨gn, j, none⟩) hgw3, HON.out.cellAt j (by omega)]
        simp [ptrs, ptr, hj])
      have hPR : ∀ i, i < n → P i ≠ R := fun i hi => by have := HLK.out.lt hi; have := HR.out; omega
      have hSR : w4.heap.size ≠ R := by omega
      have hFR : w.heap.size ≠ R := by have := HR.out; omega
      have hwR : w.heap.size ≤ R := by have := HR.out; omega
      have hsz5 : R < (w4.alloc (.cells #[.slice (some ⟨R, 0, none⟩) n n] 84)).heap.size := Nat.lt_of_lt_of_le hRlt hb45.size
      have hszS : w4.heap.size < (w4.alloc (.cells #[.slice (some ⟨R, 0, none⟩) n n] 84)).heap.size := by rw [size_alloc1]; exact Nat.lt_succ_self _
      have hszF : w.heap.size < (w4.alloc (.cells #[.slice (some ⟨R, 0, none⟩) n n] 84)).heap.size := by omega
      have HB5 := Lib.hid (HB3.out.trans (hb35.mono HB3.out.size))
      have HD := Lib.hid hD
      have HR5 := Lib.hid hR5
      have HS5 := Lib.hid cS5
      have HF5 := Lib.hid cF5
      have HLK5 := Lib.hid hlk5
      have HPR := Lib.hid hPR
      have HSZ5 := Lib.hid hsz5
      have HSZS := Lib.hid hszS
      have HSZF := Lib.hid hszF
      clear hown4 hg4 hb34 hR4 hRlt hb45 hb35 hR5 cS5 cF5 hlk5 hD hPR hsz5 hszS hszF hgw3
      go_wp2_with fail
      refine HD.out.mono ?_
      rintro e w6 ⟨g, cap, ord, rfl, hcap, hO, hS⟩
      have hbel := hS.bel
      have HB6 := Lib.hid (HB5.out.trans (hbel.mono HB5.out.size))
      have HDP := Lib.hid (deep_of hO)
      have hcell : ∀ k, k < n → w6.cell? ⟨g, k, none⟩ = some (.pointer (some ⟨P (ord.getD k 0), 0, none⟩)) := fun k hk => (hS.cells hO.all.1 hk).1
      have HCELL := Lib.hid hcell
      have hgR : g ≠ R := by have := hS.ge; have := HSZ5.out; omega
      have HR6 := Lib.hid ((hbel.block R HSZ5.out).trans HR5.out)
      have HS6 := Lib.hid ((hbel.cell (p := ⟨w4.heap.size, 0, none⟩) HSZS.out).trans HS5.out)
      have HF6 := Lib.hid ((hbel.cell (p := ⟨w.heap.size, 0, none⟩) HSZF.out).trans HF5.out)
      have HLK6 := Lib.hid (HLK5.out.below hbel)
      clear hbel hO hS hcell
      go_wp2
      go_loopw [7, 26] (fun o i wr => CovI w6 ts far n T R ord o i wr) (fun _ i _ => n - (intOf i).toNat)
      case atStart => exact ⟨0, 0, _, Nat.zero_le _, rfl, rfl, by rw [leftC_none]; exact Nat.le_refl _, by show T = _; rw [← HT.out]; simp, fun j hj => by omega, HR6.out, grown_refl _ _⟩
      case round =>
        obtain ⟨out, k, has, hk, rfl, rfl, hleft, HTT, HALL, hRr, hgr⟩ := hrel
        by_cases hlt : k < n
        · obtain ⟨a, Ha⟩ : ∃ a, Hid (ord.getD k 0 = a) := ⟨_, rfl⟩
          have han := HDP.out.2.1 k hlt
          have cg : wr.cell? ⟨g, k, none⟩ = some (.pointer (some ⟨P (ord.getD k 0), 0, none⟩)) := (World.cell?_of_block (hgr.block _ (World.block_lt_of_cell? w6 _ (HCELL.out k hlt)) (fun e => hgR (by injection e)))).trans (HCELL.out k hlt)
          rw [Ha.out] at han cg
          have cS : wr.cell? ⟨w4.heap.size, 0, none⟩ = some (.slice (some ⟨R, 0, none⟩) n n) := (World.cell?_of_block (hgr.block _ (World.block_lt_of_cell? w6 _ HS6.out) (fun e => hSR (by injection e)))).trans HS6.out
          have cF : wr.cell? ⟨w.heap.size, 0, none⟩ = some (.int .i64 far) := (World.cell?_of_block (hgr.block _ (World.block_lt_of_cell? w6 _ HF6.out) (fun e => hFR (by injection e)))).trans HF6.out
          have lk := HLK6.out.kept hgr (fun g e _ => by injection e with e; subst e; exact ⟨_, _, _, HR6.out, by decide, by decide⟩)
          obtain ⟨cn, -, -, -, -⟩ := lk.cells han
          have cR : wr.cell? ⟨R, a, none⟩ = some (.bool (has a)) := by
            rw [cell_of_row _ _ _ _ _ _ hRr]
            simp only [List.getElem?_toArray]
            exact hrow_at _ han
          have hza : (0 : Int) ≤ (a : Int) := by omega
          have hzn : (a : Int) < (n : Int) := by omega
          have HRr := Lib.hid hRr
          have HGR := Lib.hid hgr
          have HLKr := Lib.hid lk
          clear hRr hgr lk
          cases hh : has a with
          | true =>
            rw [hh] at cR
            have HALL2 := Lib.hid (show ∀ j, j < k + 1 → has (ord.getD j 0) = true from fun j hj => by
              by_cases e : j = k
              · subst e; rw [Ha.out]; exact hh
              · exact HALL.out j (by omega))
            clear hh
            go_wp2
            go_quiet (fail)
            have hgq := Lib.hid (grown_drewN HGR.out nq)
            go_wp2
            go_roundw
            case rel => exact ⟨out, k + 1, has, by omega, rfl, by go_num, hleft, HTT, HALL2, HRr.out, hgq.out⟩
            case measure => simp [intOf]; omega
          | false =>
            rw [hh] at cR
            obtain ⟨z, Hz⟩ : ∃ z, Hid (clmC ts (dn ts n) far (ord.getD k 0) (ord.getD k 0) (ord.getD k 0) = z) := ⟨_, rfl⟩
            obtain ⟨hzlt, hleft2, hT2, hall2⟩ := cov_step (vt_ahead Hv.out) (far := far) (T := T) (n := n) (by rw [Hn.out]; exact Nat.le_refl _) hfar0 HDP.out hlt HALL.out (by rw [Ha.out]; exact hh) hleft HTT.out Hz.out
            rw [Ha.out] at Hz
            have hN := Lib.hid (fun q => highestNear_any P RV w2.heap.size n a ts far (wr.drewN q) (vt_ahead Hv.out) (by rw [Hn.out]; exact Nat.le_refl _) h7 (HLKr.out.below (below_drewN (Below.refl _ _) q)) han hwa)
            rw [Hz.out] at hN
            have hW := Lib.hid (fun q => cover_walk (w4 := wr.drewN q) (has := has) (far := far) (z := z) (vt_ahead Hv.out) Hn.out h7 hzlt (HLKr.out.below (below_drewN (Below.refl _ _) q)) HRr.out hFR hSR cF cS)
            have w1 : IntKind.i64.wrap ((out : Int) + 1) = (out : Int) + 1 := IntWalk.i64_in _ (by omega)
            have HT2 := Lib.hid hT2
            have HALL2 := Lib.hid hall2
            clear hh hT2 hall2
            go_wp2
            go_quiet (fail)
            go_wp2_with fail
            refine (hN.out nq).mono ?_
            rintro e w7 ⟨rfl, q, rfl⟩
            have hw := hW.out (nq + q)
            have HW := Lib.hid hw
            clear hw cg cS cF cn cR
            go_wp2_with fail
            refine HW.out.mono ?_
            rintro e w8 ⟨rfl, hR8, hg8⟩
            have HG8 := Lib.hid (grown_trans (grown_drewN HGR.out (nq + q)) hg8)
            have HR8 := Lib.hid hR8
            clear hR8 hg8
            go_wp2
            go_roundw
            case rel => exact ⟨out + 1, k + 1, _, by omega, by go_num, by go_num, hleft2, HT2, HALL2, HR8.out, HG8.out⟩
            case measure => simp [intOf]; omega
        · obtain rfl : k = n := by omega
          have HE := Lib.hid (cov_end HDP.out HALL.out HTT.out)
          go_wp2
          go_ret
          exact ⟨ret_int (by rw [Hs.out, HE.out]), HB6.out.grown hgr HB6.out.size (fun j hj => by injection hj with hj; omega)⟩
  · have hv' : vt ts = false := by simpa using hv
    have Hs := Lib.hid (cvv_no (far := far) (.inl hv'))
    have H1 := Lib.hid (iValidTree_is A c n ts _ _ hr1 hn hc hb (Nat.le_refl _) hv')
    clear hv hv' hr hn hr1 c1 hb1 hwa
    go_enter Try.func29, Try.ntmps29
    go_wp2_with fail
    refine H1.out.mono ?_
    rintro e w2 ⟨rfl, hnx2⟩
    have HB2 := Lib.hid (HB.out.trans (hnx2.mono HB.out.size))
    clear hnx2
    go_wp2
    go_ret
    exact ⟨ret_int Hs.out.symm, HB2.out⟩
end Go.Proofs.Ytkgomgfhhhdnjab
namespace Go.Proofs.Ytkgomgfhhhdnjab
open Go.ChangeShapes Go.WideShapes Go.ChangeAt Go.RowKit
set_option linter.unusedVariables false

theorem rdR_own {w : World} {B n : Nat} {v : Value} {ts : List (Int × Int)} (h : w.ownsRow B 38 2 v n ((flat ts).map (Value.int .i64))) (hn : ts.length = n) :
    ∃ A c, v = .slice A n c ∧ n ≤ c ∧ c ≤ 9223372036854775807 ∧ RdR w w.heap.size A ts := by
  have h0 := h
  rcases h.2 with ⟨rfl, rfl⟩ | ⟨g, cap, cur, rfl, _, _, hnc, hmx, _⟩
  · refine ⟨none, 0, rfl, Nat.le_refl _, by omega, fun hp => ?_⟩
    rw [flat_len] at hp; omega
  · exact ⟨_, cap, rfl, hnc, hmx, rdI_of_ownN h0 (by rw [flat_len, hn])⟩
def DrawnTree (w : World) (e : Ending) (w' : World) : Prop :=
  ∃ A c, ∃ ts : List (Int × Int), e = .returned (.slice A ts.length c) ∧ ts.length ≤ 7 ∧ ts.length ≤ c ∧ c ≤ 9223372036854775807 ∧ RdR w' w'.heap.size A ts ∧ Below w.heap.size w w'

theorem drawValidTree_any (A : Option Addr) (c n : Nat) (bs : List Int) (w : World) (hr : RdB w w.heap.size A bs) (hn : bs.length = n) (hc : n ≤ c) (hm : c ≤ 9223372036854775807) :
    Calls Try.prog 16 #[.slice A n c] w (DrawnTree w) := by
  have H := Lib.hid (newReader_any A c n bs w hr hn hc hm)
  clear hn
  go_enter Try.func16, Try.ntmps16
  go_wp2_with fail
  refine H.out.mono ?_
  rintro e w1 ⟨rfl, hg1, hnx1⟩
  go_wp2_with fail
  refine (someTree_any w.heap.size w.heap.size 0 w1 hg1 (by omega)).mono ?_
  rintro e w2 ⟨v, ts, rfl, hl, hown, hg2, hgb2⟩
  obtain ⟨A', c', rfl, hc1, hc2, hrd⟩ := rdR_own hown rfl
  go_wp2
  go_ret
  exact ⟨A', c', ts, rfl, hl, hc1, hc2, hrd, hnx1.trans (gb_below hgb2 (Nat.le_refl _) hnx1.size)⟩
end Go.Proofs.Ytkgomgfhhhdnjab
namespace Go.Proofs.Ytkgomgfhhhdnjab
open Go.ChangeShapes Go.WideShapes Go.ChangeAt Go.RowKit
set_option linter.unusedVariables false
set_option maxRecDepth 4000

theorem drawTreeTable_any (A : Option Addr) (c n : Nat) (bs : List Int) (w : World) (hr : RdB w w.heap.size A bs) (hn : bs.length = n) (hc : n ≤ c) (hm : c ≤ 9223372036854775807) :
    Calls Try.prog 19 #[.slice A n c] w (DrawnTree w) := by
  have H := Lib.hid (newReader_any A c n bs w hr hn hc hm)
  clear hn
  go_enter Try.func19, Try.ntmps19
  go_wp2_with fail
  refine H.out.mono ?_
  rintro e w1 ⟨rfl, hg1, hnx1⟩
  go_wp2_with fail
  refine (someTree_any w.heap.size w.heap.size 0 w1 hg1 (by omega)).mono ?_
  rintro e w2 ⟨v, ts, rfl, hl, hown, hg2, hgb2⟩
  obtain ⟨A', c', rfl, hc1, hc2, hrd⟩ := rdR_own hown rfl
  go_wp2
  go_ret
  exact ⟨A', c', ts, rfl, hl, hc1, hc2, hrd, hnx1.trans (gb_below hgb2 (Nat.le_refl _) hnx1.size)⟩
def DrawnTreeK (w : World) (e : Ending) (w' : World) : Prop :=
  ∃ A c, ∃ ts : List (Int × Int), ∃ k : Int, e = .returned (.tuple #[.slice A ts.length c, .int .i64 k]) ∧ -1 ≤ k ∧ k ≤ 51 ∧ ts.length ≤ 7 ∧ ts.length ≤ c ∧ c ≤ 9223372036854775807 ∧ RdR w' w'.heap.size A ts ∧ Below w.heap.size w w'
theorem drawTreeCover_any (A : Option Addr) (c n : Nat) (bs : List Int) (w : World) (hr : RdB w w.heap.size A bs) (hn : bs.length = n) (hc : n ≤ c) (hm : c ≤ 9223372036854775807) :
    Calls Try.prog 28 #[.slice A n c] w (DrawnTreeK w) := by
  have H := Lib.hid (newReader_any A c n bs w hr hn hc hm)
  clear hn
  go_enter Try.func28, Try.ntmps28
  go_wp2_with fail
  refine H.out.mono ?_
  rintro e w1 ⟨rfl, hg1, hnx1⟩
  go_wp2_with fail
  refine (someTree_any w.heap.size w.heap.size 0 w1 hg1 (by omega)).mono ?_
  rintro e w2 ⟨v, ts, rfl, hl, hown, hg2, hgb2⟩
  have Hwo := Lib.hid hown.lt
  have Hown := Lib.hid hown
  clear hown
  go_wp2_with fail
  refine (aFar_any w.heap.size w.heap.size (0 + 40) w2 hg2 (by omega)).mono ?_
  rintro e w3 ⟨k, rfl, hk1, hk2, hg3, hgb3⟩
  have hown3 := Hown.out.kept hgb3 (.inr (fun e => by have := (Hwo.out _ e).1; have := hg1.lt; omega))
  obtain ⟨A', c', rfl, hc1, hc2, hrd⟩ := rdR_own hown3 rfl
  go_wp2
  go_ret2
  exact ⟨A', c', ts, k, rfl, by omega, by omega, hl, hc1, hc2, hrd, hnx1.trans (gb_below (gb_trans hgb2 hgb3 (.inl rfl)) (Nat.le_refl _) hnx1.size)⟩
end Go.Proofs.Ytkgomgfhhhdnjab
namespace Go.Proofs.Ytkgomgfhhhdnjab
open Go.ChangeShapes Go.WideShapes Go.ChangeAt Go.RowKit
set_option linter.unusedVariables false
set_option maxRecDepth 4000

set_option maxHeartbeats 1600000 in
theorem lawTreeCover_walk (A : Option Addr) (c : Nat) (bs : List Int) (w : World) (hr : RdB w w.heap.size A bs) (hcap : bs.length ≤ c) (hm : c ≤ maxLen) :
    Calls Try.prog 6 #[.slice A bs.length c] w fun e w' => e = .returned (.bool true) ∧ Below w.heap.size w w' := by
  unfold maxLen at hm
  by_cases hb : 1048576 < bs.length
  · go_enter Try.func6, Try.ntmps6
    go_wp2
    go_ret
    exact ⟨rfl, Below.refl _ _⟩
  · have H := Lib.hid (drawTreeCover_any A c bs.length bs w hr rfl hcap hm)
    go_enter Try.func6, Try.ntmps6
    go_wp2_with fail
    refine H.out.mono ?_
    rintro e w1 ⟨A', c', ts, far, rfl, hk1, hk2, hl, hc1, hc2, hrd, hnx1⟩
    have Hwf := Lib.hid (wf_small (n := far) (by omega))
    have Hlow := Lib.hid (cvv_bd ts far)
    obtain ⟨a, Ha⟩ : ∃ a, Hid (cvv ts far = a) := ⟨_, rfl⟩
    have hbn : ∀ x : Int, (x != x) = false := fun x => by simp
    have hbe : ∀ x : Int, (x == x) = true := fun x => by simp
    have Hrd := Lib.hid hrd
    have HB1 := Lib.hid hnx1
    clear hrd hnx1
    go_wp2_with fail
    refine (iTreeCover_any A' c' ts.length ts far w1 Hrd.out rfl hc1 (by omega) Hwf.out).mono ?_
    rintro e w2 ⟨rfl, hq⟩
    rw [Ha.out]
    have R2 := Lib.hid ((Hrd.out.below hq).more hq.size)
    have HB2 := Lib.hid (HB1.out.trans (hq.mono HB1.out.size))
    clear hq
    go_wp2_with fail
    refine (sTreeCover_any A' c' ts.length ts far w2 R2.out rfl (by omega)).mono ?_
    rintro e w3 ⟨rfl, hq⟩
    rw [Ha.out]
    have R3 := Lib.hid ((R2.out.below hq).more hq.size)
    have HB3 := Lib.hid (HB2.out.trans (hq.mono HB2.out.size))
    clear hq
    by_cases ha : a < 0
    · go_wp2_with fail
      refine (sTreeCover_any A' c' ts.length ts far w3 R3.out rfl (by omega)).mono ?_
      rintro e w4 ⟨rfl, hq⟩
      rw [Ha.out]
      have HB4 := Lib.hid (HB3.out.trans (hq.mono HB3.out.size))
      go_wp2
      go_ret
      exact ⟨rfl, HB4.out⟩
    · obtain ⟨hv, h0, h50⟩ := cvv_has (ts := ts) (far := far) (by rw [Ha.out]; omega)
      obtain ⟨e1, e2, -⟩ := tree_facts hv h0 h50
      obtain ⟨g1, g7, -⟩ := (vt_iff ts).1 hv
      rw [Ha.out] at e1 e2
      have E1 := Lib.hid e1
      have E2 := Lib.hid e2
      clear e1 e2 hv h0 h50
      go_wp2_with fail
      refine (iTreeApart_any A' c' ts.length ts far w3 R3.out rfl hc1 (by omega)).mono ?_
      rintro e w4 ⟨rfl, hq⟩
      rw [E1.out]
      have R4 := Lib.hid ((R3.out.below hq).more hq.size)
      have HB4 := Lib.hid (HB3.out.trans (hq.mono HB3.out.size))
      clear hq
      go_wp2_with fail
      refine (streetsOf_any A' c' ts.length ts w4 R4.out rfl (by omega)).mono ?_
      rintro e w5 ⟨A5, c5, rfl, hc5, hc6, hrd5, hq5⟩
      have HB5 := Lib.hid (HB4.out.trans (hq5.mono HB4.out.size))
      have N5 : Hid (NetIn w5 A5 c5 (ts.length - 1) (ts.length : Nat) (strOf ts)) := ⟨hrd5, strOf_len ts, ⟨hc5, hc6⟩, by omega, wf_small (by omega)⟩
      clear hrd5 hq5
      go_wp2_with fail
      refine (iNetCover_ok A5 c5 _ _ _ far w5 N5.out Hwf.out).mono ?_
      rintro e w6 ⟨rfl, hq6⟩
      rw [E2.out]
      have HB6 := Lib.hid (HB5.out.trans (hq6.mono HB5.out.size))
      go_wp2
      go_ret
      exact ⟨rfl, HB6.out⟩
end Go.Proofs.Ytkgomgfhhhdnjab
