/-
  shareAt, BestPlace, rests and IsRest of the model, walked.
  Conditions: as each theorem states.
  Tables in memory: a row more.
  Conditions: none beyond what each theorem states.
  listsOfShops of the program, walked: all lists of shops from a place on.
  Conditions: at most nine houses and four shops.
  rests and IsRest of the model, walked.
  Conditions: as each theorem states.
-/
import Derived.Test.YtoohfipicmdohaaZ3
import Derived.Test.YtoohfipicmdohaaZ4
import Derived.Test.YtoohfipicmdohaaZ0
import Derived.Deep.RegionHeld3
namespace Go.Proofs.Ytoohfipicmdohaa
open Go.ChangeShapes Go.WideShapes Go.ChangeAt Go.RowKit
set_option linter.unusedVariables false
set_option maxRecDepth 4000

theorem partQ_one (w : World) (p : Nat) : PartQ (w.alloc (.cells #[.int .i64 ((p : Nat) : Int)] 3)) (some ⟨w.heap.size, 0, none⟩) 1 1 (cI [p]) :=
  ⟨fun _ => ⟨w.heap.size, 0, rfl, by rw [size_alloc1]; omega, fun i hi => by
    obtain rfl : i = 0 := by simp [cI] at hi; exact hi
    rw [cell_of_row _ _ _ _ _ _ (heap_alloc_new w _)]; rfl⟩, rfl, (fun h => by cases h), fun a ha => ⟨w.heap.size, 0, by injection ha with ha; exact ha.symm⟩⟩
theorem ad_last (n : Nat) (ss : List Nat) (p : Nat) : (shL n (ss ++ [p])).getD ss.length 0 = adS n ss p := by
  rw [shL_getD (by simp), ← adS_end]
  simp [List.getD]
set_option maxHeartbeats 1600000 in
theorem sShareAt_any (n p m c : Nat) (A : Option Addr) (ss : List Nat) (w : World) (hp : PartQ w A m c (cI ss)) (h1 : 1 ≤ m) (h4 : m ≤ 4) (hn9 : n ≤ 9) (hss : ∀ s ∈ ss, s < n) (hpn : p < n) :
    Calls Try.prog 56 #[.int .i64 (n : Int), .slice A m c, .int .i64 (p : Int)] w fun e w' => e = .returned (.int .i64 ((adS n ss p : Nat) : Int)) ∧ Below w.heap.size w w' := by
  obtain ⟨i0, hi0, hz0, hz1, hz2⟩ := info_parts intInfo
  have hm : ss.length = m := by rw [← cI_length]; exact hp.len
  have HO0 : Hid ((w.alloc (.cells #[] 3)).ownsRow w.heap.size 3 1 (.slice (some ⟨w.heap.size, 0, none⟩) 0 0) 0 (([] : List Int).map (Value.int .i64))) := World.ownsRow_lit w #[] 0 (Nat.le_refl _) (by decide) rfl
  have HB0 : Hid (Below w.heap.size w (w.alloc (.cells #[] 3))) := (Below.refl _ _).alloc (Nat.le_refl _) _
  have HP0 := Lib.hid (hp.later HB0.out)
  have hs0 : w.heap.size ≤ (w.alloc (.cells #[] 3)).heap.size := HB0.out.size
  have hne0 : (Value.slice (some ⟨w.heap.size, 0, none⟩) 0 0) ≠ .slice none 0 0 := by intro h; cases h
  have Hne0 := Lib.hid hne0
  have HSh : Hid (∀ (A : Option Addr) (c : Nat) (W : World), RdI W W.heap.size A (cI (ss ++ [p])) → Calls Try.prog 54 #[.int .i64 (n : Int), .slice A (m + 1 : Nat) c] W (RowQ (cI (shL n (ss ++ [p]))) W)) := fun A c W hW =>
    sShares_any n (m + 1) c A (ss ++ [p]) W hW (by simp [hm]) (by omega) (by omega) hn9 (fun s hs => by
      rcases List.mem_append.1 hs with h | h
      · exact hss s h
      · rw [List.mem_singleton.1 h]; exact hpn)
  have HL : Hid ((cI (ss ++ [p])).length = m + 1) := by show _ = _; rw [cI_length]; simp [hm]
  have HL2 : Hid ((cI (shL n (ss ++ [p]))).length = m + 1) := by show _ = _; rw [cI_length, shL_length]; simp [hm]
  have HA : Hid ((cI (shL n (ss ++ [p]))).getD m 0 = ((adS n ss p : Nat) : Int)) := by show _ = _; rw [cI_getD, ← hm, ad_last]
  have Hcat : Hid ([] ++ cI ss ++ cI [p] = cI (ss ++ [p])) := by show _ = _; rw [List.nil_append, cI_append]
  clear hp hm hss hne0
  go_enter Try.func56, Try.ntmps56
  go_wp2_with (first
    | (at_builtin; refine wpList_append_partQ hi0 hz0 hz1 hz2 rfl _ _ rfl w.heap.size _ (0 + m) ([] ++ cI ss) rfl hown1 hne1 (some ⟨w1.heap.size, 0, none⟩) 1 1 (cI [p]) rfl (partQ_one w1 p) (by omega) (by omega) hs1 ?_; intro v2 w2 hown2 hne2 hb2)
    | (at_builtin; refine wpList_append_partQ hi0 hz0 hz1 hz2 rfl _ _ rfl w.heap.size _ 0 [] rfl HO0.out Hne0.out A m c (cI ss) rfl HP0.out (by omega) (by omega) hs0 ?_; intro v1 w1 hown1 hne1 hb1; have hs1 : w.heap.size ≤ (w1.alloc (.cells #[.int .i64 ((p : Nat) : Int)] 3)).heap.size := (by rw [size_alloc1]; have := hb1.size; have := HB0.out.size; omega); have hown1 := World.ownsRow.alloc hown1 (.cells #[.int .i64 ((p : Nat) : Int)] 3)))
  rw [Hcat.out] at hown2
  have HB2 : Hid (Below w.heap.size w w2) := ((HB0.out.trans hb1).alloc (by have := hb1.size; have := HB0.out.size; omega) _).trans hb2
  rw [show 0 + m + 1 = m + 1 by omega] at hown2
  obtain ⟨A2, c2, rfl, -, -, hr2⟩ := own_slice hown2 HL.out
  have Hr2 := Lib.hid hr2
  clear hown1 hne1 hb1 hs1 hown2 hne2 hb2 hr2
  go_wp2_with fail
  refine (HSh.out _ _ _ Hr2.out).mono ?_
  rintro e w4 ⟨A4, c4, rfl, ho4, hb4⟩
  rw [HL2.out] at ho4 ⊢
  obtain ⟨A5, c5, he, -, -, hrd⟩ := own_slice ho4.out HL2.out
  injection he with he1 _ he3
  subst he1 he3
  obtain ⟨b4, o4, x, rfl, -, Hx, hcx⟩ := hrd.x (k := m) (by rw [HL2.out]; omega)
  have Hxe : Hid (x = ((adS n ss p : Nat) : Int)) := Hx.out.symm.trans HA.out
  have HB4 : Hid (Below w.heap.size w w4) := HB2.out.trans (hb4.out.mono HB2.out.size)
  clear ho4 hb4 hrd Hx
  go_wp2
  go_ret
  exact ⟨ret_int Hxe.out, HB4.out⟩
def BpMRel (f : Nat → Nat) (n : Nat) (w : World) (a i : Value) (wr : World) : Prop :=
  ∃ k : Nat, 1 ≤ k ∧ k ≤ n ∧ i = .int .i64 ((k : Nat) : Int) ∧ a = .int .i64 ((bpK f k : Nat) : Int) ∧ Hid (Below w.heap.size w wr)
set_option maxHeartbeats 800000 in
theorem sBestPlace_ok : QNum 27 bpQ := by
  intro n A c m zs w hp
  have HV := Lib.hid (sValidShops_in n A c m zs w hp)
  by_cases hv : vsh n zs = true
  · obtain ⟨n, ss, rfl, rfl, hS⟩ := vsh_get hv
    rw [hv] at HV
    have hm : ss.length = m := by rw [← cI_length]; exact hp.len
    have hl4 := hS.l4
    have hl1 := hS.l1
    by_cases h4 : 4 ≤ m
    · have ht : (m : Int) ≥ 4 := by omega
      rw [bpQ_no (.inr (by rw [cI_length]; omega))]
      clear hv hS hp hm hl4 h4
      go_enter Try.func27, Try.ntmps27
      go_wp2_with fail
      refine HV.out.mono ?_
      rintro e w1 ⟨rfl, hb1⟩
      go_wp2
      go_ret
      exact ⟨rfl, hb1⟩
    · have ht : ¬ (m : Int) ≥ 4 := by omega
      have ht2 : decide ((m : Int) ≥ 4) = false := by simp; omega
      rw [bpQ_yes hS (by omega)]
      obtain ⟨b, off, -, hA, hbl, -⟩ := hp.rd.q (k := 0) (by omega)
      subst hA
      have hpart : PartQ w (some ⟨b, off, none⟩) m c (cI ss) := ⟨hp.rd, hp.len, (fun h => by cases h), fun a ha => ⟨b, off, by injection ha with ha; exact ha.symm⟩⟩
      have HSb : Hid (∀ (p : Nat) (W : World), p < n → Below w.heap.size w W → Calls Try.prog 56 #[.int .i64 (n : Int), .slice (some ⟨b, off, none⟩) m c, .int .i64 (p : Int)] W fun e w' => e = .returned (.int .i64 ((adS n ss p : Nat) : Int)) ∧ Below W.heap.size W w') :=
        fun p W h1 h2 => sShareAt_any n p m c _ ss W (hpart.later h2) (by omega) (by omega) hS.n9 hS.lt h1
      have hn1 := hS.n1
      have hn9 := hS.n9
      show Calls _ _ _ _ fun e w' => e = .returned (.int .i64 ((bpK (adS n ss) n : Nat) : Int)) ∧ _
      generalize adS n ss = f at HSb ⊢
      have H1 := Lib.hid (bpK_one f)
      have Hlt := Lib.hid (fun k (hk : 0 < k) => bpK_lt f hk)
      clear hv hS hp hm hl4 h4 hpart
      go_enter Try.func27, Try.ntmps27
      go_wp2_with fail
      refine HV.out.mono ?_
      rintro e w1 ⟨rfl, hb1⟩
      have HB1 := Lib.hid hb1
      clear hb1
      go_wp2
      go_loopw [5, 6] (fun a i wr => BpMRel f n w a i wr) (fun _ i _ => n - (intOf i).toNat)
      case atStart => exact ⟨1, Nat.le_refl _, hn1, rfl, by rw [H1.out]; rfl, HB1⟩
      case round =>
        obtain ⟨k, hk1, hk, rfl, rfl, HB⟩ := hrel
        by_cases hlt : k < n
        · obtain ⟨z, Hz⟩ : ∃ z, Hid (bpK f k = z) := ⟨_, rfl⟩
          have hzk := Hlt.out k (by omega)
          rw [Hz.out] at hzk ⊢
          obtain ⟨s, Hs⟩ : ∃ s, Hid (f k = s) := ⟨_, rfl⟩
          obtain ⟨t, Ht⟩ : ∃ t, Hid (f z = t) := ⟨_, rfl⟩
          have Hc := Lib.hid (HSb.out k wr hlt HB.out)
          have Hd := Lib.hid (fun W hW => HSb.out z W (by omega) hW)
          rw [Hs.out] at Hc
          rw [Ht.out] at Hd
          have HN : Hid (bpK f (k + 1) = if t < s then k else z) := by show _ = _; rw [bpK, Hz.out, Hs.out, Ht.out]
          go_wp2_with fail
          refine Hc.out.mono ?_
          rintro e w2 ⟨rfl, hb2⟩
          have HB2 := Lib.hid (HB.out.trans (hb2.mono HB.out.size))
          clear hb2 Hc
          go_wp2_with fail
          refine (Hd.out w2 HB2.out).mono ?_
          rintro e w3 ⟨rfl, hb3⟩
          have HB3 := Lib.hid (HB2.out.trans (hb3.mono HB2.out.size))
          clear hb3 Hd HB HB2
          by_cases hst : t < s
          · rw [if_pos hst] at HN
            go_wp2
            go_roundw
            case rel => exact ⟨k + 1, by omega, by omega, by go_num, by rw [HN.out], HB3⟩
            case measure => simp [intOf]; omega
          · rw [if_neg hst] at HN
            go_wp2
            go_roundw
            case rel => exact ⟨k + 1, by omega, by omega, by go_num, by rw [HN.out], HB3⟩
            case measure => simp [intOf]; omega
        · obtain rfl : k = n := by omega
          go_wp2
          go_ret
          exact ⟨rfl, HB.out⟩
  · have hv' : vsh n zs = false := by simpa using hv
    rw [hv'] at HV
    rw [bpQ_no (.inl hv')]
    clear hv hv' hp
    go_enter Try.func27, Try.ntmps27
    go_wp2_with fail
    refine HV.out.mono ?_
    rintro e w1 ⟨rfl, hb1⟩
    go_wp2
    go_ret
    exact ⟨rfl, hb1⟩
/-- A list put behind a row of the call's own, at a step of a region that draws its order. -/
theorem step_append_partQ {w : World} {ops : Array Oper} {o : Oper} {a : Act} {K : Act → World → Prop} {Q : Exit → Act → World → Prop} {E : Prop} {i0 : TypeInfo} (hi0 : Try.prog.info? 3 = some i0) (hz0 : i0.zero = some (.int .i64 0)) (hz1 : i0.size = 1) (hz2 : i0.bytes = 8)
    (hgd : o.guard = none) (s x : Operand) (ho : o.op = .call { callee := .builtin .append, args := #[s, x], argTypes := #[23, 23] }) (base : Nat) (v : Value) (L : Nat) (zs : List Int) (hs : a.eval s = v)
    (hown : w.ownsRow base 3 1 v L (zs.map (Value.int .i64))) (hv : v ≠ .slice none 0 0) (b off n c : Nat) (xs : List Int) (hx : a.eval x = .slice (some ⟨b, off, none⟩) n c) (hp : PartQ w (some ⟨b, off, none⟩) n c xs) (hl : L ≤ 1000) (hn : n ≤ 1000) (hbase : base ≤ w.heap.size)
    (h : ∀ v' w', w'.ownsRow base 3 1 v' (L + n) ((zs ++ xs).map (Value.int .i64)) → v' ≠ .slice none 0 0 → Below base w w' → K (a.put o.dst v') w') :
    if Region.wanted o (yielded ops a.tmps) = true then Oper.wp Try.prog o a w K Q else E := by
  have hw : Region.wanted o (yielded ops a.tmps) = true := by simp [Region.wanted, hgd]
  rw [if_pos hw]
  refine wp_append_own w s x 23 ho base 3 i0 (.int .i64 0) 1 8 Try.underlying23 hi0 hz0 hz1 hz2 rfl (by decide) v L _ hs hown ⟨b, off, none⟩ n c (xs.map (Value.int .i64)) hx (by rw [List.length_map, hp.len, Nat.mul_one]) ?_ ?_ (by unfold maxLen; omega) (by omega) hbase ?_
  · intro j u hj
    rw [List.getElem?_map] at hj
    obtain ⟨y, hy, rfl⟩ := Option.map_eq_some_iff.1 hj
    have hjl : j < xs.length := (List.getElem?_eq_some_iff.1 hy).1
    obtain ⟨b', o', e', -, hc⟩ := hp.rd.at_ hjl
    injection e' with e'
    injection e' with e1 e2
    subst e1 e2
    rw [show (⟨b, off, none⟩ : Addr).add j = ⟨b, off + j, none⟩ by unfold Addr.add; split <;> simp_all, hc]
    simp [List.getD, hy]
  · intro u hu
    obtain ⟨y, _, rfl⟩ := List.mem_map.1 hu
    rfl
  · intro v' w' hown' hg hnil
    refine h v' w' (by rw [List.map_append]; exact hown') (fun e => hv ((hnil.1 e).1)) ((Below.refl _ _).grown hg hbase fun k hk => ?_)
    obtain ⟨-, h2⟩ := hown
    rcases h2 with ⟨h2, -⟩ | ⟨g, cap, cur, h2, h3, -⟩
    · exact absurd h2 hv
    · rw [h2] at hk
      injection hk with hk
      rw [← hk]; exact h3
end Go.Proofs.Ytoohfipicmdohaa
namespace Go.Proofs.Ytoohfipicmdohaa
open Go.ChangeShapes Go.WideShapes Go.ChangeAt Go.RowKit
set_option linter.unusedVariables false
set_option maxRecDepth 4000

/-- A row more, made since. -/
theorem TT.addRow {w wq : World} {B m k : Nat} {VR : Nat → Value} {ls : Nat → List Int} {v : Value} {row : List Int} (h : TT w B m VR ls) (hB : B ≤ w.heap.size) (hb : Below w.heap.size w wq) (hk : row.length = k)
    (hown : wq.ownsRow w.heap.size 3 1 v k (row.map (Value.int .i64))) : TT wq B (m + 1) (upd VR m v) (upd ls m row) := by
  constructor
  · intro j hj
    by_cases e : j = m
    · subst e
      rw [upd_at, upd_at, hk]
      refine ⟨hown.1, ?_⟩
      rcases hown.2 with h0 | ⟨g, cap, cur, h1, h2, h3⟩
      · exact .inl h0
      · exact .inr ⟨g, cap, cur, h1, by omega, h3⟩
    · rw [upd_other _ _ e, upd_other _ _ e]
      exact ownN_below (h.own j (by omega)) hb
  · intro i j g hi hj h1 h2
    by_cases e1 : i = m <;> by_cases e2 : j = m
    · omega
    · rw [e1, upd_at] at h1; rw [upd_other _ _ e2] at h2
      have := (own_heap hown h1).2.1
      have := (own_heap (h.own j (by omega)) h2).2.2; omega
    · rw [e2, upd_at] at h2; rw [upd_other _ _ e1] at h1
      have := (own_heap hown h2).2.1
      have := (own_heap (h.own i (by omega)) h1).2.2; omega
    · rw [upd_other _ _ e1] at h1; rw [upd_other _ _ e2] at h2
      exact h.dis i j g (by omega) (by omega) h1 h2
/-- The new row lies in the table. -/
theorem tabX_end {w w2 w3 : World} {m g cA g3 c3 : Nat} {VR : Nat → Value} {ls : Nat → List Int} {v : Value} {o : Obj} (hT : TT w2 w.heap.size (m + 1) (upd VR m v) ls) (hO : Outer w2 w.heap.size m (.slice (some ⟨g, 0, none⟩) m cA) VR) (hB : Below w.heap.size w w2)
    (hown : w3.ownsRow w.heap.size 23 1 (.slice (some ⟨g3, 0, none⟩) (m + 1) c3) (m + 1) ((List.range m).map VR ++ [v])) (hg : (w2.alloc o).grownBy w3 (Value.slice (some ⟨g, 0, none⟩) m cA).ownBlock) (hs : (w2.alloc o).heap.size = w2.heap.size + 1) :
    Outer w3 w.heap.size (m + 1) (.slice (some ⟨g3, 0, none⟩) (m + 1) c3) (upd VR m v) ∧ TT w3 w.heap.size (m + 1) (upd VR m v) ls ∧ Below w.heap.size w w3 := by
  have hW := (Below.refl w2.heap.size w2).alloc (Nat.le_refl _) o
  obtain ⟨⟨cs, hc⟩, hB2, _⟩ := own_heap (ownN_below hO hW) (g := g) rfl
  refine ⟨?_, (hT.below hW).keptBy hg (fun g' e => ?_), (hB.trans (hW.mono hB.size)).grown hg (by rw [hs]; have := hB.size; omega) (fun g' e => ?_)⟩
  · unfold Outer
    rw [List.range_succ, List.map_append]
    have e : (List.range m).map (upd VR m v) = (List.range m).map VR := List.map_congr_left fun i hi => upd_other _ _ (by have := List.mem_range.1 hi; omega)
    rw [e]
    simpa [upd_at] using hown
  · have : g = g' := by simpa [Value.ownBlock] using e
    subst this
    exact ⟨cs, _, hc, by decide⟩
  · have : g = g' := by simpa [Value.ownBlock] using e
    subst this
    exact hB2
end Go.Proofs.Ytoohfipicmdohaa
namespace Go.Proofs.Ytoohfipicmdohaa
open Go.ChangeShapes Go.WideShapes Go.ChangeAt Go.RowKit
set_option linter.unusedVariables false
set_option maxRecDepth 4000

/-- A table of lists of places of the call's own. -/
structure RowsT (w : World) (B g c L : Nat) (Ls : List (List Nat)) (VR : Nat → Value) : Prop where
  len : Ls.length = L
  out : Outer w B L (.slice (some ⟨g, 0, none⟩) L c) VR
  tt : TT w B L VR (fun j => cI (Ls.getD j []))
theorem RowsT.below {w w' : World} {B g c L : Nat} {Ls : List (List Nat)} {VR : Nat → Value} (h : RowsT w B g c L Ls VR) (hb : Below w.heap.size w w') : RowsT w' B g c L Ls VR := ⟨h.len, h.out.below hb, h.tt.below hb⟩
theorem RowsT.g_lt {w : World} {B g c L : Nat} {Ls : List (List Nat)} {VR : Nat → Value} (h : RowsT w B g c L Ls VR) : B ≤ g ∧ g < w.heap.size := World.ownsRow.lt h.out g rfl
theorem getD_snoc {Ls : List (List Nat)} {l : List Nat} {L j : Nat} (hL : Ls.length = L) (hj : j < L + 1) : upd (fun j => cI (Ls.getD j [])) L (cI l) j = cI ((Ls ++ [l]).getD j []) := by
  by_cases e : j = L
  · subst e; rw [upd_at]; simp [List.getD, hL]
  · rw [upd_other _ _ e]
    simp only [List.getD]
    rw [List.getElem?_append_left (by omega)]
/-- One row more. -/
theorem RowsT.push {W wr w4 w5 : World} {g c L g5 c5 k : Nat} {Ls : List (List Nat)} {VR : Nat → Value} {l : List Nat} {v : Value} (h : RowsT wr W.heap.size g c L Ls VR) (hB : Below W.heap.size W wr) (hb : Below wr.heap.size wr w4) (hk : (cI l).length = k)
    (hown : w4.ownsRow wr.heap.size 3 1 v k ((cI l).map (Value.int .i64))) (hown5 : w5.ownsRow W.heap.size 23 1 (.slice (some ⟨g5, 0, none⟩) (L + 1) c5) (L + 1) ((List.range L).map VR ++ [v])) (hg : (w4.alloc (.cells #[v] 23)).grownBy w5 (Value.slice (some ⟨g, 0, none⟩) L c).ownBlock) :
    RowsT w5 W.heap.size g5 c5 (L + 1) (Ls ++ [l]) (upd VR L v) ∧ Below W.heap.size W w5 := by
  obtain ⟨h1, h2, h3⟩ := tabX_end (h.tt.addRow hB.size hb hk hown) (h.out.below hb) (hB.trans (hb.mono hB.size)) hown5 hg (size_alloc1 _ _)
  exact ⟨⟨by rw [List.length_append, h.len]; rfl, h1, h2.congr fun j hj => getD_snoc h.len hj⟩, h3⟩
/-- Another table stays. -/
theorem RowsT.stay {wr w4 w5 : World} {B B' g c L g1 c1 L1 : Nat} {Ls Ls1 : List (List Nat)} {VR VR1 : Nat → Value} {o : Obj} (h : RowsT wr B g c L Ls VR) (h1 : RowsT wr B' g1 c1 L1 Ls1 VR1) (hne : g1 ≠ g) (hb : Below wr.heap.size wr w4) (hg : (w4.alloc o).grownBy w5 (Value.slice (some ⟨g1, 0, none⟩) L1 c1).ownBlock) : RowsT w5 B g c L Ls VR := by
  have hb2 : Below wr.heap.size wr (w4.alloc o) := hb.alloc hb.size _
  obtain ⟨⟨cs, hcs⟩, -, -⟩ := own_heap (h1.out.below hb2) (g := g1) rfl
  refine ⟨h.len, World.ownsRow.kept (h.out.below hb2) hg (.inr ?_), (h.tt.below hb2).keptBy hg fun g' e => ?_⟩
  · intro e
    injection e with e
    exact hne e.symm
  · injection e with e
    subst e
    exact ⟨cs, _, hcs, by decide⟩
/-- A row of the call's own, as a list wherever it lies. -/
theorem part_own {w : World} {B n : Nat} {v : Value} {xs : List Int} (h : w.ownsRow B 3 1 v n (xs.map (Value.int .i64))) (hn : xs.length = n) : ∃ A c, v = .slice A n c ∧ PartQ w A n c xs := by
  obtain ⟨A, c, rfl, h1, h2, hr⟩ := own_slice h hn
  refine ⟨A, c, rfl, hr, hn, ?_, ?_⟩
  · rintro rfl
    rcases h.2 with ⟨e, -⟩ | ⟨g, cap, cur, e, -⟩
    · injection e with _ e1 e2; exact ⟨e1, e2⟩
    · injection e with e _ _; cases e
  · rintro a rfl
    rcases h.2 with ⟨e, -⟩ | ⟨g, cap, cur, e, -⟩
    · injection e with e _ _; cases e
    · injection e with e _ _; injection e with e; exact ⟨g, 0, e⟩
theorem RowsT.rowAt {w : World} {B g c L : Nat} {Ls : List (List Nat)} {VR : Nat → Value} (h : RowsT w B g c L Ls VR) {j : Nat} (hj : j < L) : ∃ A n c', w.cell? ⟨g, j, none⟩ = some (.slice A n c') ∧ PartQ w A n c' (cI (Ls.getD j [])) ∧ (Ls.getD j []).length = n := by
  obtain ⟨A, c', e, hp⟩ := part_own (h.tt.own j hj) rfl
  have hc := Outer.cell h.out hj
  rw [e] at hc
  exact ⟨A, _, c', hc, hp, by rw [cI_length]⟩

/-- The lists that begin with a place ahead of p. -/
def preS (n k a p : Nat) : List (List Nat) := (List.range' a (p - a)).flatMap fun q => (lstS n k q).map (q :: ·)
theorem preS_start (n k a : Nat) : preS n k a a = [] := by simp [preS]
theorem preS_step {n k a p : Nat} (h : a ≤ p) : preS n k a (p + 1) = preS n k a p ++ (lstS n k p).map (p :: ·) := by
  unfold preS
  rw [show p + 1 - a = p - a + 1 by omega, List.range'_concat, List.flatMap_append]
  simp [show a + (p - a) = p by omega]
theorem preS_end (n k a : Nat) : preS n k a n = lstS n (k + 1) a := rfl
theorem preS_le {n k a p : Nat} (h1 : a ≤ p) (h2 : p ≤ n) : (preS n k a p).length ≤ (lstS n (k + 1) a).length := by
  rw [← preS_end]
  have e : preS n k a n = preS n k a p ++ (List.range' p (n - p)).flatMap fun q => (lstS n k q).map (q :: ·) := by
    unfold preS
    rw [← List.flatMap_append]
    congr 1
    rw [show n - a = (p - a) + (n - p) by omega, ← List.range'_append_1, show a + (p - a) = p by omega]
  rw [e, List.length_append]; omega
theorem lst_all : ((List.range 10).all fun n => (List.range 5).all fun k => (List.range 10).all fun a => decide ((lstS n k a).length ≤ 1000)) = true := by decide +kernel
theorem lst_le {n k a : Nat} (h1 : n ≤ 9) (h2 : k ≤ 4) (h3 : a ≤ 9) : (lstS n k a).length ≤ 1000 := by
  have h := lst_all
  simp only [List.all_eq_true, List.mem_range, decide_eq_true_eq] at h
  exact h n (by omega) k (by omega) a (by omega)
def LsPost (Ls : List (List Nat)) (w : World) (e : Ending) (w' : World) : Prop :=
  ∃ g c VR, e = .returned (.slice (some ⟨g, 0, none⟩) Ls.length c) ∧ Hid (RowsT w' w.heap.size g c Ls.length Ls VR) ∧ Hid (Below w.heap.size w w')
theorem lsPost_zero (n a : Nat) (w : World) : LsPost (lstS n 0 a) w (.returned (.slice (some ⟨w.heap.size + 1, 0, none⟩) 1 1)) ((w.alloc (.cells #[] 3)).alloc (.cells #[.slice (some ⟨w.heap.size, 0, none⟩) 0 0] 23)) := by
  have hb1 : Below w.heap.size w (w.alloc (.cells #[] 3)) := (Below.refl _ _).alloc (Nat.le_refl _) _
  have hs1 : (w.alloc (.cells #[] 3)).heap.size = w.heap.size + 1 := size_alloc1 _ _
  have h1 : (w.alloc (.cells #[] 3)).ownsRow w.heap.size 3 1 (.slice (some ⟨w.heap.size, 0, none⟩) 0 0) 0 [] := World.ownsRow_lit w #[] 0 (Nat.le_refl _) (by decide) rfl
  have h2 := World.ownsRow_lit (w.alloc (.cells #[] 3)) #[.slice (some ⟨w.heap.size, 0, none⟩) 0 0] 1 (base := w.heap.size) (size := 1) (e := 23) (by rw [hs1]; omega) (by decide) rfl
  rw [hs1] at h2
  refine ⟨w.heap.size + 1, 1, fun _ => .slice (some ⟨w.heap.size, 0, none⟩) 0 0, rfl, ⟨rfl, h2, ⟨fun j hj => ?_, fun i j g hi hj _ _ => ?_⟩⟩, hb1.alloc hb1.size _⟩
  · obtain rfl : j = 0 := by simp [lstS] at hj; exact hj
    exact h1.alloc _
  · simp [lstS] at hi hj; omega
def LsO (n k a : Nat) (W : World) (o i : Value) (wr : World) : Prop :=
  ∃ p g c L VR, a ≤ p ∧ p ≤ n ∧ o = .slice (some ⟨g, 0, none⟩) L c ∧ i = .int .i64 ((p : Nat) : Int) ∧ Hid (RowsT wr W.heap.size g c L (preS n k a p) VR) ∧ Hid (Below W.heap.size W wr)
def LsI (n k a p gR cR N : Nat) (VRR : Nat → Value) (B : Nat) (W : World) (o i : Value) (wr : World) : Prop :=
  ∃ j g c L VR, j ≤ N ∧ o = .slice (some ⟨g, 0, none⟩) L c ∧ i = .int .i64 ((j : Nat) : Int) ∧ g ≠ gR ∧ Hid (RowsT wr W.heap.size g c L (preS n k a p ++ ((lstS n k p).take j).map (p :: ·)) VR) ∧ Hid (RowsT wr B gR cR N (lstS n k p) VRR) ∧ Hid (Below W.heap.size W wr)
theorem take_snocQ {Ls : List (List Nat)} {j p : Nat} (h : j < Ls.length) : (Ls.take (j + 1)).map (p :: ·) = (Ls.take j).map (p :: ·) ++ [p :: Ls.getD j []] := by
  rw [List.take_succ_eq_append_getElem h, List.map_append]
  simp [List.getD, h]
def LsAt (n k : Nat) : Prop := ∀ (a : Nat) (w : World), a ≤ n → Calls Try.prog 61 #[.int .i64 ((a : Nat) : Int), .int .i64 ((n : Nat) : Int), .int .i64 ((k : Nat) : Int)] w (LsPost (lstS n k a) w)
theorem ls_zero (n : Nat) (hn : n ≤ 9) : LsAt n 0 := by
  intro a w ha
  have HE := Lib.hid (lsPost_zero n a w)
  go_enter Try.func61, Try.ntmps61
  go_wp2
  go_ret
  exact HE.out
set_option maxHeartbeats 3200000 in
theorem ls_step (n k : Nat) (hn : n ≤ 9) (hk4 : k + 1 ≤ 4) (IH : LsAt n k) : LsAt n (k + 1) := by
  intro a w ha
  obtain ⟨is, his, hzs0, hzs1, hzs2⟩ := info_parts slInfo2
  have HIH := Lib.hid IH
  have HO0 : Hid (RowsT (w.alloc (.cells #[] 23)) w.heap.size w.heap.size 0 0 (preS n k a a) (fun _ => .slice none 0 0)) := by
    have h := World.ownsRow_lit (base := w.heap.size) (e := 23) (size := 1) w #[] 0 (Nat.le_refl _) (by decide) rfl
    exact ⟨by rw [preS_start]; rfl, h, ⟨fun j hj => by omega, fun i j g hi _ _ _ => by omega⟩⟩
  have HB0 : Hid (Below w.heap.size w (w.alloc (.cells #[] 23))) := (Below.refl _ _).alloc (Nat.le_refl _) _
  have hk0 : (((k + 1 : Nat) : Int) == 0) = false := by rw [beq_eq_false_iff_ne]; omega
  have hk1 : IntKind.i64.wrap (((k + 1 : Nat) : Int) - 1) = (k : Int) := by rw [IntKind.wrap_i64]; omega
  have Hlen := Lib.hid (fun p (h1 : a ≤ p) (h2 : p ≤ n) => (show (preS n k a p).length ≤ 1000 from Nat.le_trans (preS_le h1 h2) (lst_le hn hk4 (by omega))))
  generalize hkk : ((k + 1 : Nat) : Int) = kk at hk0 hk1 ⊢
  clear IH hkk
  go_enter Try.func61, Try.ntmps61
  go_wp2
  go_loopw [7, 8] (fun o i wr => LsO n k a w o i wr) (fun _ i _ => n - (intOf i).toNat)
  case atStart => exact ⟨a, _, _, _, _, Nat.le_refl _, ha, rfl, rfl, HO0, HB0⟩
  case round =>
    clear HO0 HB0
    obtain ⟨p, g, c, L, VR, hap, hpn, rfl, rfl, HT, HB⟩ := hrel
    by_cases hlt : p < n
    · go_wp2_with fail
      refine (HIH.out p wr hpn).mono ?_
      rintro e w2 ⟨gR, cR, VRR, rfl, hT2, hb2⟩
      obtain ⟨N, HN⟩ : ∃ N, Hid ((lstS n k p).length = N) := ⟨_, rfl⟩
      rw [HN.out] at hT2 ⊢
      have hN : N ≤ 1000 := by rw [← HN.out]; exact lst_le hn (by omega) (by omega)
      have hgne : g ≠ gR := by have := HT.out.g_lt; have := hT2.out.g_lt; omega
      have HT2 : Hid (RowsT w2 w.heap.size g c L (preS n k a p ++ ((lstS n k p).take 0).map (p :: ·)) VR) := by
        have := HT.out.below hb2.out
        rw [List.take_zero, List.map_nil, List.append_nil]; exact this
      have HR2 := Lib.hid hT2.out
      have HB2 : Hid (Below w.heap.size w w2) := HB.out.trans (hb2.out.mono HB.out.size)
      clear HT HB hT2 hb2
      go_wp2
      go_loopw [7, 28] (fun o i wr' => LsI n k a p gR cR N VRR wr.heap.size w o i wr') (fun _ i _ => N - (intOf i).toNat)
      case atStart => exact ⟨0, _, _, _, _, Nat.zero_le _, rfl, rfl, hgne, HT2, HR2, HB2⟩
      case round =>
        clear HT2 HR2 HB2 hgne
        obtain ⟨j, g, c, L, VR, hj, rfl, rfl, hgne, HT, HR, HB⟩ := hrel
        by_cases hlj : j < N
        · obtain ⟨A1, n1, c1, hc1, hp1, hl1⟩ := HR.out.rowAt hlj
          have hls : (lstS n k p).getD j [] ∈ lstS n k p := by simp [List.getD, HN.out, hlj]
          have hn1 : n1 = k := by rw [← hl1]; exact (lstS_mem.1 hls).1
          rw [hn1] at hc1 hp1 hl1
          clear hn1
          obtain ⟨l, Hl⟩ : ∃ l, Hid ((lstS n k p).getD j [] = l) := ⟨_, rfl⟩
          rw [Hl.out] at hp1 hl1
          have HP1 := Lib.hid hp1
          have hLl := Hlen.out (p + 1) (by omega) (by omega)
          have hLe := HT.out.len
          have hL : L + 1 ≤ 1000 := by
            rw [preS_step hap, List.length_append, List.length_map, HN.out] at hLl
            rw [List.length_append, List.length_map, List.length_take, HN.out] at hLe
            omega
          have hb3 : Below wr.heap.size wr ((wr.alloc (.cells #[.int .i64 ((p : Nat) : Int)] 3)).alloc (.cells #[.slice (some ⟨wr.heap.size, 0, none⟩) 1 1, .slice A1 k c1] 23)) := ((Below.refl _ _).alloc (Nat.le_refl _) _).alloc (by rw [size_alloc1]; omega) _
          have hs3 : ((wr.alloc (.cells #[.int .i64 ((p : Nat) : Int)] 3)).alloc (.cells #[.slice (some ⟨wr.heap.size, 0, none⟩) 1 1, .slice A1 k c1] 23)).heap.size = wr.heap.size + 1 + 1 := by rw [size_alloc1, size_alloc1]
          have hv3 : ((wr.alloc (.cells #[.int .i64 ((p : Nat) : Int)] 3)).alloc (.cells #[.slice (some ⟨wr.heap.size, 0, none⟩) 1 1, .slice A1 k c1] 23)).heap[wr.heap.size + 1]? = some (.cells #[.slice (some ⟨wr.heap.size, 0, none⟩) 1 1, .slice A1 k c1] 23 (0, 0)) := by
            have := heap_alloc_new (wr.alloc (.cells #[.int .i64 ((p : Nat) : Int)] 3)) (.cells #[.slice (some ⟨wr.heap.size, 0, none⟩) 1 1, .slice A1 k c1] 23)
            rw [size_alloc1] at this; exact this
          have hp3 : ((wr.alloc (.cells #[.int .i64 ((p : Nat) : Int)] 3)).alloc (.cells #[.slice (some ⟨wr.heap.size, 0, none⟩) 1 1, .slice A1 k c1] 23)).heap[wr.heap.size]? = some (.cells #[.int .i64 ((p : Nat) : Int)] 3 (0, 0)) := by
            rw [heap_alloc_old _ _ (by rw [size_alloc1]; omega)]; exact heap_alloc_new _ _
          have HCc : Hid (Calls Try.prog 57 #[.slice (some ⟨wr.heap.size + 1, 0, none⟩) 2 2] ((wr.alloc (.cells #[.int .i64 ((p : Nat) : Int)] 3)).alloc (.cells #[.slice (some ⟨wr.heap.size, 0, none⟩) 1 1, .slice A1 k c1] 23)) (RowQ (cI (p :: l)) ((wr.alloc (.cells #[.int .i64 ((p : Nat) : Int)] 3)).alloc (.cells #[.slice (some ⟨wr.heap.size, 0, none⟩) 1 1, .slice A1 k c1] 23)))) := by
            show Calls _ _ _ _ _
            have e : cI (p :: l) = [((p : Nat) : Int)] ++ cI l := rfl
            rw [e]
            refine concatQ_any (wr.heap.size + 1) 2 1 1 k c1 (some ⟨wr.heap.size, 0, none⟩) A1 [((p : Nat) : Int)] (cI l) _ ⟨fun _ => ⟨wr.heap.size, 0, rfl, by rw [hs3]; omega, fun i hi => ?_⟩, rfl, (fun h => by cases h), fun a ha => ⟨wr.heap.size, 0, by injection ha with ha; exact ha.symm⟩⟩ (HP1.out.later hb3) (by omega) (by omega) hv3
            obtain rfl : i = 0 := by simp at hi; exact hi
            rw [cell_of_row _ _ _ _ _ _ hp3]; rfl
          have HB3 := Lib.hid hb3
          have Hs3 := Lib.hid hs3
          have Hkl : Hid ((cI (p :: l)).length = k + 1) := by show _ = _; rw [cI_length, List.length_cons, hl1]
          clear hb3 hs3 hv3 hp3 hLl hLe hls hp1 HP1
          go_wp2_with fail
          refine HCc.out.mono ?_
          rintro e w4 ⟨A4, c4, rfl, ho4, hb4⟩
          rw [Hkl.out] at ho4 ⊢
          have HB4 : Hid (Below wr.heap.size wr w4) := HB3.out.trans (hb4.out.mono HB3.out.size)
          have HO4 : Hid (w4.ownsRow wr.heap.size 3 1 (.slice A4 (k + 1) c4) (k + 1) ((cI (p :: l)).map (Value.int .i64))) := own_lowQ ho4.out HB3.out.size
          have HT4 := Lib.hid (World.ownsRow.alloc (HT.out.below HB4.out).out (.cells #[.slice A4 (k + 1) c4] 23))
          have hsz1 : L + 1 ≤ maxLen := by unfold maxLen; omega
          have hsz2 : (L + 1) * 24 ≤ 140737488355328 := by omega
          have hB4 : w.heap.size ≤ w4.heap.size := Nat.le_trans HB.out.size HB4.out.size
          have hsz3 : w.heap.size ≤ (w4.alloc (.cells #[.slice A4 (k + 1) c4] 23)).heap.size := by rw [size_alloc1]; omega
          clear ho4 hb4 HCc HB3 Hs3
          go_wp2_with (at_builtin; refine wpList_append_lies _ rfl _ _ 36 rfl w.heap.size 23 is _ 1 24 Try.underlying36 his hzs0 hzs1 hzs2 rfl (by decide) _ _ _ rfl HT4.out ⟨_, 0, none⟩ 1 1 [.slice A4 (k + 1) c4] rfl rfl (cell_one_new _ _ _) (by intro u hu; simp at hu; subst hu; rfl) (by decide) hsz1 hsz2 hsz3 _ rfl ?_; intro g5 c5 w5 hown5 hgrow5 hat5 hlt5)
          obtain ⟨hT5, hB5⟩ := HT.out.push HB.out HB4.out Hkl.out HO4.out hown5 hgrow5
          have HR5 := Lib.hid (HR.out.stay HT.out hgne HB4.out hgrow5)
          have hg5 : g5 ≠ gR := by
            rcases hat5 with h5 | h5
            · injection h5 with h5
              rw [← h5]; exact hgne
            · have h6 := HR.out.g_lt.2
              have h7 := HB4.out.size
              rw [size_alloc1] at h5
              omega
          have HT5 : Hid (RowsT w5 w.heap.size g5 c5 (L + 1) (preS n k a p ++ ((lstS n k p).take (j + 1)).map (p :: ·)) (upd VR L (.slice A4 (k + 1) c4))) := by
            show RowsT _ _ _ _ _ _ _
            rw [take_snocQ (by rw [HN.out]; exact hlj), Hl.out, ← List.append_assoc]; exact hT5
          have HB5 := Lib.hid hB5
          clear hT5 hB5 hown5 hgrow5 hat5 hlt5 HT HR HT4 HO4 HB4 hsz1 hsz2 hsz3 hB4
          go_wp2
          go_roundw
          case rel => exact ⟨j + 1, g5, c5, L + 1, _, by omega, rfl, by go_num, hg5, HT5, HR5, HB5⟩
          case measure => simp [intOf]; omega
        · obtain rfl : j = N := by omega
          have HT2 : Hid (RowsT wr w.heap.size g c L (preS n k a (p + 1)) VR) := by
            show RowsT _ _ _ _ _ _ _
            rw [preS_step hap]
            have := HT.out
            rw [List.take_of_length_le (by rw [HN.out]; omega)] at this
            exact this
          clear HT HR
          go_wp2
          go_roundw
          case rel => exact ⟨p + 1, g, c, L, VR, by omega, by omega, rfl, by go_num, HT2, HB⟩
          case measure => simp [intOf]; omega
    · obtain rfl : p = n := by omega
      have HE : Hid (LsPost (lstS p (k + 1) a) w (.returned (.slice (some ⟨g, 0, none⟩) L c)) wr) := by
        have hl := HT.out.len
        rw [preS_end] at hl
        subst hl
        exact ⟨g, c, VR, rfl, HT, HB⟩
      go_wp2
      go_ret
      exact HE.out
theorem lists_any (n : Nat) (hn : n ≤ 9) : ∀ k, k ≤ 4 → LsAt n k
  | 0, _ => ls_zero n hn
  | k + 1, hk => ls_step n k hn hk (lists_any n hn k (by omega))
end Go.Proofs.Ytoohfipicmdohaa
namespace Go.Proofs.Ytoohfipicmdohaa
open Go.ChangeShapes Go.WideShapes Go.ChangeAt Go.RowKit
set_option linter.unusedVariables false
set_option maxRecDepth 4000

def InRel (n : Nat) (o : List Nat) (s : Nat) (w : World) (i : Value) (wr : World) : Prop :=
  ∃ p : Nat, p ≤ n ∧ i = .int .i64 ((p : Nat) : Int) ∧ Hid (∀ q, q < p → adS n o q ≤ s) ∧ Hid (Below w.heap.size w wr)
theorem rstI_all {n : Nat} {ss : List Nat} {i s : Nat} (hs : shK ss (ss.getD i 0) n = s) (h : ∀ q, q < n → adS n (otS ss i) q ≤ s) : rstI n ss i = true := by
  simp only [rstI, List.all_eq_true, List.mem_range, decide_eq_true_eq]
  intro q hq
  rw [hs]; exact h q hq
theorem rstI_fail {n : Nat} {ss : List Nat} {i s p : Nat} (hs : shK ss (ss.getD i 0) n = s) (hp : p < n) (h : s < adS n (otS ss i) p) : rstI n ss i = false := by
  rw [Bool.eq_false_iff]
  intro hc
  simp only [rstI, List.all_eq_true, List.mem_range, decide_eq_true_eq] at hc
  have := hc p hp
  rw [hs] at this
  omega
set_option maxHeartbeats 3200000 in
theorem sRests_any (n m c : Nat) (A : Option Addr) (ss : List Nat) (w : World) (hp : PIn w A c m (cI ss)) (hS : Sh n ss) (h2 : 2 ≤ m) :
    Calls Try.prog 58 #[.int .i64 (n : Int), .slice A m c] w (ValQ (rstS n ss) w) := by
  obtain ⟨i0, hi0, hz0, hz1, hz2⟩ := info_parts intInfo
  have hm : ss.length = m := by rw [← cI_length]; exact hp.len
  have hl4 := hS.l4
  have hn1 := hS.n1
  have hn9 := hS.n9
  have Hm := Lib.hid hm
  obtain ⟨b, off, -, hA, hbl, -⟩ := hp.rd.q (k := 0) (by omega)
  subst hA
  have HP := Lib.hid hp
  have hmc := hp.cap
  have HS := Lib.hid (sShares_any n m c _ ss w hp.rd hm (by omega) (by omega) hn9 hS.lt)
  have HL : Hid ((cI (shL n ss)).length = m) := by show _ = _; rw [cI_length, shL_length, hm]
  have HSb : Hid (∀ (i p : Nat) (A : Option Addr) (c : Nat) (W : World), i < m → p < n → PartQ W A (m - 1) c (cI (otS ss i)) → Calls Try.prog 56 #[.int .i64 (n : Int), .slice A (m - 1 : Nat) c, .int .i64 (p : Int)] W fun e w' => e = .returned (.int .i64 ((adS n (otS ss i) p : Nat) : Int)) ∧ Below W.heap.size W w') :=
    fun i p A c W hi hpn hq => sShareAt_any n p (m - 1) c A (otS ss i) W hq (by omega) (by omega) hn9 ((hS.others (by omega) (by omega)).lt) hpn
  have Hol : Hid (∀ i, i < m → (cI (otS ss i)).length = m - 1) := fun i hi => by rw [cI_length, otS_length (by omega), hm]
  have hm4 : m ≤ 4 := by omega
  clear hp hS hm hbl hl4
  go_enter Try.func58, Try.ntmps58
  go_wp2_with fail
  refine HS.out.mono ?_
  rintro e w2 ⟨A2, c2, rfl, ho2, hb2⟩
  rw [HL.out] at ho2 ⊢
  obtain ⟨A3, c3, he, -, -, hrd⟩ := own_slice ho2.out HL.out
  injection he with he1 _ he3
  subst he1 he3
  have Hrd := Lib.hid hrd
  have HB2 := Lib.hid hb2.out
  clear ho2 hb2 hrd
  go_wp2
  go_loopw [6] (fun i wr => IrRel n m ss w2 i wr) (fun i _ => m - (intOf i).toNat)
  case atStart => exact ⟨0, Nat.zero_le _, rfl, fun j hj => by omega, Below.refl _ _⟩
  case round =>
    obtain ⟨k, hk, rfl, HR, HBw⟩ := hrel
    by_cases hlt : k < m
    · have HPw := Lib.hid (HP.out.later (HB2.out.trans (HBw.out.mono HB2.out.size)))
      obtain ⟨A', c', ⟨b', o', hA1⟩, hA2, hA3, htl⟩ := tail_runQ b off m c (k + 1) (by omega) hmc.1
      subst hA1
      rw [show ((k + 1 : Nat) : Int) = (k : Int) + 1 from rfl] at htl
      have hhd := head_runQ b off m c k (by omega) hmc.1
      have hk1 : (0 : Int) ≤ (k : Int) + 1 := by omega
      have hk2 : (k : Int) + 1 ≤ (m : Int) := by omega
      have hw1 : IntKind.i64.wrap ((k : Int) + 1) = (k : Int) + 1 := IntWalk.i64_in _ (by omega)
      have Hot : Hid ([] ++ cI (ss.take k) ++ cI (ss.drop (k + 1)) = cI (otS ss k)) := by show _ = _; rw [List.nil_append]; unfold otS; exact (cI_append _ _).symm
      have HPA : Hid (∀ V, Below wr.heap.size wr V → PartQ V (some ⟨b, off, none⟩) k c (cI (ss.take k))) := fun V hV =>
        ⟨(HPw.out.later hV).rd.takeQ k, by rw [cI_length, List.length_take, Hm.out]; omega, (fun h => by cases h), fun a ha => ⟨b, off, by injection ha with ha; exact ha.symm⟩⟩
      have HPB : Hid (∀ V, Below wr.heap.size wr V → PartQ V (some ⟨b', o', none⟩) (m - (k + 1)) c' (cI (ss.drop (k + 1)))) := fun V hV => by
        refine ⟨?_, by rw [cI_length, List.length_drop, Hm.out], (fun h => by cases h), fun a ha => ⟨b', o', by injection ha with ha; exact ha.symm⟩⟩
        rcases hA2 with h0 | h0
        · rw [h0]; exact (HPw.out.later hV).rd.dropQ (k + 1)
        · intro hl; rw [cI_length, List.length_drop, Hm.out] at hl; omega
      have HO0 : Hid ((wr.alloc (.cells #[] 3)).ownsRow wr.heap.size 3 1 (.slice (some ⟨wr.heap.size, 0, none⟩) 0 0) 0 (([] : List Int).map (Value.int .i64))) := World.ownsRow_lit wr #[] 0 (Nat.le_refl _) (by decide) rfl
      have HB0 : Hid (Below wr.heap.size wr (wr.alloc (.cells #[] 3))) := (Below.refl _ _).alloc (Nat.le_refl _) _
      have Hne0 : Hid ((Value.slice (some ⟨wr.heap.size, 0, none⟩) 0 0) ≠ .slice none 0 0) := (by intro h; cases h)
      go_wp2
      go_region_law (first
        | (refine step_append_partQ hi0 hz0 hz1 hz2 rfl (.tmp 22) (.tmp 26) rfl wr.heap.size v1 (0 + k) ([] ++ cI (ss.take k)) rfl hown1 hne1 b' o' (m - (k + 1)) c' (cI (ss.drop (k + 1))) rfl (HPB.out _ (HB0.out.drew.trans hb5)) (by omega) (by omega) (HB0.out.drew.trans hb5).size ?_
           intro v2 w6 hown2 hne2 hb6)
        | (refine step_append_partQ hi0 hz0 hz1 hz2 rfl (.tmp 18) (.tmp 21) rfl wr.heap.size (.slice (some ⟨wr.heap.size, 0, none⟩) 0 0) 0 [] rfl HO0.out Hne0.out b off k c (cI (ss.take k)) rfl (HPA.out _ HB0.out.drew) (by omega) (by omega) HB0.out.drew.size ?_
           intro v1 w5 hown1 hne1 hb5))
      rw [Hot.out] at hown2
      have HB6 : Hid (Below w2.heap.size w2 w6) := HBw.out.trans (((HB0.out.drew.trans hb5).trans hb6).mono HBw.out.size)
      rw [show 0 + k + (m - (k + 1)) = m - 1 by omega] at hown2
      obtain ⟨A6, c6, rfl, hp6⟩ := part_own hown2 (Hol.out k hlt)
      have HP6 := Lib.hid hp6
      obtain ⟨s, Hs⟩ : ∃ s, Hid (shK ss (ss.getD k 0) n = s) := ⟨_, rfl⟩
      have HX : Hid (∀ V, Below w2.heap.size w2 V → ∃ b2 o2, A2 = some ⟨b2, o2, none⟩ ∧ b2 < w2.heap.size ∧ V.cell? ⟨b2, o2 + k, none⟩ = some (.int .i64 ((s : Nat) : Int))) := fun V hV => by
        obtain ⟨b2, o2, x, e, hb, Hx, hcx⟩ := (Hrd.out.below hV).x (k := k) (by rw [HL.out]; exact hlt)
        rw [← Hx.out, cI_getD, shL_getD (by rw [Hm.out]; exact hlt), Hs.out] at hcx
        exact ⟨b2, o2, e, hb, hcx⟩
      clear hown1 hne1 hb5 hown2 hne2 hb6 hp6 HO0 HB0 Hne0 HPA HPB hA2 hA3 htl hhd HPw
      go_wp2
      go_loopw [8] (fun i wr' => InRel n (otS ss k) s w6 i wr') (fun i _ => n - (intOf i).toNat)
      case atStart => exact ⟨0, Nat.zero_le _, rfl, fun q hq => by omega, Below.refl _ _⟩
      case round =>
        obtain ⟨p, hpn, rfl, HI, HBi⟩ := hrel
        by_cases hlp : p < n
        · have HB7 : Hid (Below w2.heap.size w2 wr) := HB6.out.trans (HBi.out.mono HB6.out.size)
          obtain ⟨b2, o2, rfl, hb2l, hcx⟩ := HX.out wr HB7.out
          obtain ⟨a, Ha⟩ : ∃ a, Hid (adS n (otS ss k) p = a) := ⟨_, rfl⟩
          have Hsb : Hid (∀ V, Below wr.heap.size wr V → Calls Try.prog 56 #[.int .i64 (n : Int), .slice A6 (m - 1 : Nat) c6, .int .i64 (p : Int)] V fun e w' => e = .returned (.int .i64 ((a : Nat) : Int)) ∧ Below V.heap.size V w') := fun V hV => by
            have := HSb.out k p A6 c6 V hlt hlp (HP6.out.later (HBi.out.trans (hV.mono HBi.out.size)))
            rw [Ha.out] at this
            exact this
          have hb2w : b2 < wr.heap.size := Nat.lt_of_lt_of_le hb2l HB7.out.size
          have Hcx := Lib.hid hcx
          have Hb2w := Lib.hid hb2w
          by_cases hsa : s < a
          · have HE : Hid (rstS n ss = false) := rstS_no (i := k) (by rw [Hm.out]; exact hlt) (rstI_fail Hs.out hlp (by rw [Ha.out]; exact hsa))
            clear hb2l hb2w
            go_wp2
            go_region_held3 (fun w' => w'.cell? ⟨b2, o2 + k, none⟩ = some (.int .i64 ((s : Nat) : Int)))
              (first
                | go_keep
                | exact (hb8.cell (p := ⟨b2, o2 + k, none⟩) Hb2w.out).trans Hcx.out)
              (first
                | (go_at_call 56
                   refine (Hsb.out _ (by first | exact Below.refl _ _ | exact (Below.refl _ _).drew)).mono ?_
                   rintro e w8 ⟨rfl, hb8'⟩
                   have hb8 : Below wr.heap.size wr w8 := (by first | exact hb8' | exact (Below.refl wr.heap.size wr).drew.trans hb8')))
            go_wp2
            go_ret
            exact ⟨ret_bool HE.out.symm, HB2.out.trans ((HB7.out.trans (hb8.mono HB7.out.size)).mono HB2.out.size)⟩
          · have HI2 : Hid (∀ q, q < p + 1 → adS n (otS ss k) q ≤ s) := fun q hq => by
              by_cases e : q = p
              · subst e; rw [Ha.out]; omega
              · exact HI.out q (by omega)
            clear hb2l hb2w
            go_wp2
            go_region_held3 (fun w' => w'.cell? ⟨b2, o2 + k, none⟩ = some (.int .i64 ((s : Nat) : Int)))
              (first
                | go_keep
                | exact (hb8.cell (p := ⟨b2, o2 + k, none⟩) Hb2w.out).trans Hcx.out)
              (first
                | (go_at_call 56
                   refine (Hsb.out _ (by first | exact Below.refl _ _ | exact (Below.refl _ _).drew)).mono ?_
                   rintro e w8 ⟨rfl, hb8'⟩
                   have hb8 : Below wr.heap.size wr w8 := (by first | exact hb8' | exact (Below.refl wr.heap.size wr).drew.trans hb8')))
            have HB8 : Hid (Below w6.heap.size w6 w8) := HBi.out.trans (hb8.mono HBi.out.size)
            go_wp2
            go_roundw
            case rel => exact ⟨p + 1, by omega, by go_num, HI2, HB8⟩
            case measure => simp [intOf]; omega
        · obtain rfl : p = n := by omega
          have HR2 : Hid (∀ j, j < k + 1 → rstI p ss j = true) := fun j hj => by
            by_cases e : j = k
            · subst e; exact rstI_all Hs.out HI.out
            · exact HR.out j (by omega)
          have HB7 : Hid (Below w2.heap.size w2 wr) := HB6.out.trans (HBi.out.mono HB6.out.size)
          clear HI HBi
          go_wp2
          go_roundw
          case rel => exact ⟨k + 1, by omega, by go_num, HR2, HB7⟩
          case measure => simp [intOf]; omega
    · obtain rfl : k = m := by omega
      have HE : Hid (rstS n ss = true) := rstS_yes fun i hi => HR.out i (by rw [Hm.out] at hi; exact hi)
      go_wp2
      go_ret
      exact ⟨ret_bool HE.out.symm, HB2.out.trans (HBw.out.mono HB2.out.size)⟩
theorem sIsRest_ok : QBool 31 rtQ := by
  intro n A c m zs w hp
  have HV := Lib.hid (sValidShops_in n A c m zs w hp)
  by_cases hv : vsh n zs = true
  · obtain ⟨n, ss, rfl, rfl, hS⟩ := vsh_get hv
    rw [hv] at HV
    have hm : ss.length = m := by rw [← cI_length]; exact hp.len
    by_cases h2 : m < 2
    · rw [rtQ_no (.inr (by rw [cI_length]; omega))]
      clear hv hS hp hm
      go_enter Try.func31, Try.ntmps31
      go_wp2_with fail
      refine HV.out.mono ?_
      rintro e w1 ⟨rfl, hb1⟩
      go_wp2
      go_ret
      exact ⟨rfl, hb1⟩
    · rw [rtQ_yes hS (by omega)]
      have HR := Lib.hid (fun (W : World) (hW : Below w.heap.size w W) => sRests_any n m c A ss W (hp.later hW) hS (by omega))
      clear hv hS hp hm
      go_enter Try.func31, Try.ntmps31
      go_wp2_with fail
      refine HV.out.mono ?_
      rintro e w1 ⟨rfl, hb1⟩
      have HB1 := Lib.hid hb1
      clear hb1
      go_wp2_with fail
      refine (HR.out w1 HB1.out).mono ?_
      rintro e w2 ⟨rfl, hb2⟩
      go_wp2
      go_ret
      exact ⟨rfl, HB1.out.trans (hb2.mono HB1.out.size)⟩
  · have hv' : vsh n zs = false := by simpa using hv
    rw [hv'] at HV
    rw [rtQ_no (.inl hv')]
    clear hv hv' hp
    go_enter Try.func31, Try.ntmps31
    go_wp2_with fail
    refine HV.out.mono ?_
    rintro e w1 ⟨rfl, hb1⟩
    go_wp2
    go_ret
    exact ⟨rfl, hb1⟩
end Go.Proofs.Ytoohfipicmdohaa
