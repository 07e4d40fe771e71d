/-
  choices: all ascending choices of so many numbers, walked.
  Conditions: as each theorem states.
-/
import Derived.Test.YtoohfipicmdohabS4
namespace Go.Proofs.Ytoohfipicmdohab
open Go.ChangeShapes Go.WideShapes Go.ChangeAt Go.RowKit
set_option linter.unusedVariables false
set_option maxRecDepth 4000

theorem slInfo : (Try.prog.info? 23).map (fun i => (i.zero, i.size, i.bytes)) = some (some (.slice none 0 0), 1, 24) := by kernel_rfl
theorem own_below {w w' : World} {B s n : Nat} {e : TypeId} {v : Value} {xs : List Value} (h : w.ownsRow B e s v n xs) (hb : Below w.heap.size w w') : w'.ownsRow B e s v n xs := by
  refine ⟨h.1, ?_⟩
  rcases h.2 with h0 | ⟨g, cap, cur, h1, h2, hg, h3⟩
  · exact .inl h0
  · exact .inr ⟨g, cap, cur, h1, h2, (hb.block g (Array.getElem?_eq_some_iff.1 hg).1).trans hg, h3⟩
theorem own_elem {w : World} {B n : Nat} {v : Value} {xs : List Value} (h : w.ownsRow B 23 1 v n xs) : ∀ g, v.ownBlock = some g → ∀ cs, w.heap[g]? ≠ some (Obj.cells cs 3 (0, 0)) := by
  intro g hg cs hcs
  rcases h.2 with ⟨rfl, _⟩ | ⟨g', cap, cur, rfl, h2, hb, h3⟩
  · simp [Value.ownBlock] at hg
  · have e : g' = g := by simpa [Value.ownBlock] using hg
    subst e
    rw [hb] at hcs
    injection hcs with hcs
    injection hcs with _ h5 _
    exact absurd h5 (by decide)

def Chosen (w : World) (L : List (List Int)) (e : Ending) (w' : World) : Prop :=
  ∃ v vs, e = .returned v ∧ w'.ownsRow w.heap.size 23 1 v L.length vs ∧ RdLL w' vs L ∧ Below w.heap.size w w'

/-- What the loops of choices keep: the rows so far. -/
structure Kept (W w : World) (out : Value) (acc : List (List Int)) (vs : List Value) : Prop where
  own : w.ownsRow W.heap.size 23 1 out acc.length vs
  rd : RdLL w vs acc
  bel : Below W.heap.size W w

theorem Kept.mid {W wr w2 : World} {out : Value} {acc : List (List Int)} {vs : List Value} {a : Int} (h : Kept W wr out acc vs) (g2 : (wr.alloc (.cells #[.int .i64 a] 3)).grownBy w2 (some wr.heap.size)) :
    w2.ownsRow W.heap.size 23 1 out acc.length vs ∧ W.heap.size ≤ w2.heap.size := by
  refine ⟨(h.own.alloc _).kept g2 ?_, ?_⟩
  · by_cases hn : out.ownBlock = none
    · exact .inl hn
    · exact .inr (fun e => by have := (h.own.lt _ e).2; omega)
  · have h1 := g2.size
    have h2 := h.bel.size
    simp at h1
    omega
theorem slice_one (A : Option Addr) (n c : Nat) : ∀ u ∈ [Value.slice A n c], u.oneCell' = true := by
  intro u hu; simp at hu; subst hu; rfl

/-- One more row: the new row lies in a new block, or in out's. -/
theorem Kept.step {W wr w2 w3 : World} {out out' : Value} {acc : List (List Int)} {vs : List Value} {a : Int} {l : List Int} {v2 : Value} (h : Kept W wr out acc vs)
    (h2 : w2.ownsRow wr.heap.size 3 1 v2 (1 + l.length) ([Value.int .i64 a] ++ l.map (Value.int .i64))) (g2 : (wr.alloc (.cells #[.int .i64 a] 3)).grownBy w2 (some wr.heap.size))
    (h3 : w3.ownsRow W.heap.size 23 1 out' (acc.length + 1) (vs ++ [v2])) (g3 : (w2.alloc (.cells #[v2] 23)).grownBy w3 out.ownBlock) :
    Kept W w3 out' (acc ++ [a :: l]) (vs ++ [v2]) := by
  have ho2 : w2.ownsRow W.heap.size 23 1 out acc.length vs := (h.own.alloc _).kept g2 (by
    by_cases hn : out.ownBlock = none
    · exact .inl hn
    · exact .inr (fun e => by have := (h.own.lt _ e).2; omega))
  have ho3 := ho2.alloc (.cells #[v2] 23)
  have hm : ∀ A l', RdL w2 A l' → RdL w3 A l' := fun A l' hl => (hl.alloc _).grown g3 (own_elem ho3)
  have hnew : w2.ownsRow wr.heap.size 3 1 v2 (1 + l.length) ((a :: l).map (Value.int .i64)) := h2
  obtain ⟨A, c, rfl, hc, hA⟩ := RdL.own hnew (by simp; omega) (by omega)
  have hl : (a :: l).length = 1 + l.length := by simp; omega
  have hb2 : Below W.heap.size W w2 := (h.bel.alloc h.bel.size _).grown g2 (by simp; have := h.bel.size; omega) (fun g hg => by cases hg; exact h.bel.size)
  refine ⟨by rw [List.length_append]; exact h3, ?_, ?_⟩
  · rw [← hl]
    exact RdLL.snoc (h.rd.map fun A l' hl' => hm A l' (hl'.new g2)) (by rw [hl]; exact hc) (hm _ _ hA)
  · exact (hb2.alloc hb2.size _).grown g3 (by simp; have := hb2.size; omega) (fun g hg => (h.own.lt g hg).1)

theorem own_slice1 {w : World} {B s n : Nat} {e : TypeId} {v : Value} {xs : List Value} (h : w.ownsRow B e s v n xs) : ∃ A c, v = .slice A n c := by
  rcases h.2 with ⟨rfl, rfl⟩ | ⟨g, cap, cur, rfl, _⟩
  · exact ⟨_, _, rfl⟩
  · exact ⟨_, _, rfl⟩
theorem RdL.addr {w : World} {A : Option Addr} {l : List Int} (h : RdL w A l) : ∃ b, A = some ⟨b, 0, none⟩ ∧ RdL w (some ⟨b, 0, none⟩) l := by
  obtain ⟨b, cs, rfl, hb, hc⟩ := h
  exact ⟨b, rfl, b, cs, rfl, hb, hc⟩
theorem RdL.news {w : World} {b : Nat} {l : List Int} (h : RdL w (some ⟨b, 0, none⟩) l) : ∀ j u, (l.map (Value.int .i64))[j]? = some u → w.cell? ((⟨b, 0, none⟩ : Addr).add j) = some u := by
  intro j u hu
  obtain ⟨b', cs, e, hb, hc⟩ := h
  injection e with e
  injection e with e _ _
  subst e
  rw [List.getElem?_map] at hu
  obtain ⟨x, hx, rfl⟩ := Option.map_eq_some_iff.1 hu
  have hj : j < l.length := (List.getElem?_eq_some_iff.1 hx).1
  have he : (⟨b, 0, none⟩ : Addr).add j = ⟨b, j, none⟩ := by unfold Addr.add; split <;> simp_all
  rw [he, cell_of_row _ _ _ _ _ _ hb, hc j hj]
  simp [List.getD, hx]
theorem ints_one (l : List Int) : ∀ u ∈ l.map (Value.int .i64), u.oneCell' = true := by
  intro u hu
  obtain ⟨x, _, rfl⟩ := List.mem_map.1 hu
  rfl

/-- What the inner loop keeps of the rest's rows. -/
structure Rest (wr : World) (rv : Value) (L : List (List Int)) (rvs : List Value) (out : Value) : Prop where
  own : ∃ B, wr.ownsRow B 23 1 rv L.length rvs
  rd : RdLL wr rvs L
  dis : ∀ g, rv.ownBlock = some g → out.ownBlock ≠ some g
theorem Rest.step {W wr w2 w3 : World} {rv out out' : Value} {acc : List (List Int)} {vs rvs : List Value} {L : List (List Int)} {a : Int} {v2 : Value} (h : Rest wr rv L rvs out) (ho : Kept W wr out acc vs)
    (g2 : (wr.alloc (.cells #[.int .i64 a] 3)).grownBy w2 (some wr.heap.size)) (g3 : (w2.alloc (.cells #[v2] 23)).grownBy w3 out.ownBlock)
    (hl : out'.ownBlock = out.ownBlock ∨ out'.ownBlock = some (w2.heap.size + 1)) : Rest w3 rv L rvs out' := by
  obtain ⟨⟨B, hb⟩, hr, hd⟩ := h
  have ho2 : w2.ownsRow W.heap.size 23 1 out acc.length vs := (ho.own.alloc _).kept g2 (by
    by_cases hn : out.ownBlock = none
    · exact .inl hn
    · exact .inr (fun e => by have := (ho.own.lt _ e).2; omega))
  have hb2 : w2.ownsRow B 23 1 rv L.length rvs := (hb.alloc _).kept g2 (by
    by_cases hn : rv.ownBlock = none
    · exact .inl hn
    · exact .inr (fun e => by have := (hb.lt _ e).2; omega))
  have hb3 : w3.ownsRow B 23 1 rv L.length rvs := (hb2.alloc _).kept g3 (by
    rcases hq : rv.ownBlock with _ | g
    · exact .inl rfl
    · exact .inr (fun e => hd g hq e.symm))
  refine ⟨⟨B, hb3⟩, hr.map fun A l' hl' => ((hl'.new g2).alloc _).grown g3 (own_elem (ho2.alloc _)), fun g hg => ?_⟩
  rcases hl with hl | hl
  · rw [hl]; exact hd g hg
  · rw [hl]
    intro e
    injection e with e
    have := (hb2.lt g hg).2
    omega
theorem Rest.start {W w0 w1 : World} {rv out : Value} {acc : List (List Int)} {vs rvs : List Value} {L : List (List Int)} (hk : Kept W w0 out acc vs) (rown : w1.ownsRow w0.heap.size 23 1 rv L.length rvs) (rrd : RdLL w1 rvs L) : Rest w1 rv L rvs out :=
  ⟨⟨_, rown⟩, rrd, fun g hg e => by have h1 := (rown.lt g hg).1; have h2 := (hk.own.lt g e).2; omega⟩
theorem Kept.called {W w0 w1 : World} {out : Value} {acc : List (List Int)} {vs : List Value} (hk : Kept W w0 out acc vs) (hb : Below w0.heap.size w0 w1) : Kept W w1 out acc vs :=
  ⟨own_below hk.own hb, hk.rd.map fun A l hl => hl.below hb, hk.bel.trans (hb.mono hk.bel.size)⟩

theorem chosen_zero {w : World} {tu d : Nat} : Chosen w (chd tu 0 d) (.returned (.slice (some ⟨w.heap.size + 1, 0, none⟩) 1 1)) ((w.alloc (.cells #[] 3)).alloc (.cells #[.slice (some ⟨w.heap.size, 0, none⟩) 0 0] 23)) := by
  refine ⟨_, [.slice (some ⟨w.heap.size, 0, none⟩) 0 0], rfl, ?_, ?_, ?_⟩
  · have h := World.ownsRow_lit (w.alloc (.cells #[] 3)) #[.slice (some ⟨w.heap.size, 0, none⟩) 0 0] 1 (base := w.heap.size) (size := 1) (e := 23) (by simp) (by decide) rfl
    simpa [chd] using h
  · refine ⟨rfl, fun i l hl => ?_⟩
    match i, hl with
    | 0, hl =>
      simp [chd] at hl
      subst hl
      refine ⟨some ⟨w.heap.size, 0, none⟩, 0, rfl, Nat.le_refl _, w.heap.size, #[], rfl, ?_, fun i hi => by simp at hi⟩
      rw [heap_alloc_old (h := by simp)]
      exact heap_alloc_new _ _
    | i + 1, hl => simp [chd] at hl
  · exact ((Below.refl _ _).alloc (Nat.le_refl _) _).alloc (by simp) _

theorem drop_step {α : Type} {L : List α} {i : Nat} {l : α} (h : L[i]? = some l) : L.drop i = l :: L.drop (i + 1) := by
  obtain ⟨hi, e⟩ := List.getElem?_eq_some_iff.1 h
  rw [List.drop_eq_getElem_cons hi, e]

def TotEq (acc L tl T : List (List Int)) (a : Int) (n : Nat) : Prop := acc ++ (((L.drop n).map (fun l => a :: l)) ++ tl) = T
/-- The inner loop's equation, one step on. -/
theorem tot_step {acc L tl T : List (List Int)} {a : Int} {i : Nat} {l : List Int} (h : TotEq acc L tl T a i) (hl : L[i]? = some l) : TotEq (acc ++ [a :: l]) L tl T a (i + 1) := by
  unfold TotEq at h ⊢
  rw [← h, drop_step hl]; simp
theorem tot_len {acc L tl T : List (List Int)} {a : Int} {i : Nat} (h : TotEq acc L tl T a i) (hT : T.length ≤ 128) (hi : i < L.length) : acc.length < 128 := by
  have := congrArg List.length h
  simp only [List.length_append, List.length_map, List.length_drop] at this
  omega
theorem tot_end {acc L tl T : List (List Int)} {a : Int} (h : TotEq acc L tl T a L.length) : acc ++ tl = T := by
  unfold TotEq at h
  rw [← h]; simp

def InnerRel (W : World) (T tl L : List (List Int)) (aI : Int) (R : Nat) (rv : Value) (rvs : List Value) (out i : Value) (wr : World) : Prop :=
  ∃ (n : Nat) (acc : List (List Int)) (vs : List Value), i = .int .i64 n ∧ n ≤ R ∧ TotEq acc L tl T aI n ∧ Kept W wr out acc vs ∧ Rest wr rv L rvs out

def ChoicesAt (k : Nat) : Prop := ∀ (fI tI kI : Int) (tu d : Nat) (w : World), tu ≤ 7 → d ≤ tu → k ≤ 4 → fI = ((tu - d : Nat) : Int) → tI = tu → kI = k →
    Calls Try.prog 47 #[.int .i64 fI, .int .i64 tI, .int .i64 kI] w (Chosen w (chd tu k d))
theorem choices_zero : ChoicesAt 0 := by
  intro fI tI kI tu d w hto hd hk hf ht hkI
  have h0 : (kI == 0) = true := by rw [hkI]; rfl
  clear hf ht hkI
  go_enter Try.func47, Try.ntmps47
  go_wp2
  go_ret
  exact chosen_zero
set_option maxHeartbeats 1600000 in
theorem choices_succ (k : Nat) (ih : ChoicesAt k) : ChoicesAt (k + 1) := by
  intro fI tI kI tu d w hto hd hk hf ht hkI
  obtain ⟨i0, hi0, hz0, hz1, hz2⟩ := info_parts intInfo
  obtain ⟨j0, hj0, hy0, hy1, hy2⟩ := info_parts slInfo
  have IH := Lib.hid ih
  clear ih
  have h0 : (kI == 0) = false := by rw [beq_eq_false_iff_ne]; omega
  obtain ⟨T, HT⟩ : ∃ T, Hid (chd tu (k + 1) d = T) := ⟨_, rfl⟩
  have hTl : T.length ≤ 128 := by rw [← HT.out]; exact chd_len hto hk (by omega)
  have HT' : Hid ([] ++ chs (chd tu k) tu d = T) := HT.out
  have Hk : Hid (kI - 1 = k) := by show _ = _; omega
  rw [HT.out]
  clear HT
  have hk1 : 1 ≤ kI := by omega
  have hk2 : kI ≤ 4 := by omega
  have Hf := Lib.hid hf
  have Ht := Lib.hid ht
  clear hf ht hkI
  go_enter Try.func47, Try.ntmps47
  go_wp2
  have hown0 : (w.alloc (.cells #[] 23)).ownsRow w.heap.size 23 1 (.slice (some ⟨w.heap.size, 0, none⟩) 0 0) 0 [] :=
    World.ownsRow_lit w #[] 0 (Nat.le_refl _) (by decide) rfl
  have K0 : Kept w (w.alloc (.cells #[] 23)) (.slice (some ⟨w.heap.size, 0, none⟩) 0 0) [] [] := ⟨hown0, RdLL.nil _, (Below.refl _ _).alloc (Nat.le_refl _) _⟩
  clear hown0
  go_loopw [7, 8] (fun out a wr => ∃ (j : Nat) (acc : List (List Int)) (vs : List Value), j ≤ d ∧ a = .int .i64 (tu - j : Int) ∧ Hid (acc ++ chs (chd tu k) tu j = T) ∧ Kept w wr out acc vs)
    (fun _ a _ => tu - (intOf a).toNat)
  case atStart => exact ⟨d, [], [], Nat.le_refl _, by rw [Hf.out]; congr 1; omega, HT', K0⟩
  case round =>
    clear K0 HT'
    obtain ⟨j, acc, vs, hj, rfl, Hacc, K⟩ := hrel
    match j, hj, Hacc with
    | 0, hj, Hacc =>
      have hT : acc = T := by have := Hacc.out; simpa [chs] using this
      subst hT
      obtain ⟨aI, HaI⟩ : ∃ aI : Int, Hid (((tu : Int) - ((0 : Nat) : Int)) = aI) := ⟨_, rfl⟩
      rw [HaI.out]
      have ha : ¬ aI < tI := by rw [← HaI.out, Ht.out]; omega
      go_wp2
      go_ret
      exact ⟨_, vs, rfl, K.own, K.rd, K.bel⟩
    | j + 1, hj, Hacc => 
      obtain ⟨aI, HaI⟩ : ∃ aI : Int, Hid (((tu : Int) - ((j + 1 : Nat) : Int)) = aI) := ⟨_, rfl⟩
      have ha0 : 0 ≤ aI := by rw [← HaI.out]; omega
      have ha1 : aI < tI := by rw [← HaI.out, Ht.out]; omega
      have ha2 : aI + 1 = ((tu - j : Nat) : Int) := by rw [← HaI.out]; omega
      rw [HaI.out]
      go_wp2_with fail
      refine (IH.out _ _ _ tu j _ hto (by omega) (by omega) rfl Ht.out Hk.out).mono ?_
      rintro e w1 ⟨rv, rvs, rfl, rown, rrd, rbel⟩
      obtain ⟨A0, c0, rfl⟩ := own_slice1 rown
      have K1 := K.called rbel
      have R1 := Rest.start K rown rrd
      clear rown rrd rbel K
      obtain ⟨L, HL⟩ : ∃ L, Hid (chd tu k j = L) := ⟨_, rfl⟩
      obtain ⟨tl, Htl⟩ : ∃ tl, Hid (chs (chd tu k) tu j = tl) := ⟨_, rfl⟩
      have Heach : Hid (∀ l ∈ L, l.length ≤ 4) := fun l hl => by have := chd_each k tu j l (by rw [HL.out]; exact hl); omega
      have Hacc2 : TotEq acc L tl T aI 0 := by
        have h := Hacc.out
        have e : ((tu - (j + 1) : Nat) : Int) = aI := by rw [← HaI.out]; omega
        simp only [chs, e, HL.out, Htl.out] at h
        exact h
      rw [HL.out] at R1
      obtain ⟨R, HR⟩ : ∃ R, Hid (L.length = R) := ⟨_, rfl⟩
      have hR : R ≤ 128 := by rw [← HR.out, ← HL.out]; exact chd_len hto (by omega) (by omega)
      rw [HL.out, HR.out]
      go_wp2_with fail
      go_loopw [7, 10] (fun out i wr => InnerRel w T tl L aI R (.slice A0 R c0) rvs out i wr)
        (fun _ i _ => R - (intOf i).toNat)
      case atStart => exact ⟨0, acc, vs, rfl, Nat.zero_le _, Hacc2, K1, by rw [← HR.out]; exact R1⟩
      case round =>
        clear K1 R1 Hacc2 Hacc
        obtain ⟨n, acc, vs, rfl, hn, Htot, K, Rr⟩ := hrel
        by_cases hlt : n < R
        · obtain ⟨l, hl⟩ : ∃ l, L[n]? = some l := ⟨_, List.getElem?_eq_getElem (by rw [HR.out]; exact hlt)⟩
          have hll := Heach.out l (List.mem_of_getElem? hl)
          obtain ⟨A, c, hvn, hlc, hA⟩ := Rr.rd.2 n l hl
          obtain ⟨b, rfl, hA⟩ := hA.addr
          obtain ⟨Br, hbr⟩ := Rr.own
          rw [HR.out] at hbr
          obtain ⟨g, cap, he, hg1, hg2⟩ := hbr.form (by omega)
          injection he with he1 he2 he3
          subst he1 he3
          have hcn := hbr.cellAt n (by omega)
          rw [hvn] at hcn
          have hacl := tot_len Htot hTl (by rw [HR.out]; exact hlt)
          have Hnext := Lib.hid (tot_step Htot hl)
          have HownA : Hid ((wr.alloc (.cells #[.int .i64 aI] 3)).ownsRow wr.heap.size 3 1 (.slice (some ⟨wr.heap.size, 0, none⟩) 1 1) 1 [.int .i64 aI]) := World.ownsRow_lit wr #[.int .i64 aI] 1 (Nat.le_refl _) (by decide) rfl
          have HnewsA := Lib.hid (hA.alloc (.cells #[.int .i64 aI] 3)).news
          have H1 := Lib.hid (ints_one l)
          clear hA hvn hbr Htot hl
          go_wp2_with (first
            | (at_builtin; refine wpList_append_own _ rfl _ _ 23 rfl wr.heap.size 3 i0 (.int .i64 0) 1 8 Try.underlying23 hi0 hz0 hz1 hz2 rfl (by decide) _ _ _ rfl HownA.out ⟨b, 0, none⟩ l.length c (l.map (Value.int .i64)) rfl (by simp) HnewsA.out H1.out (by unfold maxLen; omega) (by omega) (by simp) ?_; intro v2 w2 hown2 hg2 _; obtain ⟨g2, cap2, rfl, _, _⟩ := hown2.form (by omega); obtain ⟨hmid, hsz⟩ := K.mid hg2)
            | (at_builtin; refine wpList_append_own_at _ rfl _ _ 46 rfl w.heap.size 23 j0 (.slice none 0 0) 1 24 Try.underlying46 hj0 hy0 hy1 hy2 rfl (by decide) _ _ _ rfl (hmid.alloc _) ⟨w2.heap.size, 0, none⟩ 1 1 [.slice (some ⟨g2, 0, none⟩) (1 + l.length) cap2] rfl rfl (cell_one_new _ _ _) (slice_one _ _ _) (by unfold maxLen; omega) (by omega) (by simp; omega) ?_; intro out' w3 hown3 hg3 _ hloc))
          go_wp2
          go_roundw
          case rel => exact ⟨n + 1, acc ++ [aI :: l], vs ++ [.slice (some ⟨g2, 0, none⟩) (1 + l.length) cap2], by go_num, by omega, Hnext.out, K.step hown2 hg2 hown3 hg3, Rr.step K hg2 hg3 (hloc.imp id (fun h => h.trans (by simp)))⟩
          case measure => simp [intOf]; omega
        · have hnR : n = R := by omega
          subst hnR
          rw [← HR.out] at Htot
          have Hend := Lib.hid (tot_end Htot)
          clear Htot
          go_wp2
          go_roundw
          case rel => exact ⟨j, acc, vs, by omega, by go_num, by rw [Htl.out]; exact Hend, K⟩
          case measure => simp [intOf]; omega
theorem choices_any : ∀ k, ChoicesAt k
  | 0 => choices_zero
  | k + 1 => choices_succ k (choices_any k)
end Go.Proofs.Ytoohfipicmdohab
