/-
  choices: all ascending choices of so many numbers, walked.
  Conditions: as each theorem states.
  NetFar of the model.
  Conditions: fewer than 2^60 streets.
  The law FnNetFar follows from the functions' contracts.
  Conditions: none beyond the contracts'.
  wayToSet and farthestNode of the program, walked.
  Conditions: at most seven nodes; ways between -1 and 54.
-/
import Derived.Test.YtkgomgfhhhdnjabZ5
import Derived.Test.YtkgomgfhhhdnjabZ6
import Derived.Test.YtkgomgfhhhdnjabZ3
import Derived.Test.YtkgomgfhhhdnjabZ7
import Derived.Test.YtkgomgfhhhdnjabZ10
namespace Go.Proofs.Ytkgomgfhhhdnjab
open Go.ChangeShapes Go.WideShapes Go.ChangeAt Go.RowKit
set_option linter.unusedVariables false
set_option maxRecDepth 4000

theorem slInfo : (Try.prog.info? 33).map (fun i => (i.zero, i.size, i.bytes)) = some (some (.slice none 0 0), 1, 24) := by kernel_rfl
theorem own_below {w w' : World} {B s n : Nat} {e : TypeId} {v : Value} {xs : List Value} (h : w.ownsRow B e s v n xs) (hb : Below w.heap.size w w') : w'.ownsRow B e s v n xs := by
  refine ⟨h.1, ?_⟩
  rcases h.2 with h0 | ⟨g, cap, cur, h1, h2, hg, h3⟩
  · exact .inl h0
  · exact .inr ⟨g, cap, cur, h1, h2, (hb.block g (Array.getElem?_eq_some_iff.1 hg).1).trans hg, h3⟩
theorem own_elem {w : World} {B n : Nat} {v : Value} {xs : List Value} (h : w.ownsRow B 33 1 v n xs) : ∀ g, v.ownBlock = some g → ∀ cs, w.heap[g]? ≠ some (Obj.cells cs 3 (0, 0)) := by
  intro g hg cs hcs
  rcases h.2 with ⟨rfl, _⟩ | ⟨g', cap, cur, rfl, h2, hb, h3⟩
  · simp [Value.ownBlock] at hg
  · have e : g' = g := by simpa [Value.ownBlock] using hg
    subst e
    rw [hb] at hcs
    injection hcs with hcs
    injection hcs with _ h5 _
    exact absurd h5 (by decide)

def Chosen (w : World) (L : List (List Int)) (e : Ending) (w' : World) : Prop :=
  ∃ v vs, e = .returned v ∧ w'.ownsRow w.heap.size 33 1 v L.length vs ∧ RdLL w' vs L ∧ Below w.heap.size w w'

/-- What the loops of choices keep: the rows so far. -/
structure Kept (W w : World) (out : Value) (acc : List (List Int)) (vs : List Value) : Prop where
  own : w.ownsRow W.heap.size 33 1 out acc.length vs
  rd : RdLL w vs acc
  bel : Below W.heap.size W w

theorem Kept.mid {W wr w2 : World} {out : Value} {acc : List (List Int)} {vs : List Value} {a : Int} (h : Kept W wr out acc vs) (g2 : (wr.alloc (.cells #[.int .i64 a] 3)).grownBy w2 (some wr.heap.size)) :
    w2.ownsRow W.heap.size 33 1 out acc.length vs ∧ W.heap.size ≤ w2.heap.size := by
  refine ⟨(h.own.alloc _).kept g2 ?_, ?_⟩
  · by_cases hn : out.ownBlock = none
    · exact .inl hn
    · exact .inr (fun e => by have := (h.own.lt _ e).2; omega)
  · have h1 := g2.size
    have h2 := h.bel.size
    simp at h1
    omega
theorem slice_one (A : Option Addr) (n c : Nat) : ∀ u ∈ [Value.slice A n c], u.oneCell' = true := by
  intro u hu; simp at hu; subst hu; rfl

/-- One more row: the new row lies in a new block, or in out's. -/
theorem Kept.step {W wr w2 w3 : World} {out out' : Value} {acc : List (List Int)} {vs : List Value} {a : Int} {l : List Int} {v2 : Value} (h : Kept W wr out acc vs)
    (h2 : w2.ownsRow wr.heap.size 3 1 v2 (1 + l.length) ([Value.int .i64 a] ++ l.map (Value.int .i64))) (g2 : (wr.alloc (.cells #[.int .i64 a] 3)).grownBy w2 (some wr.heap.size))
    (h3 : w3.ownsRow W.heap.size 33 1 out' (acc.length + 1) (vs ++ [v2])) (g3 : (w2.alloc (.cells #[v2] 33)).grownBy w3 out.ownBlock) :
    Kept W w3 out' (acc ++ [a :: l]) (vs ++ [v2]) := by
  have ho2 : w2.ownsRow W.heap.size 33 1 out acc.length vs := (h.own.alloc _).kept g2 (by
    by_cases hn : out.ownBlock = none
    · exact .inl hn
    · exact .inr (fun e => by have := (h.own.lt _ e).2; omega))
  have ho3 := ho2.alloc (.cells #[v2] 33)
  have hm : ∀ A l', RdL w2 A l' → RdL w3 A l' := fun A l' hl => (hl.alloc _).grown g3 (own_elem ho3)
  have hnew : w2.ownsRow wr.heap.size 3 1 v2 (1 + l.length) ((a :: l).map (Value.int .i64)) := h2
  obtain ⟨A, c, rfl, hc, hA⟩ := RdL.own hnew (by simp; omega) (by omega)
  have hl : (a :: l).length = 1 + l.length := by simp; omega
  have hb2 : Below W.heap.size W w2 := (h.bel.alloc h.bel.size _).grown g2 (by simp; have := h.bel.size; omega) (fun g hg => by cases hg; exact h.bel.size)
  refine ⟨by rw [List.length_append]; exact h3, ?_, ?_⟩
  · rw [← hl]
    exact RdLL.snoc (h.rd.map fun A l' hl' => hm A l' (hl'.new g2)) (by rw [hl]; exact hc) (hm _ _ hA)
  · exact (hb2.alloc hb2.size _).grown g3 (by simp; have := hb2.size; omega) (fun g hg => (h.own.lt g hg).1)

theorem own_slice1 {w : World} {B s n : Nat} {e : TypeId} {v : Value} {xs : List Value} (h : w.ownsRow B e s v n xs) : ∃ A c, v = .slice A n c := by
  rcases h.2 with ⟨rfl, rfl⟩ | ⟨g, cap, cur, rfl, _⟩
  · exact ⟨_, _, rfl⟩
  · exact ⟨_, _, rfl⟩
theorem RdL.addr {w : World} {A : Option Addr} {l : List Int} (h : RdL w A l) : ∃ b, A = some ⟨b, 0, none⟩ ∧ RdL w (some ⟨b, 0, none⟩) l := by
  obtain ⟨b, cs, rfl, hb, hc⟩ := h
  exact ⟨b, rfl, b, cs, rfl, hb, hc⟩
theorem RdL.news {w : World} {b : Nat} {l : List Int} (h : RdL w (some ⟨b, 0, none⟩) l) : ∀ j u, (l.map (Value.int .i64))[j]? = some u → w.cell? ((⟨b, 0, none⟩ : Addr).add j) = some u := by
  intro j u hu
  obtain ⟨b', cs, e, hb, hc⟩ := h
  injection e with e
  injection e with e _ _
  subst e
  rw [List.getElem?_map] at hu
  obtain ⟨x, hx, rfl⟩ := Option.map_eq_some_iff.1 hu
  have hj : j < l.length := (List.getElem?_eq_some_iff.1 hx).1
  have he : (⟨b, 0, none⟩ : Addr).add j = ⟨b, j, none⟩ := by unfold Addr.add; split <;> simp_all
  rw [he, cell_of_row _ _ _ _ _ _ hb, hc j hj]
  simp [List.getD, hx]
theorem ints_one (l : List Int) : ∀ u ∈ l.map (Value.int .i64), u.oneCell' = true := by
  intro u hu
  obtain ⟨x, _, rfl⟩ := List.mem_map.1 hu
  rfl

/-- What the inner loop keeps of the rest's rows. -/
structure Rest (wr : World) (rv : Value) (L : List (List Int)) (rvs : List Value) (out : Value) : Prop where
  own : ∃ B, wr.ownsRow B 33 1 rv L.length rvs
  rd : RdLL wr rvs L
  dis : ∀ g, rv.ownBlock = some g → out.ownBlock ≠ some g
theorem Rest.step {W wr w2 w3 : World} {rv out out' : Value} {acc : List (List Int)} {vs rvs : List Value} {L : List (List Int)} {a : Int} {v2 : Value} (h : Rest wr rv L rvs out) (ho : Kept W wr out acc vs)
    (g2 : (wr.alloc (.cells #[.int .i64 a] 3)).grownBy w2 (some wr.heap.size)) (g3 : (w2.alloc (.cells #[v2] 33)).grownBy w3 out.ownBlock)
    (hl : out'.ownBlock = out.ownBlock ∨ out'.ownBlock = some (w2.heap.size + 1)) : Rest w3 rv L rvs out' := by
  obtain ⟨⟨B, hb⟩, hr, hd⟩ := h
  have ho2 : w2.ownsRow W.heap.size 33 1 out acc.length vs := (ho.own.alloc _).kept g2 (by
    by_cases hn : out.ownBlock = none
    · exact .inl hn
    · exact .inr (fun e => by have := (ho.own.lt _ e).2; omega))
  have hb2 : w2.ownsRow B 33 1 rv L.length rvs := (hb.alloc _).kept g2 (by
    by_cases hn : rv.ownBlock = none
    · exact .inl hn
    · exact .inr (fun e => by have := (hb.lt _ e).2; omega))
  have hb3 : w3.ownsRow B 33 1 rv L.length rvs := (hb2.alloc _).kept g3 (by
    rcases hq : rv.ownBlock with _ | g
    · exact .inl rfl
    · exact .inr (fun e => hd g hq e.symm))
  refine ⟨⟨B, hb3⟩, hr.map fun A l' hl' => ((hl'.new g2).alloc _).grown g3 (own_elem (ho2.alloc _)), fun g hg => ?_⟩
  rcases hl with hl | hl
  · rw [hl]; exact hd g hg
  · rw [hl]
    intro e
    injection e with e
    have := (hb2.lt g hg).2
    omega
theorem Rest.start {W w0 w1 : World} {rv out : Value} {acc : List (List Int)} {vs rvs : List Value} {L : List (List Int)} (hk : Kept W w0 out acc vs) (rown : w1.ownsRow w0.heap.size 33 1 rv L.length rvs) (rrd : RdLL w1 rvs L) : Rest w1 rv L rvs out :=
  ⟨⟨_, rown⟩, rrd, fun g hg e => by have h1 := (rown.lt g hg).1; have h2 := (hk.own.lt g e).2; omega⟩
theorem Kept.called {W w0 w1 : World} {out : Value} {acc : List (List Int)} {vs : List Value} (hk : Kept W w0 out acc vs) (hb : Below w0.heap.size w0 w1) : Kept W w1 out acc vs :=
  ⟨own_below hk.own hb, hk.rd.map fun A l hl => hl.below hb, hk.bel.trans (hb.mono hk.bel.size)⟩

theorem chosen_zero {w : World} {tu d : Nat} : Chosen w (chd tu 0 d) (.returned (.slice (some ⟨w.heap.size + 1, 0, none⟩) 1 1)) ((w.alloc (.cells #[] 3)).alloc (.cells #[.slice (some ⟨w.heap.size, 0, none⟩) 0 0] 33)) := by
  refine ⟨_, [.slice (some ⟨w.heap.size, 0, none⟩) 0 0], rfl, ?_, ?_, ?_⟩
  · have h := World.ownsRow_lit (w.alloc (.cells #[] 3)) #[.slice (some ⟨w.heap.size, 0, none⟩) 0 0] 1 (base := w.heap.size) (size := 1) (e := 33) (by simp) (by decide) rfl
    simpa [chd] using h
  · refine ⟨rfl, fun i l hl => ?_⟩
    match i, hl with
    | 0, hl =>
      simp [chd] at hl
      subst hl
      refine ⟨some ⟨w.heap.size, 0, none⟩, 0, rfl, Nat.le_refl _, w.heap.size, #[], rfl, ?_, fun i hi => by simp at hi⟩
      rw [heap_alloc_old (h := by simp)]
      exact heap_alloc_new _ _
    | i + 1, hl => simp [chd] at hl
  · exact ((Below.refl _ _).alloc (Nat.le_refl _) _).alloc (by simp) _

theorem drop_step {α : Type} {L : List α} {i : Nat} {l : α} (h : L[i]? = some l) : L.drop i = l :: L.drop (i + 1) := by
  obtain ⟨hi, e⟩ := List.getElem?_eq_some_iff.1 h
  rw [List.drop_eq_getElem_cons hi, e]

def TotEq (acc L tl T : List (List Int)) (a : Int) (n : Nat) : Prop := acc ++ (((L.drop n).map (fun l => a :: l)) ++ tl) = T
/-- The inner loop's equation, one step on. -/
theorem tot_step {acc L tl T : List (List Int)} {a : Int} {i : Nat} {l : List Int} (h : TotEq acc L tl T a i) (hl : L[i]? = some l) : TotEq (acc ++ [a :: l]) L tl T a (i + 1) := by
  unfold TotEq at h ⊢
  rw [← h, drop_step hl]; simp
theorem tot_len {acc L tl T : List (List Int)} {a : Int} {i : Nat} (h : TotEq acc L tl T a i) (hT : T.length ≤ 128) (hi : i < L.length) : acc.length < 128 := by
  have := congrArg List.length h
  simp only [List.length_append, List.length_map, List.length_drop] at this
  omega
theorem tot_end {acc L tl T : List (List Int)} {a : Int} (h : TotEq acc L tl T a L.length) : acc ++ tl = T := by
  unfold TotEq at h
  rw [← h]; simp

def InnerRel (W : World) (T tl L : List (List Int)) (aI : Int) (R : Nat) (rv : Value) (rvs : List Value) (out i : Value) (wr : World) : Prop :=
  ∃ (n : Nat) (acc : List (List Int)) (vs : List Value), i = .int .i64 n ∧ n ≤ R ∧ TotEq acc L tl T aI n ∧ Kept W wr out acc vs ∧ Rest wr rv L rvs out

def ChoicesAt (k : Nat) : Prop := ∀ (fI tI kI : Int) (tu d : Nat) (w : World), tu ≤ 7 → d ≤ tu → k ≤ 4 → fI = ((tu - d : Nat) : Int) → tI = tu → kI = k →
    Calls Try.prog 93 #[.int .i64 fI, .int .i64 tI, .int .i64 kI] w (Chosen w (chd tu k d))
theorem choices_zero : ChoicesAt 0 := by
  intro fI tI kI tu d w hto hd hk hf ht hkI
  have h0 : (kI == 0) = true := by rw [hkI]; rfl
  clear hf ht hkI
  go_enter Try.func93, Try.ntmps93
  go_wp2
  go_ret
  exact chosen_zero
set_option maxHeartbeats 1600000 in
theorem choices_succ (k : Nat) (ih : ChoicesAt k) : ChoicesAt (k + 1) := by
  intro fI tI kI tu d w hto hd hk hf ht hkI
  obtain ⟨i0, hi0, hz0, hz1, hz2⟩ := info_parts intInfo
  obtain ⟨j0, hj0, hy0, hy1, hy2⟩ := info_parts slInfo
  have IH := Lib.hid ih
  clear ih
  have h0 : (kI == 0) = false := by rw [beq_eq_false_iff_ne]; omega
  obtain ⟨T, HT⟩ : ∃ T, Hid (chd tu (k + 1) d = T) := ⟨_, rfl⟩
  have hTl : T.length ≤ 128 := by rw [← HT.out]; exact chd_len hto hk (by omega)
  have HT' : Hid ([] ++ chs (chd tu k) tu d = T) := HT.out
  have Hk : Hid (kI - 1 = k) := by show _ = _; omega
  rw [HT.out]
  clear HT
  have hk1 : 1 ≤ kI := by omega
  have hk2 : kI ≤ 4 := by omega
  have Hf := Lib.hid hf
  have Ht := Lib.hid ht
  clear hf ht hkI
  go_enter Try.func93, Try.ntmps93
  go_wp2
  have hown0 : (w.alloc (.cells #[] 33)).ownsRow w.heap.size 33 1 (.slice (some ⟨w.heap.size, 0, none⟩) 0 0) 0 [] :=
    World.ownsRow_lit w #[] 0 (Nat.le_refl _) (by decide) rfl
  have K0 : Kept w (w.alloc (.cells #[] 33)) (.slice (some ⟨w.heap.size, 0, none⟩) 0 0) [] [] := ⟨hown0, RdLL.nil _, (Below.refl _ _).alloc (Nat.le_refl _) _⟩
  clear hown0
  go_loopw [7, 8] (fun out a wr => ∃ (j : Nat) (acc : List (List Int)) (vs : List Value), j ≤ d ∧ a = .int .i64 (tu - j : Int) ∧ Hid (acc ++ chs (chd tu k) tu j = T) ∧ Kept w wr out acc vs)
    (fun _ a _ => tu - (intOf a).toNat)
  case atStart => exact ⟨d, [], [], Nat.le_refl _, by rw [Hf.out]; congr 1; omega, HT', K0⟩
  case round =>
    clear K0 HT'
    obtain ⟨j, acc, vs, hj, rfl, Hacc, K⟩ := hrel
    match j, hj, Hacc with
    | 0, hj, Hacc =>
      have hT : acc = T := by have := Hacc.out; simpa [chs] using this
      subst hT
      obtain ⟨aI, HaI⟩ : ∃ aI : Int, Hid (((tu : Int) - ((0 : Nat) : Int)) = aI) := ⟨_, rfl⟩
      rw [HaI.out]
      have ha : ¬ aI < tI := by rw [← HaI.out, Ht.out]; omega
      go_wp2
      go_ret
      exact ⟨_, vs, rfl, K.own, K.rd, K.bel⟩
    | j + 1, hj, Hacc => 
      obtain ⟨aI, HaI⟩ : ∃ aI : Int, Hid (((tu : Int) - ((j + 1 : Nat) : Int)) = aI) := ⟨_, rfl⟩
      have ha0 : 0 ≤ aI := by rw [← HaI.out]; omega
      have ha1 : aI < tI := by rw [← HaI.out, Ht.out]; omega
      have ha2 : aI + 1 = ((tu - j : Nat) : Int) := by rw [← HaI.out]; omega
      rw [HaI.out]
      go_wp2_with fail
      refine (IH.out _ _ _ tu j _ hto (by omega) (by omega) rfl Ht.out Hk.out).mono ?_
      rintro e w1 ⟨rv, rvs, rfl, rown, rrd, rbel⟩
      obtain ⟨A0, c0, rfl⟩ := own_slice1 rown
      have K1 := K.called rbel
      have R1 := Rest.start K rown rrd
      clear rown rrd rbel K
      obtain ⟨L, HL⟩ : ∃ L, Hid (chd tu k j = L) := ⟨_, rfl⟩
      obtain ⟨tl, Htl⟩ : ∃ tl, Hid (chs (chd tu k) tu j = tl) := ⟨_, rfl⟩
      have Heach : Hid (∀ l ∈ L, l.length ≤ 4) := fun l hl => by have := chd_each k tu j l (by rw [HL.out]; exact hl); omega
      have Hacc2 : TotEq acc L tl T aI 0 := by
        have h := Hacc.out
        have e : ((tu - (j + 1) : Nat) : Int) = aI := by rw [← HaI.out]; omega
        simp only [chs, e, HL.out, Htl.out] at h
        exact h
      rw [HL.out] at R1
      obtain ⟨R, HR⟩ : ∃ R, Hid (L.length = R) := ⟨_, rfl⟩
      have hR : R ≤ 128 := by rw [← HR.out, ← HL.out]; exact chd_len hto (by omega) (by omega)
      rw [HL.out, HR.out]
      go_wp2_with fail
      go_loopw [7, 10] (fun out i wr => InnerRel w T tl L aI R (.slice A0 R c0) rvs out i wr)
        (fun _ i _ => R - (intOf i).toNat)
      case atStart => exact ⟨0, acc, vs, rfl, Nat.zero_le _, Hacc2, K1, by rw [← HR.out]; exact R1⟩
      case round =>
        clear K1 R1 Hacc2 Hacc
        obtain ⟨n, acc, vs, rfl, hn, Htot, K, Rr⟩ := hrel
        by_cases hlt : n < R
        · obtain ⟨l, hl⟩ : ∃ l, L[n]? = some l := ⟨_, List.getElem?_eq_getElem (by rw [HR.out]; exact hlt)⟩
          have hll := Heach.out l (List.mem_of_getElem? hl)
          obtain ⟨A, c, hvn, hlc, hA⟩ := Rr.rd.2 n l hl
          obtain ⟨b, rfl, hA⟩ := hA.addr
          obtain ⟨Br, hbr⟩ := Rr.own
          rw [HR.out] at hbr
          obtain ⟨g, cap, he, hg1, hg2⟩ := hbr.form (by omega)
          injection he with he1 he2 he3
          subst he1 he3
          have hcn := hbr.cellAt n (by omega)
          rw [hvn] at hcn
          have hacl := tot_len Htot hTl (by rw [HR.out]; exact hlt)
          have Hnext := Lib.hid (tot_step Htot hl)
          have HownA : Hid ((wr.alloc (.cells #[.int .i64 aI] 3)).ownsRow wr.heap.size 3 1 (.slice (some ⟨wr.heap.size, 0, none⟩) 1 1) 1 [.int .i64 aI]) := World.ownsRow_lit wr #[.int .i64 aI] 1 (Nat.le_refl _) (by decide) rfl
          have HnewsA := Lib.hid (hA.alloc (.cells #[.int .i64 aI] 3)).news
          have H1 := Lib.hid (ints_one l)
          clear hA hvn hbr Htot hl
          go_wp2_with (first
            | (at_builtin; refine wpList_append_own _ rfl _ _ 33 rfl wr.heap.size 3 i0 (.int .i64 0) 1 8 Try.underlying33 hi0 hz0 hz1 hz2 rfl (by decide) _ _ _ rfl HownA.out ⟨b, 0, none⟩ l.length c (l.map (Value.int .i64)) rfl (by simp) HnewsA.out H1.out (by unfold maxLen; omega) (by omega) (by simp) ?_; intro v2 w2 hown2 hg2 _; obtain ⟨g2, cap2, rfl, _, _⟩ := hown2.form (by omega); obtain ⟨hmid, hsz⟩ := K.mid hg2)
            | (at_builtin; refine wpList_append_own_at _ rfl _ _ 27 rfl w.heap.size 33 j0 (.slice none 0 0) 1 24 Try.underlying27 hj0 hy0 hy1 hy2 rfl (by decide) _ _ _ rfl (hmid.alloc _) ⟨w2.heap.size, 0, none⟩ 1 1 [.slice (some ⟨g2, 0, none⟩) (1 + l.length) cap2] rfl rfl (cell_one_new _ _ _) (slice_one _ _ _) (by unfold maxLen; omega) (by omega) (by simp; omega) ?_; intro out' w3 hown3 hg3 _ hloc))
          go_wp2
          go_roundw
          case rel => exact ⟨n + 1, acc ++ [aI :: l], vs ++ [.slice (some ⟨g2, 0, none⟩) (1 + l.length) cap2], by go_num, by omega, Hnext.out, K.step hown2 hg2 hown3 hg3, Rr.step K hg2 hg3 (hloc.imp id (fun h => h.trans (by simp)))⟩
          case measure => simp [intOf]; omega
        · have hnR : n = R := by omega
          subst hnR
          rw [← HR.out] at Htot
          have Hend := Lib.hid (tot_end Htot)
          clear Htot
          go_wp2
          go_roundw
          case rel => exact ⟨j, acc, vs, by omega, by go_num, by rw [Htl.out]; exact Hend, K⟩
          case measure => simp [intOf]; omega
theorem choices_any : ∀ k, ChoicesAt k
  | 0 => choices_zero
  | k + 1 => choices_succ k (choices_any k)
end Go.Proofs.Ytkgomgfhhhdnjab
namespace Go.Proofs.Ytkgomgfhhhdnjab
open Go.ChangeShapes Go.WideShapes Go.ChangeAt Go.RowKit
set_option linter.unusedVariables false
set_option maxRecDepth 4000

/-- A choice read. -/
theorem choice_at {n M t : Nat} {l : List Int} (h : (chd n M n)[t]? = some l) : ∃ J, l = J.map Int.ofNat ∧ Asc n M J := by
  have hm : l ∈ chd n M n := List.mem_of_getElem? h
  obtain ⟨J, h1, h2⟩ := (chd_mem n M n (Nat.le_refl _) l).1 hm
  exact ⟨J, h1, ascI_zero.1 h2⟩
theorem map_getD (J : List Nat) {j : Nat} (h : j < J.length) : (J.map Int.ofNat).getD j 0 = ((J.getD j 0 : Nat) : Int) := by
  simp [List.getD, List.getElem?_eq_getElem h]
theorem getD_some (J : List Nat) {j : Nat} (h : j < J.length) : J[j]? = some (J.getD j 0) := by
  simp [List.getD, List.getElem?_eq_getElem h]
theorem getD_in (J : List Nat) {j : Nat} (h : j < J.length) : J.getD j 0 ∈ J := List.mem_of_getElem? (getD_some J h)

set_option maxHeartbeats 4000000 in
theorem sNetFar_any (A : Option Addr) (c m : Nat) (n : Int) (ss : List Str) (k : Int) (w : World) (hr : RdS w w.heap.size A ss) (hm : ss.length = m) (hb : m ≤ 1152921504606846976) (hwf : (Lit.int .i64 n).wf = true) :
    Calls Try.prog 40 #[.int .i64 n, .slice A m c, .int .i64 k] w fun e w' => e = .returned (.int .i64 (nfr n ss k)) ∧ Below w.heap.size w w' := by
  by_cases hv : vnet n ss = true
  · have H1 := Lib.hid (sValidNet_is A c m n ss w _ hr hm hb hwf hv)
    by_cases hf : k < 1 ∨ 4 < k
    · have Hs := Lib.hid (nfr_no (n := n) (ss := ss) (.inr hf))
      have H2 := Lib.hid (inRange_no k 1 4 w hf)
      clear hv hf hr hm hwf
      go_enter Try.func40, Try.ntmps40
      go_wp2_with fail
      refine H1.out.mono ?_
      rintro e w' ⟨rfl, rfl⟩
      go_wp2_with fail
      refine H2.out.mono ?_
      rintro e w' ⟨rfl, rfl⟩
      go_wp2
      go_ret
      exact ⟨ret_int Hs.out.symm, Below.refl _ _⟩
    · obtain ⟨n, rfl, hn1, hn7⟩ := vnet_nat hv
      obtain ⟨k, rfl⟩ := Int.eq_ofNat_of_zero_le (show 0 ≤ k by omega)
      have H2 := Lib.hid (inRange_yes k 1 4 w (by omega) (by omega))
      have Hs := Lib.hid (nfr_yes hv (show 1 ≤ k by omega) (show k ≤ 4 by omega))
      have Ht := Lib.hid (netTable_any A c m n ss w hr hm hv)
      have Hbd := Lib.hid (sht_spec hv).2
      obtain ⟨X, HX⟩ : ∃ X, Hid (sht n ss = X) := ⟨_, rfl⟩
      rw [HX.out] at Ht Hs Hbd
      obtain ⟨M, HM⟩ : ∃ M, Hid (min k n = M) := ⟨_, rfl⟩
      have hM4 : M ≤ 4 := by have := HM.out; omega
      have Hch := Lib.hid (fun (kI : Int) (w : World) (hk : kI = M) => choices_any M 0 n kI n n w hn7 (Nat.le_refl _) hM4 (by omega) rfl hk)
      rw [HM.out] at Hs
      obtain ⟨L, HL⟩ : ∃ L, Hid (chd n M n = L) := ⟨_, rfl⟩
      have Hs2 : Hid (nfr n ss k = pkL (radI X n) L (-1)) := by show _ = _; rw [Hs.out]; unfold nfar; rw [HL.out]
      rw [HL.out] at Hch
      have Hat := Lib.hid (fun (t : Nat) (l : List Int) (h : L[t]? = some l) => choice_at (n := n) (M := M) (t := t) (l := l) (by rw [HL.out]; exact h))
      obtain ⟨R, HR⟩ : ∃ R, Hid (L.length = R) := ⟨_, rfl⟩
      have hR : R ≤ 128 := by rw [← HR.out, ← HL.out]; exact chd_len hn7 hM4 hn7
      clear hv hr hm hwf Hs
      by_cases hkn : (n : Int) < (k : Int)
      rotate_left
      have hkn2 : (k : Int) ≤ (n : Int) := by omega
      all_goals
        have hMk : Hid (M = min k n) := HM.out.symm
        go_enter Try.func40, Try.ntmps40
        go_wp2_with fail
        refine H1.out.mono ?_
        rintro e w' ⟨rfl, rfl⟩
        go_wp2_with fail
        refine H2.out.mono ?_
        rintro e w' ⟨rfl, rfl⟩
        go_wp2_with fail
        refine Ht.out.mono ?_
        rintro e w4 ⟨v, VR, rfl, hO, hT, hnx4⟩
        obtain ⟨Ag, cg, rfl, -, -, hA⟩ := own_sliceN hO
        obtain ⟨g, rfl, -, -⟩ := hA (by omega)
        have HO := Lib.hid hO
        have HT := Lib.hid hT
        have HB4 := Lib.hid hnx4
        clear hO hT hnx4 hA
        go_wp2_with fail
        refine (Hch.out _ w4 (by have := hMk.out; omega)).mono ?_
        rintro e w5 ⟨rv, vs, rfl, hown, hrd, hnx5⟩
        have HX5 := Lib.hid (show TabX w w5 n g cg VR X from ⟨ownN_below HO.out hnx5, HT.out.below hnx5, HB4.out.trans (hnx5.mono HB4.out.size)⟩)
        obtain ⟨Ar, cr, rfl, -, -, hgr⟩ := own_sliceN hown
        have Hgr := Lib.hid hgr
        have Hown := Lib.hid hown
        have Hrd := Lib.hid hrd
        rw [HR.out] at Hgr Hown ⊢
        clear hown hrd hnx5 hgr HO HT
        go_wp2
        go_loopw [9, 10] (fun b i wr => ∃ t q : Nat, t ≤ R ∧ i = .int .i64 t ∧ b = .int .i64 (pkL (radI X n) (L.take t) (-1)) ∧ wr = w5.drewN q) (fun _ i _ => R - (intOf i).toNat)
        case atStart => exact ⟨0, 0, Nat.zero_le _, rfl, rfl, rfl⟩
        case round =>
          obtain ⟨t, q, ht, rfl, rfl, rfl⟩ := hrel
          obtain ⟨p0, Hp0⟩ : ∃ p, Hid (pkL (radI X n) (L.take t) (-1) = p) := ⟨_, rfl⟩
          rw [Hp0.out]
          by_cases hlt : t < R
          · obtain ⟨gv, rfl, -, -⟩ := Hgr.out (by omega)
            obtain ⟨l, hl⟩ : ∃ l, L[t]? = some l := ⟨_, List.getElem?_eq_getElem (by rw [HR.out]; exact hlt)⟩
            obtain ⟨Al, cl, hvs, hlc, hrdl⟩ := Hrd.out.2 t l hl
            have hct := Hown.out.cellAt t (by omega)
            rw [hvs] at hct
            obtain ⟨J, rfl, hJ⟩ := Hat.out t l hl
            have HJ := Lib.hid hJ
            have Hl := Lib.hid hl
            have Hrdl := Lib.hid hrdl.rd
            rw [List.length_map, hJ.2.2] at hct
            clear hl hvs hlc hrdl hJ
            go_wp2
            go_loopw [11, 12] (fun f v wr => ∃ u q : Nat, u ≤ n ∧ v = .int .i64 u ∧ f = .int .i64 (radL X J u) ∧ wr = w5.drewN q) (fun _ v _ => n - (intOf v).toNat)
            case atStart => exact ⟨0, q, Nat.zero_le _, rfl, rfl, rfl⟩
            case round =>
              obtain ⟨u, q, hu, rfl, rfl, rfl⟩ := hrel
              obtain ⟨F, HF⟩ : ∃ F, Hid (radL X J u = F) := ⟨_, rfl⟩
              rw [HF.out]
              by_cases hgo : u < n ∧ 0 ≤ F
              · obtain ⟨hun, hF0⟩ := hgo
                have hun' : (u : Int) < (n : Int) := by omega
                obtain ⟨gr, cr2, hVu⟩ := HX5.out.rowAt hun
                have HVu := Lib.hid hVu
                clear hVu
                go_wp2
                go_loopw [13, 14] (fun a j wr => ∃ i q : Nat, i ≤ M ∧ j = .int .i64 i ∧ a = .int .i64 (pkL (X u) (J.take i) (-1)) ∧ wr = w5.drewN q) (fun _ j _ => M - (intOf j).toNat)
                case atStart => exact ⟨0, q, Nat.zero_le _, rfl, rfl, rfl⟩
                case round =>
                  obtain ⟨i, q, hi, rfl, rfl, rfl⟩ := hrel
                  obtain ⟨N, HN⟩ : ∃ N, Hid (pkL (X u) (J.take i) (-1) = N) := ⟨_, rfl⟩
                  rw [HN.out]
                  by_cases hiM : i < M
                  · have hiJ : i < J.length := by rw [HJ.out.2.2]; exact hiM
                    obtain ⟨p, Hp⟩ : ∃ p, Hid (J.getD i 0 = p) := ⟨_, rfl⟩
                    have hpn : p < n := by rw [← Hp.out]; exact HJ.out.2.1 _ (getD_in J hiJ)
                    obtain ⟨bl, ol, x, rfl, -, Hx, hcx⟩ := Hrdl.out.x (k := i) (by rw [List.length_map]; exact hiJ)
                    have hxp : x = (p : Int) := by rw [← Hx.out, map_getD J hiJ, Hp.out]
                    subst hxp
                    obtain ⟨cgu, cup, -⟩ := HX5.out.cell hun hpn HVu.out
                    obtain ⟨y, Hy⟩ : ∃ y, Hid (X u p = y) := ⟨_, rfl⟩
                    rw [Hy.out] at cup
                    have hJi : Hid (J[i]? = some p) := by show _ = _; rw [getD_some J hiJ, Hp.out]
                    by_cases hc : 0 ≤ y ∧ (N < 0 ∨ y < N)
                    · obtain ⟨hy0, hyN⟩ := hc
                      have Hn := Lib.hid (pkL_yes hJi.out HN.out Hy.out hy0 hyN)
                      by_cases hN0 : N < 0
                      rotate_left
                      have hyN2 : y < N := by omega
                      all_goals
                        clear hyN
                        go_wp2
                        go_quiet (fail)
                        go_wp2
                        go_roundw
                        case rel => exact ⟨i + 1, _, by omega, by go_num, by rw [Hn.out], rfl⟩
                        case measure => simp [intOf]; omega
                    · have Hn := Lib.hid (pkL_no hJi.out HN.out Hy.out hc)
                      by_cases hy0 : 0 ≤ y
                      · have hN0 : ¬ N < 0 := by omega
                        have hyN : ¬ y < N := by omega
                        clear hc
                        go_wp2
                        go_quiet (fail)
                        go_wp2
                        go_roundw
                        case rel => exact ⟨i + 1, _, by omega, by go_num, by rw [Hn.out], rfl⟩
                        case measure => simp [intOf]; omega
                      · have hy1 : y < 0 := by omega
                        have hy2 : decide (y ≥ 0) = false := decide_eq_false (by omega)
                        clear hc
                        go_wp2
                        go_quiet (fail)
                        go_wp2
                        go_roundw
                        case rel => exact ⟨i + 1, _, by omega, by go_num, by rw [Hn.out], rfl⟩
                        case measure => simp [intOf]; omega
                  · obtain rfl : M = i := by omega
                    have hwy : wy X u J = N := by
                      have := HN.out
                      rw [List.take_of_length_le (by rw [HJ.out.2.2]; exact Nat.le_refl _)] at this
                      exact this
                    by_cases hN0 : N < 0
                    · have Hn := Lib.hid (rad_none HF.out hF0 hwy hN0)
                      have hFN : ¬ F < N := by omega
                      clear hwy
                      go_wp2
                      go_roundw
                      case rel => exact ⟨u + 1, _, by omega, by go_num, by rw [Hn.out], rfl⟩
                      case measure => simp [intOf]; omega
                    · have Hn := Lib.hid (rad_some HF.out hF0 hwy (by omega))
                      clear hwy
                      by_cases hFN : F < N
                      · have Hn2 : Hid (radL X J (u + 1) = N) := by show _ = _; rw [Hn.out]; omega
                        go_wp2
                        go_roundw
                        case rel => exact ⟨u + 1, _, by omega, by go_num, by rw [Hn2.out], rfl⟩
                        case measure => simp [intOf]; omega
                      · have Hn2 : Hid (radL X J (u + 1) = F) := by show _ = _; rw [Hn.out]; omega
                        go_wp2
                        go_roundw
                        case rel => exact ⟨u + 1, _, by omega, by go_num, by rw [Hn2.out], rfl⟩
                        case measure => simp [intOf]; omega
              · have hrad : radI X n (J.map Int.ofNat) = F := by
                  unfold radI
                  rw [toNat_ofNat, ← HF.out]
                  by_cases hF0 : F < 0
                  · exact rad_stay (by rw [HF.out]; exact hF0) n hu
                  · have : n = u := by omega
                    subst this; rfl
                by_cases hc : 0 ≤ F ∧ (p0 < 0 ∨ F < p0)
                · obtain ⟨hF0, hFp⟩ := hc
                  obtain rfl : n = u := by omega
                  have Hn := Lib.hid (pkL_yes Hl.out Hp0.out hrad hF0 hFp)
                  clear hrad hgo
                  by_cases hp0 : p0 < 0
                  rotate_left
                  have hFp2 : F < p0 := by omega
                  all_goals
                    clear hFp
                    go_wp2
                    go_roundw
                    case rel => exact ⟨t + 1, _, by omega, by go_num, by rw [Hn.out], rfl⟩
                    case measure => simp [intOf]; omega
                · have Hn := Lib.hid (pkL_no Hl.out Hp0.out hrad hc)
                  clear hrad
                  by_cases hF0 : 0 ≤ F
                  · obtain rfl : n = u := by omega
                    have hp0 : ¬ p0 < 0 := by omega
                    have hFp : ¬ F < p0 := by omega
                    clear hc hgo
                    go_wp2
                    go_roundw
                    case rel => exact ⟨t + 1, _, by omega, by go_num, by rw [Hn.out], rfl⟩
                    case measure => simp [intOf]; omega
                  · have hF1 : F < 0 := by omega
                    have hF2 : decide (F ≥ 0) = false := decide_eq_false (by omega)
                    clear hc hgo
                    by_cases hun : (u : Int) < (n : Int)
                    all_goals
                      go_wp2
                      go_roundw
                      case rel => exact ⟨t + 1, _, by omega, by go_num, by rw [Hn.out], rfl⟩
                      case measure => simp [intOf]; omega
          · obtain rfl : R = t := by omega
            have Hend : Hid (nfr n ss k = p0) := by
              show _ = _
              rw [Hs2.out, ← Hp0.out, List.take_of_length_le (by rw [HR.out]; exact Nat.le_refl _)]
            go_wp2
            go_ret
            exact ⟨ret_int Hend.out.symm, below_drewN HX5.out.bel _⟩
  · have hv' : vnet n ss = false := by simpa using hv
    have Hs := Lib.hid (nfr_no (k := k) (.inl hv'))
    have H1 := Lib.hid (sValidNet_is A c m n ss w _ hr hm hb hwf hv')
    clear hv hv' hr hm hwf
    go_enter Try.func40, Try.ntmps40
    go_wp2_with fail
    refine H1.out.mono ?_
    rintro e w' ⟨rfl, rfl⟩
    go_wp2
    go_ret
    exact ⟨ret_int Hs.out.symm, Below.refl _ _⟩
end Go.Proofs.Ytkgomgfhhhdnjab
namespace Go.Proofs.Ytkgomgfhhhdnjab
open Go.ChangeShapes Go.WideShapes Go.ChangeAt Go.RowKit
set_option linter.unusedVariables false
set_option maxRecDepth 4000

set_option maxHeartbeats 1600000 in
theorem lawNetFar_of (HF : INum 39 nfr) (HV : IBool 41) (HC : INum 32 ncv) (A : Option Addr) (c : Nat) (bs : List Int) (w : World) (hr : RdB w w.heap.size A bs) (hcap : bs.length ≤ c) (hm : c ≤ maxLen) :
    Calls Try.prog 9 #[.slice A bs.length c] w fun e w' => e = .returned (.bool true) ∧ Below w.heap.size w w' := by
  unfold maxLen at hm
  by_cases hb : 1048576 < bs.length
  · clear HC HF HV
    go_enter Try.func9, Try.ntmps9
    go_wp2
    go_ret
    exact ⟨rfl, Below.refl _ _⟩
  · have H := Lib.hid (drawNetFar_any A c bs.length bs w hr rfl hcap hm)
    have HC' := Lib.hid HC
    have HV' := Lib.hid HV
    have HF' := Lib.hid HF
    clear HC HF HV
    go_enter Try.func9, Try.ntmps9
    go_wp2_with fail
    refine H.out.mono ?_
    rintro e w1 ⟨n, A', c', ss, k, rfl, hn0, hn8, hk1, hk2, hl, hc1, hc2, hrd, hnx1⟩
    have N1 := Lib.hid (show NetIn w1 A' c' ss.length n ss from ⟨hrd, rfl, ⟨hc1, hc2⟩, by omega, wf_small (by omega)⟩)
    have Hwk := Lib.hid (wf_small (n := k) (by omega))
    clear hrd H
    have hbn : ∀ x : Int, (x != x) = false := fun x => by simp
    have hbe : ∀ x : Int, (x == x) = true := fun x => by simp
    have hf := far_facts (n := n) (ss := ss) (k := k)
    have hbd := nfr_bd n ss k
    obtain ⟨a, Ha⟩ : ∃ a, Hid (nfr n ss k = a) := ⟨_, rfl⟩
    rw [Ha.out] at hf hbd
    obtain ⟨v, HVa⟩ : ∃ v, Hid (vnet n ss = v) := ⟨_, rfl⟩
    rw [HVa.out] at hf
    have Hf := Lib.hid hf
    clear hf
    go_wp2_with fail
    refine (HF'.out _ _ _ n ss k w1 N1.out Hwk.out).mono ?_
    rintro e w2 ⟨rfl, hq⟩
    rw [Ha.out]
    have N2 := Lib.hid (N1.out.later hq)
    have hnx2 := hnx1.trans (hq.mono hnx1.size)
    clear hq
    go_wp2_with fail
    refine (sNetFar_any _ _ _ n ss k w2 N2.out.rd rfl (by omega) N2.out.wf).mono ?_
    rintro e w3 ⟨rfl, hq⟩
    rw [Ha.out]
    have N3 := Lib.hid (N2.out.later hq)
    have hnx3 := hnx2.trans (hq.mono hnx2.size)
    clear hq
    go_wp2_with fail
    refine (HV'.out _ _ _ n ss w3 N3.out).mono ?_
    rintro e w4 ⟨rfl, hq⟩
    rw [HVa.out]
    have N4 := Lib.hid (N3.out.later hq)
    have hnx4 := hnx3.trans (hq.mono hnx3.size)
    clear hq
    cases v with
    | false =>
      clear Hf
      go_wp2_with fail
      refine (sNetFar_any _ _ _ n ss k w4 N4.out.rd rfl (by omega) N4.out.wf).mono ?_
      rintro e w5 ⟨rfl, hq⟩
      rw [Ha.out]
      have N5 := Lib.hid (N4.out.later hq)
      have hnx5 := hnx4.trans (hq.mono hnx4.size)
      clear hq
      go_wp2
      go_ret
      exact ⟨rfl, hnx5⟩
    | true =>
      by_cases hk : k < 1
      · clear Hf
        go_wp2_with fail
        refine (sNetFar_any _ _ _ n ss k w4 N4.out.rd rfl (by omega) N4.out.wf).mono ?_
        rintro e w5 ⟨rfl, hq⟩
        rw [Ha.out]
        have N5 := Lib.hid (N4.out.later hq)
        have hnx5 := hnx4.trans (hq.mono hnx4.size)
        clear hq
        go_wp2
        go_ret
        exact ⟨rfl, hnx5⟩
      by_cases hk4 : 4 < k
      · clear Hf
        go_wp2_with fail
        refine (sNetFar_any _ _ _ n ss k w4 N4.out.rd rfl (by omega) N4.out.wf).mono ?_
        rintro e w5 ⟨rfl, hq⟩
        rw [Ha.out]
        have N5 := Lib.hid (N4.out.later hq)
        have hnx5 := hnx4.trans (hq.mono hnx4.size)
        clear hq
        go_wp2
        go_ret
        exact ⟨rfl, hnx5⟩
      have hf := Hf.out rfl (by omega) (by omega)
      have Hf2 := Lib.hid hf
      clear Hf hf
      by_cases ha : a < 0
      · obtain ⟨m, Hm⟩ : ∃ m, Hid (ncv n ss 50 = m) := ⟨_, rfl⟩
        have hm50 : k < m := by have := Hf2.out 50 (by omega) (by omega); rw [Hm.out] at this; omega
        have Hw50 := Lib.hid (wf_small (n := 50) (by omega))
        clear Hf2
        go_wp2_with fail
        refine (HC'.out _ _ _ n ss 50 w4 N4.out Hw50.out).mono ?_
        rintro e w5 ⟨rfl, hq⟩
        rw [Hm.out]
        have N5 := Lib.hid (N4.out.later hq)
        have hnx5 := hnx4.trans (hq.mono hnx4.size)
        clear hq
        go_wp2
        go_ret
        exact ⟨ret_bool (by simp; try omega), hnx5⟩
      by_cases ha50 : 50 < a
      · clear Hf2
        go_wp2
        go_ret
        exact ⟨ret_bool (by simp; try omega), hnx4⟩
      obtain ⟨m, Hm⟩ : ∃ m, Hid (ncv n ss a = m) := ⟨_, rfl⟩
      have hma : m ≤ k := by have := Hf2.out a (by omega) (by omega); rw [Hm.out] at this; omega
      have Hwa := Lib.hid (wf_small (n := a) (by omega))
      by_cases ha0 : a = 0
      · clear Hf2
        subst ha0
        go_wp2_with fail
        refine (HC'.out _ _ _ n ss 0 w4 N4.out Hwa.out).mono ?_
        rintro e w5 ⟨rfl, hq⟩
        rw [Hm.out]
        have N5 := Lib.hid (N4.out.later hq)
        have hnx5 := hnx4.trans (hq.mono hnx4.size)
        clear hq
        go_wp2
        go_ret
        exact ⟨ret_bool (by simp; try omega), hnx5⟩
      · obtain ⟨m2, Hm2⟩ : ∃ m, Hid (ncv n ss (a - 1) = m) := ⟨_, rfl⟩
        have hma2 : k < m2 := by have := Hf2.out (a - 1) (by omega) (by omega); rw [Hm2.out] at this; omega
        have Hwa1 := Lib.hid (wf_small (n := a - 1) (by omega))
        have hab : (a == 0) = false := by rw [beq_eq_false_iff_ne]; exact ha0
        clear Hf2 ha0
        go_wp2_with fail
        refine (HC'.out _ _ _ n ss a w4 N4.out Hwa.out).mono ?_
        rintro e w5 ⟨rfl, hq⟩
        rw [Hm.out]
        have N5 := Lib.hid (N4.out.later hq)
        have hnx5 := hnx4.trans (hq.mono hnx4.size)
        clear hq
        go_wp2_with fail
        refine (HC'.out _ _ _ n ss (a - 1) w5 N5.out Hwa1.out).mono ?_
        rintro e w6 ⟨rfl, hq⟩
        rw [Hm2.out]
        have N6 := Lib.hid (N5.out.later hq)
        have hnx6 := hnx5.trans (hq.mono hnx5.size)
        clear hq
        go_wp2
        go_ret
        exact ⟨ret_bool (by simp; try omega), hnx6⟩
end Go.Proofs.Ytkgomgfhhhdnjab
namespace Go.Proofs.Ytkgomgfhhhdnjab
open Go.ChangeShapes Go.WideShapes Go.ChangeAt Go.RowKit
set_option linter.unusedVariables false
set_option maxRecDepth 4000

theorem bitS_all : ∀ s : Fin 128, ∀ i : Fin 7, (bits BinOp.and IntKind.u64 ((s.val : Int) / 2 ^ i.val) 1 == 1) = s.val.testBit i.val := by decide +kernel
theorem bitS_test {s i : Nat} (hs : s < 128) (hi : i < 7) : (bits BinOp.and IntKind.u64 ((s : Int) / 2 ^ i) 1 == 1) = s.testBit i := bitS_all ⟨s, hs⟩ ⟨i, hi⟩
set_option maxHeartbeats 800000 in
theorem wayTo_any (gr n cr v S : Nat) (X : Nat → Nat → Int) (w : World) (h7 : n ≤ 7) (hS : S < 128) (hc : ∀ j, j < n → w.cell? ⟨gr, j, none⟩ = some (.int .i64 (X v j))) (hb : ∀ j, j < n → -1 ≤ X v j) :
    Calls Try.prog 90 #[.slice (some ⟨gr, 0, none⟩) n cr, .int .u64 S] w fun e w' => e = .returned (.int .i64 (wy X v (memL S n))) ∧ w' = w := by
  have HC := Lib.hid hc
  have HB := Lib.hid hb
  clear hc hb
  go_enter Try.func90, Try.ntmps90
  go_wp2
  go_loopw [5, 10] (fun m i wr => ∃ k : Nat, k ≤ n ∧ i = .int .i64 k ∧ m = .int .i64 (wy X v (memL S k)) ∧ wr = w) (fun _ i _ => n - (intOf i).toNat)
  case atStart => exact ⟨0, Nat.zero_le _, rfl, rfl, rfl⟩
  case round =>
    obtain ⟨k, hk, rfl, rfl, rfl⟩ := hrel
    obtain ⟨a, Ha⟩ : ∃ a, Hid (wy X v (memL S k) = a) := ⟨_, rfl⟩
    have hlow := wy_low X v (memL S k)
    rw [Ha.out] at hlow ⊢
    by_cases hlt : k < n
    · have hcx := HC.out k hlt
      have hbx := HB.out k hlt
      obtain ⟨x, Hx⟩ : ∃ x, Hid (X v k = x) := ⟨_, rfl⟩
      rw [Hx.out] at hcx hbx
      have hbt := bitS_test (i := k) hS (by omega)
      by_cases hbit : S.testBit k = true
      · have Hnx := Lib.hid (wyS_take hbit Ha.out Hx.out hbx hlow)
        rw [hbit] at hbt
        by_cases hs : ShW x a
        · have Hn2 : Hid (wy X v (memL S (k + 1)) = x) := by show _ = _; rw [Hnx.out, if_pos hs]
          have Hsh := Lib.hid (isSh_yes x a wr hs)
          clear hs hbit Hnx
          go_wp2_with fail
          refine Hsh.out.mono ?_
          rintro e w' ⟨rfl, rfl⟩
          go_wp2
          go_roundw
          case rel => exact ⟨k + 1, by omega, by go_num, by rw [Hn2.out], trivial⟩
          case measure => simp [intOf]; omega
        · have Hn2 : Hid (wy X v (memL S (k + 1)) = a) := by show _ = _; rw [Hnx.out, if_neg hs]
          have Hsh := Lib.hid (isSh_no x a wr hs)
          clear hs hbit Hnx
          go_wp2_with fail
          refine Hsh.out.mono ?_
          rintro e w' ⟨rfl, rfl⟩
          go_wp2
          go_roundw
          case rel => exact ⟨k + 1, by omega, by go_num, by rw [Hn2.out], trivial⟩
          case measure => simp [intOf]; omega
      · have Hn2 : Hid (wy X v (memL S (k + 1)) = a) := (wyS_skip hbit).trans Ha.out
        have hbit2 : S.testBit k = false := by simpa using hbit
        rw [hbit2] at hbt
        clear hbit hbit2
        go_wp2
        go_roundw
        case rel => exact ⟨k + 1, by omega, by go_num, by rw [Hn2.out], trivial⟩
        case measure => simp [intOf]; omega
    · obtain rfl : k = n := by omega
      go_wp2
      go_ret
      exact ⟨ret_int Ha.out.symm, rfl⟩

set_option maxHeartbeats 800000 in
theorem farthest_any (w wr : World) (n g cA S : Nat) (VR : Nat → Value) (X : Nat → Nat → Int) (hn1 : 1 ≤ n) (h7 : n ≤ 7) (hS : S < 128) (hX : TabX w wr n g cA VR X) (hb : Bd54 X n) :
    Calls Try.prog 91 #[.slice (some ⟨g, 0, none⟩) n cA, .int .u64 S] wr fun e w' => e = .returned (.int .i64 (ffI X (memL S n) n : Nat)) ∧ w' = wr := by
  have Hway : Hid (∀ v gr cr, v < n → VR v = .slice (some ⟨gr, 0, none⟩) n cr → Calls Try.prog 90 #[.slice (some ⟨gr, 0, none⟩) n cr, .int .u64 S] wr fun e w' => e = .returned (.int .i64 (wy X v (memL S n))) ∧ w' = wr) := fun v gr cr hv he =>
    wayTo_any gr n cr v S X wr h7 hS (fun j hj => (hX.cell hv hj he).2.1) (fun j hj => (hb v j hv hj).1)
  have HX := Lib.hid hX
  have HF := Lib.hid (fun m (hm : m ≤ n) => ffI_lt X (memL S n) hn1 m hm)
  clear hX hb
  obtain ⟨W, HW⟩ : ∃ W, Hid (wr = W) := ⟨_, rfl⟩
  rw [HW.out] at HX Hway ⊢
  clear HW
  go_enter Try.func91, Try.ntmps91
  go_wp2
  go_loopw [5, 10] (fun f i wi => ∃ k : Nat, k ≤ n ∧ i = .int .i64 k ∧ f = .int .i64 (ffI X (memL S n) k : Nat) ∧ wi = W) (fun _ i _ => n - (intOf i).toNat)
  case atStart => exact ⟨0, Nat.zero_le _, rfl, rfl, rfl⟩
  case round =>
    obtain ⟨k, hk, rfl, rfl, rfl⟩ := hrel
    obtain ⟨f, Hf⟩ : ∃ f, Hid (ffI X (memL S n) k = f) := ⟨_, rfl⟩
    have hflt := HF.out k hk
    rw [Hf.out] at hflt ⊢
    by_cases hlt : k < n
    · obtain ⟨gf, cf, hVf⟩ := HX.out.rowAt hflt
      obtain ⟨gk, ck, hVk⟩ := HX.out.rowAt hlt
      obtain ⟨cgf, -, -⟩ := HX.out.cell hflt hflt hVf
      obtain ⟨cgk, -, -⟩ := HX.out.cell hlt hlt hVk
      have Hwf := Lib.hid (Hway.out f gf cf hflt hVf)
      have Hwk := Lib.hid (Hway.out k gk ck hlt hVk)
      have hsame : f = k → gf = gk ∧ cf = ck := fun e => by
        subst e
        have := hVf.symm.trans hVk
        injection this with e1 _ e3
        injection e1 with e1
        injection e1 with e1
        exact ⟨e1, e3⟩
      obtain ⟨a, Ha⟩ : ∃ a, Hid (wy X f (memL S n) = a) := ⟨_, rfl⟩
      obtain ⟨b, Hb⟩ : ∃ b, Hid (wy X k (memL S n) = b) := ⟨_, rfl⟩
      rw [Ha.out] at Hwf
      rw [Hb.out] at Hwk
      clear hVf hVk hsame
      by_cases hs : ShW a b
      · have Hn2 : Hid (ffI X (memL S n) (k + 1) = k) := ffI_yes Hf.out (by rw [Ha.out, Hb.out]; exact hs)
        have Hsh := Lib.hid (isSh_yes a b wr hs)
        clear hs
        go_wp2_with fail
        refine Hwf.out.mono ?_
        rintro e w' ⟨rfl, rfl⟩
        go_wp2_with fail
        refine Hwk.out.mono ?_
        rintro e w' ⟨rfl, rfl⟩
        go_wp2_with fail
        refine Hsh.out.mono ?_
        rintro e w' ⟨rfl, rfl⟩
        go_wp2
        go_roundw
        case rel => exact ⟨k + 1, by omega, by go_num, by rw [Hn2.out], trivial⟩
        case measure => simp [intOf]; omega
      · have Hn2 : Hid (ffI X (memL S n) (k + 1) = f) := ffI_no Hf.out (by rw [Ha.out, Hb.out]; exact hs)
        have Hsh := Lib.hid (isSh_no a b wr hs)
        clear hs
        go_wp2_with fail
        refine Hwf.out.mono ?_
        rintro e w' ⟨rfl, rfl⟩
        go_wp2_with fail
        refine Hwk.out.mono ?_
        rintro e w' ⟨rfl, rfl⟩
        go_wp2_with fail
        refine Hsh.out.mono ?_
        rintro e w' ⟨rfl, rfl⟩
        go_wp2
        go_roundw
        case rel => exact ⟨k + 1, by omega, by go_num, by rw [Hn2.out], trivial⟩
        case measure => simp [intOf]; omega
    · obtain rfl : k = n := by omega
      have Hf2 := Lib.hid Hf.out.symm
      go_wp2
      go_ret
      exact ⟨ret_int (by rw [Hf.out]), rfl⟩
end Go.Proofs.Ytkgomgfhhhdnjab
