/-
  A walk over the program's tree, for the visit TreeSum$1, which writes into one block: walk, walked.
  Conditions: none beyond what each theorem states.
-/
import Derived.Test.YtoappopbjnlbdabN0
import Derived.Laws.EntriesVeiled
namespace Go.Proofs.Ytoappopbjnlbdab
open Go.ChangeShapes Go.WideShapes Go.ChangeAt Go.RowKit
set_option linter.unusedVariables false
set_option maxRecDepth 4000

/-- What a visit does: block R's content goes on from C L to C of L and the visited. -/
def VisitS (w0 : World) (P : Nat → Nat) (R n : Nat) (c1 c2 : Value) (C : List (Nat × Int) → Obj) (F : List (Nat × Int)) : Prop :=
  ∀ (w : World) (L : List (Nat × Int)) (i : Nat) (x : Int), w0.grownBy w (some R) → w.heap[R]? = some (C L) → (L ++ [(i, x)]) <+: F → i < n →
    Calls Try.prog 50 #[.pointer (some ⟨P i, 0, none⟩), .int .i64 x, c1, c2] w fun e w' => e = .returned (.tuple #[]) ∧ w'.heap[R]? = some (C (L ++ [(i, x)])) ∧ w.grownBy w' (some R)
/-- goOn, from node a, come to from f, with way x: all that is visited is M behind a. -/
def GoOnS (w0 : World) (P : Nat → Nat) (R bv bg : Nat) (C : List (Nat × Int) → Obj) (F : List (Nat × Int)) (a : Nat) (f : Option Nat) (x : Int) (M : List (Nat × Int)) : Prop :=
  ∀ (w : World) (L : List (Nat × Int)), w0.grownBy w (some R) → w.heap[R]? = some (C L) → (L ++ ((a, x) :: M)) <+: F →
    Calls Try.prog 75 #[.pointer (some ⟨P a, 0, none⟩), .pointer (fromA P f), .int .i64 x, .pointer (some ⟨bv, 0, none⟩), .pointer (some ⟨bg, 0, none⟩)] w fun e w' => e = .returned (.tuple #[]) ∧ w'.heap[R]? = some (C (L ++ ((a, x) :: M))) ∧ w.grownBy w' (some R)
/-- What the loop over a node's roads keeps. -/
def RoadsRelS (w0 w1 : World) (R n : Nat) (C : List (Nat × Int) → Obj) (F L : List (Nat × Int)) (t : List (Int × Int)) (a : Nat) (f : Option Nat) (x : Int) (M : List (Nat × Int)) (i : Value) (wr : World) : Prop :=
  ∃ k : Nat, ∃ M1 M2, i = .int .i64 k ∧ k ≤ (nb t n a).length ∧ M = M1 ++ M2 ∧ VisL (nb t n) a f x ((nb t n a).drop k) M2 ∧ w1.grownBy wr (some R) ∧ wr.heap[R]? = some (C (L ++ ((a, x) :: M1)))

set_option maxHeartbeats 1600000 in
theorem goOnS_step (w0 : World) (P : Nat → Nat) (RV : Nat → Value) (B R n bv bg : Nat) (c1 c2 : Value) (C : List (Nat × Int) → Obj) (F : List (Nat × Int)) (t : List (Int × Int)) (ht : Ahead t) (hn : n ≤ t.length) (hn7 : n ≤ 7)
    (hlk : LkN w0 B n P RV t) (hRt : ∃ cs ty fz, w0.heap[R]? = some (.cells cs ty fz) ∧ ty ≠ 67 ∧ ty ≠ 92) (hbv : bv ≠ R) (hbg : bg ≠ R)
    (hv : w0.cell? ⟨bv, 0, none⟩ = some (.func (.func 50) #[] #[c1, c2])) (hg : w0.cell? ⟨bg, 0, none⟩ = some (.func (.func 75) #[] #[.pointer (some ⟨bv, 0, none⟩), .pointer (some ⟨bg, 0, none⟩)])) (hvis : VisitS w0 P R n c1 c2 C F) (hF : ∀ y ∈ F, 0 ≤ y.2 ∧ y.2 ≤ 1000000)
    (m : Nat) (ih : ∀ a f x M, M.length < m → a < n → (∀ g, f = some g → g < n) → VisL (nb t n) a f x (nb t n a) M → GoOnS w0 P R bv bg C F a f x M)
    (a : Nat) (f : Option Nat) (x : Int) (M : List (Nat × Int)) (hM : M.length = m) (ha : a < n) (hf : ∀ g, f = some g → g < n) (hV : VisL (nb t n) a f x (nb t n a) M) : GoOnS w0 P R bv bg C F a f x M := by
  intro w L hgw hL hpre
  obtain ⟨cs, ty, fz, hRc, hR1, hR2⟩ := hRt
  have Hvis := Lib.hid hvis
  have Hih := Lib.hid ih
  have HV := Lib.hid hV
  have hcf : ∀ {w' : World} {b : Nat} {v : Value}, w0.grownBy w' (some R) → b ≠ R → w0.cell? ⟨b, 0, none⟩ = some v → w'.cell? ⟨b, 0, none⟩ = some v := fun hg hne hc =>
    (World.cell?_of_block (hg.block _ (World.block_lt_of_cell? w0 _ hc) (fun e => hne (by injection e)))).trans hc
  have Hcf := Lib.hid (fun (w' : World) (hg' : w0.grownBy w' (some R)) => (⟨hcf hg' hbv hv, hcf hg' hbg hg⟩ : w'.cell? ⟨bv, 0, none⟩ = some (.func (.func 50) #[] #[c1, c2]) ∧ w'.cell? ⟨bg, 0, none⟩ = some (.func (.func 75) #[] #[.pointer (some ⟨bv, 0, none⟩), .pointer (some ⟨bg, 0, none⟩)])))
  have Hlk := Lib.hid (fun (w' : World) (hg' : w0.grownBy w' (some R)) => hlk.kept hg' (fun g e _ => by injection e with e; subst e; exact ⟨cs, ty, fz, hRc, hR1, hR2⟩))
  clear hvis ih hV hlk hcf hv hg hRc
  obtain ⟨cv, cg⟩ := Hcf.out w hgw
  have hpre1 : (L ++ [(a, x)]) <+: F := by
    obtain ⟨r, hr⟩ := hpre
    exact ⟨M ++ r, by rw [← hr]; simp⟩
  have hcall := Hvis.out w L a x hgw hL hpre1 ha
  have Hcall := Lib.hid hcall
  have Hpre := Lib.hid hpre
  have HF := Lib.hid hF
  have Hgw := Lib.hid hgw
  clear hcall hpre hpre1 hF hL hgw
  go_enter Try.func75, Try.ntmps75
  go_wp2_with fail
  refine Hcall.out.mono ?_
  rintro e w1 ⟨rfl, h1, hg1⟩
  have hg01 := grown_trans Hgw.out hg1
  have lk1 := Hlk.out w1 hg01
  obtain ⟨-, -, -, c3, -⟩ := lk1.cells ha
  obtain ⟨A, cA, hrv, hA1, hA2, hA3⟩ := own_sliceN (lk1.own a ha)
  rw [hrv] at c3
  have H1 := Lib.hid h1
  have Hg1 := Lib.hid hg1
  have Hg01 := Lib.hid hg01
  have Lk1 := Lib.hid lk1
  have Hrv := Lib.hid hrv
  have HA3 := Lib.hid hA3
  obtain ⟨N, HN⟩ : ∃ N, Hid ((nb t n a).length = N) := ⟨_, rfl⟩
  have hN7 : N ≤ 7 := by have := nb_len t n a; rw [HN.out] at this; omega
  rw [HN.out] at c3 hA1
  clear h1 hg1 hg01 lk1 hrv hA3 cv cg
  go_wp2
  go_loopw [19] (fun i wr => RoadsRelS w0 w1 R n C F L t a f x M i wr) (fun i _ => N - (intOf i).toNat)
  case atStart => exact ⟨0, [], M, rfl, Nat.zero_le _, rfl, HV.out, grown_refl _ _, H1.out⟩
  case round =>
    obtain ⟨k, M1, M2, rfl, hk, hMM, hV2, hgr, hCr⟩ := hrel
    rw [HN.out] at hk
    by_cases hlt : k < N
    · have hg0r := grown_trans Hg01.out hgr
      have lkr := Hlk.out wr hg0r
      obtain ⟨cvr, cgr⟩ := Hcf.out wr hg0r
      obtain ⟨g, rfl, hgB, hgl⟩ := HA3.out (by rw [HN.out]; omega)
      have ow := lkr.own a ha
      rw [Hrv.out, HN.out] at ow
      obtain ⟨⟨b, l⟩, hbl⟩ : ∃ y, (nb t n a).getD k (0, 0) = y := ⟨_, rfl⟩
      have hkl : k < (nb t n a).length := by rw [HN.out]; exact hlt
      have hbm : (b, l) ∈ nb t n a := by rw [← hbl]; simp only [List.getD, List.getElem?_eq_getElem hkl]; exact List.getElem_mem hkl
      have hbn := nb_lt ht n hn a ha b l hbm
      have hdrop : (nb t n a).drop k = (b, l) :: (nb t n a).drop (k + 1) := by
        rw [List.drop_eq_getElem_cons hkl]
        congr 1
        rw [← hbl]; simp [List.getD, List.getElem?_eq_getElem hkl]
      have ce : wr.cell? ⟨g, k * 2, none⟩ = some (.pointer (some ⟨P b, 0, none⟩)) := by
        rw [ow.cellAt (k * 2) (by omega), brv_ptr P _ k hkl, hbl]; rfl
      have cl : wr.cell? ⟨g, k * 2 + 1, none⟩ = some (.int .i64 l) := by
        rw [ow.cellAt (k * 2 + 1) (by omega), brv_int P _ k hkl, hbl]
      rw [hdrop] at hV2
      have HV2 := Lib.hid hV2
      have Hg0r := Lib.hid hg0r
      have Hgr := Lib.hid hgr
      have Lkr := Lib.hid lkr
      have HCr := Lib.hid hCr
      have HMM := Lib.hid hMM
      clear hV2 hg0r hgr lkr hCr hMM ow hbl hdrop hbm
      by_cases hfb : f = some b
      · subst hfb
        have hV3 : Hid (VisL (nb t n) a (some b) x ((nb t n a).drop (k + 1)) M2) := by
          have h := HV2.out
          cases h with
          | skip _ h => exact h
          | go h _ _ => exact absurd rfl h
        simp only [fromA]
        have hb1 : ∀ o, (binOp .neq 62 (.pointer (some ⟨P b, 0, none⟩)) (.pointer (some ⟨P b, 0, none⟩))).run Try.prog (wr.alloc o) = .ok (.bool false) (wr.alloc o) := fun o => neq_same _ _
        go_wp2
        go_roundw
        case rel => exact ⟨k + 1, M1, M2, by go_num, by rw [HN.out]; omega, HMM.out, hV3.out, gb_trans Hgr.out (World.grownBy_alloc wr _ none) (.inr (fun g h => by cases h)), by
          rw [heap_alloc_old wr _ (Array.getElem?_eq_some_iff.1 HCr.out).1]; exact HCr.out⟩
        case measure => simp [intOf]; omega
      · obtain ⟨M3, M4, hM2, hW, hV3⟩ : ∃ M3 M4, M2 = (b, x + l) :: (M3 ++ M4) ∧ VisL (nb t n) b (some a) (x + l) (nb t n b) M3 ∧ VisL (nb t n) a f x ((nb t n a).drop (k + 1)) M4 := by
          have h := HV2.out
          cases h with
          | skip h _ => exact absurd h hfb
          | go _ h1 h2 => exact ⟨_, _, rfl, h1, h2⟩
        have hlen : M3.length < m := by
          rw [← hM, HMM.out, hM2]; simp; omega
        have hpre3 : ((L ++ ((a, x) :: M1)) ++ ((b, x + l) :: M3)) <+: F := by
          obtain ⟨r, hr⟩ := Hpre.out
          exact ⟨M4 ++ r, by rw [← hr, HMM.out, hM2]; simp⟩
        have hxl := HF.out (b, x + l) (by obtain ⟨r, hr⟩ := hpre3; rw [← hr]; simp)
        simp only at hxl
        have hgA : ∀ o, w0.grownBy (wr.alloc o) (some R) := fun o => gb_trans Hg0r.out (World.grownBy_alloc wr o none) (.inr (fun g h => by cases h))
        have hcall : ∀ o, Calls Try.prog 75 #[.pointer (some ⟨P b, 0, none⟩), .pointer (some ⟨P a, 0, none⟩), .int .i64 (x + l), .pointer (some ⟨bv, 0, none⟩), .pointer (some ⟨bg, 0, none⟩)] (wr.alloc o) fun e w' => e = .returned (.tuple #[]) ∧ w'.heap[R]? = some (C ((L ++ ((a, x) :: M1)) ++ ((b, x + l) :: M3))) ∧ (wr.alloc o).grownBy w' (some R) := fun o =>
          Hih.out b (some a) (x + l) M3 hlen hbn (fun g e => by injection e with e; omega) hW (wr.alloc o) (L ++ ((a, x) :: M1)) (hgA o) (by rw [heap_alloc_old wr _ (Array.getElem?_eq_some_iff.1 HCr.out).1]; exact HCr.out) hpre3
        have Hcall2 := Lib.hid hcall
        have hcgo : ∀ o, (wr.alloc o).cell? ⟨bg, 0, none⟩ = some (.func (.func 75) #[] #[.pointer (some ⟨bv, 0, none⟩), .pointer (some ⟨bg, 0, none⟩)]) := fun o => (Hcf.out _ (hgA o)).2
        have hne : ∀ o, (binOp .neq 62 (.pointer (some ⟨P b, 0, none⟩)) (.pointer (fromA P f))).run Try.prog (wr.alloc o) = .ok (.bool true) (wr.alloc o) := fun o =>
          neq_from (Lkr.out.below ((Below.refl _ _).alloc (Nat.le_refl _) o)) hbn hf hfb
        have HM2 := Lib.hid hM2
        have HV3 := Lib.hid hV3
        clear hcall hgA hpre3 hlen hW hV3 hM2 hfb cvr cgr
        go_wp2_with fail
        refine (Hcall2.out _).mono ?_
        rintro e w3 ⟨rfl, h3, hg3⟩
        have hg13 := gb_trans (gb_trans Hgr.out (World.grownBy_alloc wr _ none) (.inr (fun g h => by cases h))) hg3 (.inl rfl)
        have H3 := Lib.hid h3
        have Hg13 := Lib.hid hg13
        clear h3 hg3 hg13 ce cl hcgo hne
        go_wp2
        go_roundw
        case rel => exact ⟨k + 1, M1 ++ ((b, x + l) :: M3), M4, by go_num, by rw [HN.out]; omega, by rw [HMM.out, HM2.out]; simp, HV3.out, Hg13.out, by simpa using H3.out⟩
        case measure => simp [intOf]; omega
    · have hd : (nb t n a).drop k = [] := List.drop_of_length_le (by rw [HN.out]; omega)
      rw [hd] at hV2
      have hM2 : M2 = [] := by cases hV2; rfl
      subst hM2
      rw [List.append_nil] at hMM
      subst hMM
      have Hend := Lib.hid hCr
      have Hgr := Lib.hid hgr
      clear hd hV2 hCr hgr
      go_wp2
      go_end0
      exact ⟨rfl, Hend.out, grown_trans Hg1.out Hgr.out⟩
theorem goOnS_any (w0 : World) (P : Nat → Nat) (RV : Nat → Value) (B R n bv bg : Nat) (c1 c2 : Value) (C : List (Nat × Int) → Obj) (F : List (Nat × Int)) (t : List (Int × Int)) (ht : Ahead t) (hn : n ≤ t.length) (hn7 : n ≤ 7)
    (hlk : LkN w0 B n P RV t) (hRt : ∃ cs ty fz, w0.heap[R]? = some (.cells cs ty fz) ∧ ty ≠ 67 ∧ ty ≠ 92) (hbv : bv ≠ R) (hbg : bg ≠ R)
    (hv : w0.cell? ⟨bv, 0, none⟩ = some (.func (.func 50) #[] #[c1, c2])) (hg : w0.cell? ⟨bg, 0, none⟩ = some (.func (.func 75) #[] #[.pointer (some ⟨bv, 0, none⟩), .pointer (some ⟨bg, 0, none⟩)])) (hvis : VisitS w0 P R n c1 c2 C F) (hF : ∀ y ∈ F, 0 ≤ y.2 ∧ y.2 ≤ 1000000) :
    ∀ m a f x M, M.length ≤ m → a < n → (∀ g, f = some g → g < n) → VisL (nb t n) a f x (nb t n a) M → GoOnS w0 P R bv bg C F a f x M
  | 0, a, f, x, M, hm, ha, hf, hV => goOnS_step w0 P RV B R n bv bg c1 c2 C F t ht hn hn7 hlk hRt hbv hbg hv hg hvis hF 0 (fun _ _ _ _ h => by omega) a f x M (by omega) ha hf hV
  | m + 1, a, f, x, M, hm, ha, hf, hV =>
    goOnS_step w0 P RV B R n bv bg c1 c2 C F t ht hn hn7 hlk hRt hbv hbg hv hg hvis hF M.length (fun a f x M' h => goOnS_any w0 P RV B R n bv bg c1 c2 C F t ht hn hn7 hlk hRt hbv hbg hv hg hvis hF m a f x M' (by omega)) a f x M rfl ha hf hV

theorem VisitS.later {w w0 : World} {P : Nat → Nat} {R n : Nat} {c1 c2 : Value} {C : List (Nat × Int) → Obj} {F : List (Nat × Int)} (h : VisitS w P R n c1 c2 C F) (hg : w.grownBy w0 (some R)) : VisitS w0 P R n c1 c2 C F :=
  fun w' L i x h1 h2 h3 h4 => h w' L i x (grown_trans hg h1) h2 h3 h4
set_option maxHeartbeats 800000 in
theorem walkS_any (w : World) (P : Nat → Nat) (RV : Nat → Value) (B R n : Nat) (c1 c2 : Value) (C : List (Nat × Int) → Obj) (t : List (Int × Int)) (ht : Ahead t) (hn : n ≤ t.length) (hn7 : n ≤ 7)
    (hlk : LkN w B n P RV t) (hRt : ∃ cs ty fz, w.heap[R]? = some (.cells cs ty fz) ∧ ty ≠ 67 ∧ ty ≠ 92) (hC : w.heap[R]? = some (C []))
    (a : Nat) (f : Option Nat) (M : List (Nat × Int)) (ha : a < n) (hf : ∀ g, f = some g → g < n) (hV : VisL (nb t n) a f 0 (nb t n a) M) (hvis : VisitS w P R n c1 c2 C ((a, 0) :: M)) (hF : ∀ y ∈ (a, (0 : Int)) :: M, 0 ≤ y.2 ∧ y.2 ≤ 1000000) :
    Calls Try.prog 48 #[.pointer (some ⟨P a, 0, none⟩), .pointer (fromA P f), .func (.func 50) #[] #[c1, c2]] w fun e w' => e = .returned (.tuple #[]) ∧ w'.heap[R]? = some (C ((a, 0) :: M)) ∧ w.grownBy w' (some R) := by
  have hRlt : R < w.heap.size := (Array.getElem?_eq_some_iff.1 hC).1
  have H := Lib.hid (fun (w0 : World) (b0 : Below w.heap.size w w0) (g0 : w.grownBy w0 (some R)) (bv bg : Nat) (h1 : w.heap.size ≤ bv) (h2 : w.heap.size ≤ bg)
      (hv : w0.cell? ⟨bv, 0, none⟩ = some (.func (.func 50) #[] #[c1, c2])) (hg : w0.cell? ⟨bg, 0, none⟩ = some (.func (.func 75) #[] #[.pointer (some ⟨bv, 0, none⟩), .pointer (some ⟨bg, 0, none⟩)])) =>
    goOnS_any w0 P RV B R n bv bg c1 c2 C ((a, 0) :: M) t ht hn hn7 (hlk.below b0) (by
      obtain ⟨cs, ty, fz, hc, r⟩ := hRt
      exact ⟨cs, ty, fz, (b0.block R hRlt).trans hc, r⟩) (by omega) (by omega) hv hg (hvis.later g0) hF M.length a f 0 M (Nat.le_refl _) ha hf hV w0 [] (grown_refl _ _) ((b0.block R hRlt).trans hC) (List.prefix_rfl))
  have b1 := (Below.refl w.heap.size w).alloc (Nat.le_refl _) (.cells #[.func (.func 50) #[] #[c1, c2]] 68)
  have b2 := b1.alloc b1.size (.cells #[.func (.func 75) #[] #[.pointer (some ⟨w.heap.size, 0, none⟩), .pointer (some ⟨w.heap.size + 1, 0, none⟩)]] 90)
  have g2 := gb_trans (World.grownBy_alloc w (.cells #[.func (.func 50) #[] #[c1, c2]] 68) (some R)) (World.grownBy_alloc _ (.cells #[.func (.func 75) #[] #[.pointer (some ⟨w.heap.size, 0, none⟩), .pointer (some ⟨w.heap.size + 1, 0, none⟩)]] 90) none) (.inr (fun g h => by cases h))
  have H2 := Lib.hid (H.out _ b2 g2 w.heap.size (w.heap.size + 1) (by omega) (by omega) (by
      rw [cell_of_row _ _ _ _ _ (0, 0) ((heap_alloc_old _ _ (by rw [size_alloc1]; omega)).trans (heap_alloc_new w _))]; rfl) (by
      have e := heap_alloc_new (w.alloc (.cells #[.func (.func 50) #[] #[c1, c2]] 68)) (.cells #[.func (.func 75) #[] #[.pointer (some ⟨w.heap.size, 0, none⟩), .pointer (some ⟨w.heap.size + 1, 0, none⟩)]] 90)
      rw [size_alloc1] at e
      rw [cell_of_row _ _ _ _ _ _ e]; rfl))
  have G2 := Lib.hid g2
  clear hlk hRt hC hV hvis hF H b1 b2 g2
  go_enter Try.func48, Try.ntmps48
  go_wp2_with fail
  refine H2.out.mono ?_
  rintro e w3 ⟨rfl, h3, hg3⟩
  have hg4 := gb_trans G2.out hg3 (.inl rfl)
  have H3 := Lib.hid h3
  have H4 := Lib.hid hg4
  clear h3 hg3 hg4
  go_wp2
  go_end0
  exact ⟨rfl, H3.out, H4.out⟩
end Go.Proofs.Ytoappopbjnlbdab
