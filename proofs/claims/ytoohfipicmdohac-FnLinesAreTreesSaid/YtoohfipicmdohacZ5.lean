/-
  A walk over the program's tree, for the visit TreeSum$1, which writes into one block: walk, walked.
  Conditions: none beyond what each theorem states.
  The visit of TreeSum: people times the way are added.
  Conditions: none beyond what each theorem states.
  TreeSum: the program answers the sum over all nodes of people times the way.
  Conditions: fewer than 2^60 roads and numbers.
  A walk over the program's tree, for the visit TreeTable$1, which writes into one block: walk, walked.
  Conditions: none beyond what each theorem states.
  The visit of TreeTable: a row's element is written.
  Conditions: none beyond what each theorem states.
-/
import Derived.Test.YtoohfipicmdohacZ4
import Derived.Test.YtoohfipicmdohacZ3
import Derived.Laws.EntriesVeiled
namespace Go.Proofs.Ytoohfipicmdohac
open Go.ChangeShapes Go.WideShapes Go.ChangeAt Go.RowKit
set_option linter.unusedVariables false
set_option maxRecDepth 4000

/-- What a visit does: block R's content goes on from C L to C of L and the visited. -/
def VisitS (w0 : World) (P : Nat → Nat) (R n : Nat) (c1 c2 : Value) (C : List (Nat × Int) → Obj) (F : List (Nat × Int)) : Prop :=
  ∀ (w : World) (L : List (Nat × Int)) (i : Nat) (x : Int), w0.grownBy w (some R) → w.heap[R]? = some (C L) → (L ++ [(i, x)]) <+: F → i < n →
    Calls Try.prog 52 #[.pointer (some ⟨P i, 0, none⟩), .int .i64 x, c1, c2] w fun e w' => e = .returned (.tuple #[]) ∧ w'.heap[R]? = some (C (L ++ [(i, x)])) ∧ w.grownBy w' (some R)
/-- goOn, from node a, come to from f, with way x: all that is visited is M behind a. -/
def GoOnS (w0 : World) (P : Nat → Nat) (R bv bg : Nat) (C : List (Nat × Int) → Obj) (F : List (Nat × Int)) (a : Nat) (f : Option Nat) (x : Int) (M : List (Nat × Int)) : Prop :=
  ∀ (w : World) (L : List (Nat × Int)), w0.grownBy w (some R) → w.heap[R]? = some (C L) → (L ++ ((a, x) :: M)) <+: F →
    Calls Try.prog 63 #[.pointer (some ⟨P a, 0, none⟩), .pointer (fromA P f), .int .i64 x, .pointer (some ⟨bv, 0, none⟩), .pointer (some ⟨bg, 0, none⟩)] w fun e w' => e = .returned (.tuple #[]) ∧ w'.heap[R]? = some (C (L ++ ((a, x) :: M))) ∧ w.grownBy w' (some R)
/-- What the loop over a node's roads keeps. -/
def RoadsRelS (w0 w1 : World) (R n : Nat) (C : List (Nat × Int) → Obj) (F L : List (Nat × Int)) (t : List (Int × Int)) (a : Nat) (f : Option Nat) (x : Int) (M : List (Nat × Int)) (i : Value) (wr : World) : Prop :=
  ∃ k : Nat, ∃ M1 M2, i = .int .i64 k ∧ k ≤ (nb t n a).length ∧ M = M1 ++ M2 ∧ VisL (nb t n) a f x ((nb t n a).drop k) M2 ∧ w1.grownBy wr (some R) ∧ wr.heap[R]? = some (C (L ++ ((a, x) :: M1)))

set_option maxHeartbeats 1600000 in
theorem goOnS_step (w0 : World) (P : Nat → Nat) (RV : Nat → Value) (B R n bv bg : Nat) (c1 c2 : Value) (C : List (Nat × Int) → Obj) (F : List (Nat × Int)) (t : List (Int × Int)) (ht : Ahead t) (hn : n ≤ t.length) (hn7 : n ≤ 7)
    (hlk : LkN w0 B n P RV t) (hRt : ∃ cs ty fz, w0.heap[R]? = some (.cells cs ty fz) ∧ ty ≠ 71 ∧ ty ≠ 81) (hbv : bv ≠ R) (hbg : bg ≠ R)
    (hv : w0.cell? ⟨bv, 0, none⟩ = some (.func (.func 52) #[] #[c1, c2])) (hg : w0.cell? ⟨bg, 0, none⟩ = some (.func (.func 63) #[] #[.pointer (some ⟨bv, 0, none⟩), .pointer (some ⟨bg, 0, none⟩)])) (hvis : VisitS w0 P R n c1 c2 C F) (hF : ∀ y ∈ F, 0 ≤ y.2 ∧ y.2 ≤ 1000000)
    (m : Nat) (ih : ∀ a f x M, M.length < m → a < n → (∀ g, f = some g → g < n) → VisL (nb t n) a f x (nb t n a) M → GoOnS w0 P R bv bg C F a f x M)
    (a : Nat) (f : Option Nat) (x : Int) (M : List (Nat × Int)) (hM : M.length = m) (ha : a < n) (hf : ∀ g, f = some g → g < n) (hV : VisL (nb t n) a f x (nb t n a) M) : GoOnS w0 P R bv bg C F a f x M := by
  intro w L hgw hL hpre
  obtain ⟨cs, ty, fz, hRc, hR1, hR2⟩ := hRt
  have Hvis := Lib.hid hvis
  have Hih := Lib.hid ih
  have HV := Lib.hid hV
  have hcf : ∀ {w' : World} {b : Nat} {v : Value}, w0.grownBy w' (some R) → b ≠ R → w0.cell? ⟨b, 0, none⟩ = some v → w'.cell? ⟨b, 0, none⟩ = some v := fun hg hne hc =>
    (World.cell?_of_block (hg.block _ (World.block_lt_of_cell? w0 _ hc) (fun e => hne (by injection e)))).trans hc
  have Hcf := Lib.hid (fun (w' : World) (hg' : w0.grownBy w' (some R)) => (⟨hcf hg' hbv hv, hcf hg' hbg hg⟩ : w'.cell? ⟨bv, 0, none⟩ = some (.func (.func 52) #[] #[c1, c2]) ∧ w'.cell? ⟨bg, 0, none⟩ = some (.func (.func 63) #[] #[.pointer (some ⟨bv, 0, none⟩), .pointer (some ⟨bg, 0, none⟩)])))
  have Hlk := Lib.hid (fun (w' : World) (hg' : w0.grownBy w' (some R)) => hlk.kept hg' (fun g e _ => by injection e with e; subst e; exact ⟨cs, ty, fz, hRc, hR1, hR2⟩))
  clear hvis ih hV hlk hcf hv hg hRc
  obtain ⟨cv, cg⟩ := Hcf.out w hgw
  have hpre1 : (L ++ [(a, x)]) <+: F := by
    obtain ⟨r, hr⟩ := hpre
    exact ⟨M ++ r, by rw [← hr]; simp⟩
  have hcall := Hvis.out w L a x hgw hL hpre1 ha
  have Hcall := Lib.hid hcall
  have Hpre := Lib.hid hpre
  have HF := Lib.hid hF
  have Hgw := Lib.hid hgw
  clear hcall hpre hpre1 hF hL hgw
  go_enter Try.func63, Try.ntmps63
  go_wp2_with fail
  refine Hcall.out.mono ?_
  rintro e w1 ⟨rfl, h1, hg1⟩
  have hg01 := grown_trans Hgw.out hg1
  have lk1 := Hlk.out w1 hg01
  obtain ⟨-, -, -, c3, -⟩ := lk1.cells ha
  obtain ⟨A, cA, hrv, hA1, hA2, hA3⟩ := own_sliceN (lk1.own a ha)
  rw [hrv] at c3
  have H1 := Lib.hid h1
  have Hg1 := Lib.hid hg1
  have Hg01 := Lib.hid hg01
  have Lk1 := Lib.hid lk1
  have Hrv := Lib.hid hrv
  have HA3 := Lib.hid hA3
  obtain ⟨N, HN⟩ : ∃ N, Hid ((nb t n a).length = N) := ⟨_, rfl⟩
  have hN7 : N ≤ 7 := by have := nb_len t n a; rw [HN.out] at this; omega
  rw [HN.out] at c3 hA1
  clear h1 hg1 hg01 lk1 hrv hA3 cv cg
  go_wp2
  go_loopw [19] (fun i wr => RoadsRelS w0 w1 R n C F L t a f x M i wr) (fun i _ => N - (intOf i).toNat)
  case atStart => exact ⟨0, [], M, rfl, Nat.zero_le _, rfl, HV.out, grown_refl _ _, H1.out⟩
  case round =>
    obtain ⟨k, M1, M2, rfl, hk, hMM, hV2, hgr, hCr⟩ := hrel
    rw [HN.out] at hk
    by_cases hlt : k < N
    · have hg0r := grown_trans Hg01.out hgr
      have lkr := Hlk.out wr hg0r
      obtain ⟨cvr, cgr⟩ := Hcf.out wr hg0r
      obtain ⟨g, rfl, hgB, hgl⟩ := HA3.out (by rw [HN.out]; omega)
      have ow := lkr.own a ha
      rw [Hrv.out, HN.out] at ow
      obtain ⟨⟨b, l⟩, hbl⟩ : ∃ y, (nb t n a).getD k (0, 0) = y := ⟨_, rfl⟩
      have hkl : k < (nb t n a).length := by rw [HN.out]; exact hlt
      have hbm : (b, l) ∈ nb t n a := by rw [← hbl]; simp only [List.getD, List.getElem?_eq_getElem hkl]; exact List.getElem_mem hkl
      have hbn := nb_lt ht n hn a ha b l hbm
      have hdrop : (nb t n a).drop k = (b, l) :: (nb t n a).drop (k + 1) := by
        rw [List.drop_eq_getElem_cons hkl]
        congr 1
        rw [← hbl]; simp [List.getD, List.getElem?_eq_getElem hkl]
      have ce : wr.cell? ⟨g, k * 2, none⟩ = some (.pointer (some ⟨P b, 0, none⟩)) := by
        rw [ow.cellAt (k * 2) (by omega), brv_ptr P _ k hkl, hbl]; rfl
      have cl : wr.cell? ⟨g, k * 2 + 1, none⟩ = some (.int .i64 l) := by
        rw [ow.cellAt (k * 2 + 1) (by omega), brv_int P _ k hkl, hbl]
      rw [hdrop] at hV2
      have HV2 := Lib.hid hV2
      have Hg0r := Lib.hid hg0r
      have Hgr := Lib.hid hgr
      have Lkr := Lib.hid lkr
      have HCr := Lib.hid hCr
      have HMM := Lib.hid hMM
      clear hV2 hg0r hgr lkr hCr hMM ow hbl hdrop hbm
      by_cases hfb : f = some b
      · subst hfb
        have hV3 : Hid (VisL (nb t n) a (some b) x ((nb t n a).drop (k + 1)) M2) := by
          have h := HV2.out
          cases h with
          | skip _ h => exact h
          | go h _ _ => exact absurd rfl h
        simp only [fromA]
        have hb1 : ∀ o, (binOp .neq 66 (.pointer (some ⟨P b, 0, none⟩)) (.pointer (some ⟨P b, 0, none⟩))).run Try.prog (wr.alloc o) = .ok (.bool false) (wr.alloc o) := fun o => neq_same _ _
        go_wp2
        go_roundw
        case rel => exact ⟨k + 1, M1, M2, by go_num, by rw [HN.out]; omega, HMM.out, hV3.out, gb_trans Hgr.out (World.grownBy_alloc wr _ none) (.inr (fun g h => by cases h)), by
          rw [heap_alloc_old wr _ (Array.getElem?_eq_some_iff.1 HCr.out).1]; exact HCr.out⟩
        case measure => simp [intOf]; omega
      · obtain ⟨M3, M4, hM2, hW, hV3⟩ : ∃ M3 M4, M2 = (b, x + l) :: (M3 ++ M4) ∧ VisL (nb t n) b (some a) (x + l) (nb t n b) M3 ∧ VisL (nb t n) a f x ((nb t n a).drop (k + 1)) M4 := by
          have h := HV2.out
          cases h with
          | skip h _ => exact absurd h hfb
          | go _ h1 h2 => exact ⟨_, _, rfl, h1, h2⟩
        have hlen : M3.length < m := by
          rw [← hM, HMM.out, hM2]; simp; omega
        have hpre3 : ((L ++ ((a, x) :: M1)) ++ ((b, x + l) :: M3)) <+: F := by
          obtain ⟨r, hr⟩ := Hpre.out
          exact ⟨M4 ++ r, by rw [← hr, HMM.out, hM2]; simp⟩
        have hxl := HF.out (b, x + l) (by obtain ⟨r, hr⟩ := hpre3; rw [← hr]; simp)
        simp only at hxl
        have hgA : ∀ o, w0.grownBy (wr.alloc o) (some R) := fun o => gb_trans Hg0r.out (World.grownBy_alloc wr o none) (.inr (fun g h => by cases h))
        have hcall : ∀ o, Calls Try.prog 63 #[.pointer (some ⟨P b, 0, none⟩), .pointer (some ⟨P a, 0, none⟩), .int .i64 (x + l), .pointer (some ⟨bv, 0, none⟩), .pointer (some ⟨bg, 0, none⟩)] (wr.alloc o) fun e w' => e = .returned (.tuple #[]) ∧ w'.heap[R]? = some (C ((L ++ ((a, x) :: M1)) ++ ((b, x + l) :: M3))) ∧ (wr.alloc o).grownBy w' (some R) := fun o =>
          Hih.out b (some a) (x + l) M3 hlen hbn (fun g e => by injection e with e; omega) hW (wr.alloc o) (L ++ ((a, x) :: M1)) (hgA o) (by rw [heap_alloc_old wr _ (Array.getElem?_eq_some_iff.1 HCr.out).1]; exact HCr.out) hpre3
        have Hcall2 := Lib.hid hcall
        have hcgo : ∀ o, (wr.alloc o).cell? ⟨bg, 0, none⟩ = some (.func (.func 63) #[] #[.pointer (some ⟨bv, 0, none⟩), .pointer (some ⟨bg, 0, none⟩)]) := fun o => (Hcf.out _ (hgA o)).2
        have hne : ∀ o, (binOp .neq 66 (.pointer (some ⟨P b, 0, none⟩)) (.pointer (fromA P f))).run Try.prog (wr.alloc o) = .ok (.bool true) (wr.alloc o) := fun o =>
          neq_from (Lkr.out.below ((Below.refl _ _).alloc (Nat.le_refl _) o)) hbn hf hfb
        have HM2 := Lib.hid hM2
        have HV3 := Lib.hid hV3
        clear hcall hgA hpre3 hlen hW hV3 hM2 hfb cvr cgr
        go_wp2_with fail
        refine (Hcall2.out _).mono ?_
        rintro e w3 ⟨rfl, h3, hg3⟩
        have hg13 := gb_trans (gb_trans Hgr.out (World.grownBy_alloc wr _ none) (.inr (fun g h => by cases h))) hg3 (.inl rfl)
        have H3 := Lib.hid h3
        have Hg13 := Lib.hid hg13
        clear h3 hg3 hg13 ce cl hcgo hne
        go_wp2
        go_roundw
        case rel => exact ⟨k + 1, M1 ++ ((b, x + l) :: M3), M4, by go_num, by rw [HN.out]; omega, by rw [HMM.out, HM2.out]; simp, HV3.out, Hg13.out, by simpa using H3.out⟩
        case measure => simp [intOf]; omega
    · have hd : (nb t n a).drop k = [] := List.drop_of_length_le (by rw [HN.out]; omega)
      rw [hd] at hV2
      have hM2 : M2 = [] := by cases hV2; rfl
      subst hM2
      rw [List.append_nil] at hMM
      subst hMM
      have Hend := Lib.hid hCr
      have Hgr := Lib.hid hgr
      clear hd hV2 hCr hgr
      go_wp2
      go_end0
      exact ⟨rfl, Hend.out, grown_trans Hg1.out Hgr.out⟩
theorem goOnS_any (w0 : World) (P : Nat → Nat) (RV : Nat → Value) (B R n bv bg : Nat) (c1 c2 : Value) (C : List (Nat × Int) → Obj) (F : List (Nat × Int)) (t : List (Int × Int)) (ht : Ahead t) (hn : n ≤ t.length) (hn7 : n ≤ 7)
    (hlk : LkN w0 B n P RV t) (hRt : ∃ cs ty fz, w0.heap[R]? = some (.cells cs ty fz) ∧ ty ≠ 71 ∧ ty ≠ 81) (hbv : bv ≠ R) (hbg : bg ≠ R)
    (hv : w0.cell? ⟨bv, 0, none⟩ = some (.func (.func 52) #[] #[c1, c2])) (hg : w0.cell? ⟨bg, 0, none⟩ = some (.func (.func 63) #[] #[.pointer (some ⟨bv, 0, none⟩), .pointer (some ⟨bg, 0, none⟩)])) (hvis : VisitS w0 P R n c1 c2 C F) (hF : ∀ y ∈ F, 0 ≤ y.2 ∧ y.2 ≤ 1000000) :
    ∀ m a f x M, M.length ≤ m → a < n → (∀ g, f = some g → g < n) → VisL (nb t n) a f x (nb t n a) M → GoOnS w0 P R bv bg C F a f x M
  | 0, a, f, x, M, hm, ha, hf, hV => goOnS_step w0 P RV B R n bv bg c1 c2 C F t ht hn hn7 hlk hRt hbv hbg hv hg hvis hF 0 (fun _ _ _ _ h => by omega) a f x M (by omega) ha hf hV
  | m + 1, a, f, x, M, hm, ha, hf, hV =>
    goOnS_step w0 P RV B R n bv bg c1 c2 C F t ht hn hn7 hlk hRt hbv hbg hv hg hvis hF M.length (fun a f x M' h => goOnS_any w0 P RV B R n bv bg c1 c2 C F t ht hn hn7 hlk hRt hbv hbg hv hg hvis hF m a f x M' (by omega)) a f x M rfl ha hf hV

theorem VisitS.later {w w0 : World} {P : Nat → Nat} {R n : Nat} {c1 c2 : Value} {C : List (Nat × Int) → Obj} {F : List (Nat × Int)} (h : VisitS w P R n c1 c2 C F) (hg : w.grownBy w0 (some R)) : VisitS w0 P R n c1 c2 C F :=
  fun w' L i x h1 h2 h3 h4 => h w' L i x (grown_trans hg h1) h2 h3 h4
set_option maxHeartbeats 800000 in
theorem walkS_any (w : World) (P : Nat → Nat) (RV : Nat → Value) (B R n : Nat) (c1 c2 : Value) (C : List (Nat × Int) → Obj) (t : List (Int × Int)) (ht : Ahead t) (hn : n ≤ t.length) (hn7 : n ≤ 7)
    (hlk : LkN w B n P RV t) (hRt : ∃ cs ty fz, w.heap[R]? = some (.cells cs ty fz) ∧ ty ≠ 71 ∧ ty ≠ 81) (hC : w.heap[R]? = some (C []))
    (a : Nat) (f : Option Nat) (M : List (Nat × Int)) (ha : a < n) (hf : ∀ g, f = some g → g < n) (hV : VisL (nb t n) a f 0 (nb t n a) M) (hvis : VisitS w P R n c1 c2 C ((a, 0) :: M)) (hF : ∀ y ∈ (a, (0 : Int)) :: M, 0 ≤ y.2 ∧ y.2 ≤ 1000000) :
    Calls Try.prog 50 #[.pointer (some ⟨P a, 0, none⟩), .pointer (fromA P f), .func (.func 52) #[] #[c1, c2]] w fun e w' => e = .returned (.tuple #[]) ∧ w'.heap[R]? = some (C ((a, 0) :: M)) ∧ w.grownBy w' (some R) := by
  have hRlt : R < w.heap.size := (Array.getElem?_eq_some_iff.1 hC).1
  have H := Lib.hid (fun (w0 : World) (b0 : Below w.heap.size w w0) (g0 : w.grownBy w0 (some R)) (bv bg : Nat) (h1 : w.heap.size ≤ bv) (h2 : w.heap.size ≤ bg)
      (hv : w0.cell? ⟨bv, 0, none⟩ = some (.func (.func 52) #[] #[c1, c2])) (hg : w0.cell? ⟨bg, 0, none⟩ = some (.func (.func 63) #[] #[.pointer (some ⟨bv, 0, none⟩), .pointer (some ⟨bg, 0, none⟩)])) =>
    goOnS_any w0 P RV B R n bv bg c1 c2 C ((a, 0) :: M) t ht hn hn7 (hlk.below b0) (by
      obtain ⟨cs, ty, fz, hc, r⟩ := hRt
      exact ⟨cs, ty, fz, (b0.block R hRlt).trans hc, r⟩) (by omega) (by omega) hv hg (hvis.later g0) hF M.length a f 0 M (Nat.le_refl _) ha hf hV w0 [] (grown_refl _ _) ((b0.block R hRlt).trans hC) (List.prefix_rfl))
  have b1 := (Below.refl w.heap.size w).alloc (Nat.le_refl _) (.cells #[.func (.func 52) #[] #[c1, c2]] 72)
  have b2 := b1.alloc b1.size (.cells #[.func (.func 63) #[] #[.pointer (some ⟨w.heap.size, 0, none⟩), .pointer (some ⟨w.heap.size + 1, 0, none⟩)]] 79)
  have g2 := gb_trans (World.grownBy_alloc w (.cells #[.func (.func 52) #[] #[c1, c2]] 72) (some R)) (World.grownBy_alloc _ (.cells #[.func (.func 63) #[] #[.pointer (some ⟨w.heap.size, 0, none⟩), .pointer (some ⟨w.heap.size + 1, 0, none⟩)]] 79) none) (.inr (fun g h => by cases h))
  have H2 := Lib.hid (H.out _ b2 g2 w.heap.size (w.heap.size + 1) (by omega) (by omega) (by
      rw [cell_of_row _ _ _ _ _ (0, 0) ((heap_alloc_old _ _ (by rw [size_alloc1]; omega)).trans (heap_alloc_new w _))]; rfl) (by
      have e := heap_alloc_new (w.alloc (.cells #[.func (.func 52) #[] #[c1, c2]] 72)) (.cells #[.func (.func 63) #[] #[.pointer (some ⟨w.heap.size, 0, none⟩), .pointer (some ⟨w.heap.size + 1, 0, none⟩)]] 79)
      rw [size_alloc1] at e
      rw [cell_of_row _ _ _ _ _ _ e]; rfl))
  have G2 := Lib.hid g2
  clear hlk hRt hC hV hvis hF H b1 b2 g2
  go_enter Try.func50, Try.ntmps50
  go_wp2_with fail
  refine H2.out.mono ?_
  rintro e w3 ⟨rfl, h3, hg3⟩
  have hg4 := gb_trans G2.out hg3 (.inl rfl)
  have H3 := Lib.hid h3
  have H4 := Lib.hid hg4
  clear h3 hg3 hg4
  go_wp2
  go_end0
  exact ⟨rfl, H3.out, H4.out⟩
end Go.Proofs.Ytoohfipicmdohac
namespace Go.Proofs.Ytoohfipicmdohac
open Go.ChangeShapes Go.WideShapes Go.ChangeAt Go.RowKit
set_option linter.unusedVariables false
set_option maxRecDepth 4000

def wsum (fs : List Int) (L : List (Nat × Int)) : Int := sumL (fun i x => fs.getD i 0 * x) L
theorem wsum_bd {fs : List Int} : ∀ {L : List (Nat × Int)}, (∀ y ∈ L, 0 ≤ fs.getD y.1 0 ∧ fs.getD y.1 0 ≤ 20 ∧ 0 ≤ y.2 ∧ y.2 ≤ 1000) → 0 ≤ wsum fs L ∧ wsum fs L ≤ 20000 * L.length
  | [], _ => by simp [wsum, sumL]
  | y :: r, h => by
    obtain ⟨h1, h2⟩ := wsum_bd (L := r) fun z hz => h z (List.mem_cons_of_mem _ hz)
    obtain ⟨a1, a2, a3, a4⟩ := h y (List.mem_cons_self ..)
    have m1 : 0 ≤ fs.getD y.1 0 * y.2 := Int.mul_nonneg a1 a3
    have m2 : fs.getD y.1 0 * y.2 ≤ 20 * 1000 := Int.mul_le_mul a2 a4 a3 (by omega)
    unfold wsum at h1 h2 ⊢
    simp only [sumL, List.length_cons]
    omega
theorem wsum_step (fs : List Int) (L : List (Nat × Int)) (i : Nat) (x : Int) : wsum fs (L ++ [(i, x)]) = wsum fs L + fs.getD i 0 * x := by
  unfold wsum; rw [sumL_append]; simp [sumL]
def sumObj (fs : List Int) (L : List (Nat × Int)) : Obj := .cells #[.int .i64 (wsum fs L)] 3 (0, 0)

set_option maxHeartbeats 800000 in
theorem visitS_any (w0 : World) (P : Nat → Nat) (RV : Nat → Value) (B R fb n cf : Nat) (Af : Option Addr) (fs : List Int) (F : List (Nat × Int)) (t : List (Int × Int)) (hlk : LkN w0 B n P RV t)
    (hR : ∃ cs, w0.heap[R]? = some (.cells cs 3 (0, 0))) (hfb : fb ≠ R) (hcf : w0.cell? ⟨fb, 0, none⟩ = some (.slice Af fs.length cf)) (B' : Nat) (hrd : RdI w0 B' Af fs) (hBR : B' ≤ R) (hB' : B' ≤ w0.heap.size) (hfl : fs.length = n) (hn7 : n ≤ 7)
    (hfs : ∀ i, i < n → 0 ≤ fs.getD i 0 ∧ fs.getD i 0 ≤ 20) (hF : ∀ y ∈ F, y.1 < n ∧ 0 ≤ y.2 ∧ y.2 ≤ 1000) (hFl : F.length ≤ 100) :
    VisitS w0 P R n (.pointer (some ⟨R, 0, none⟩)) (.pointer (some ⟨fb, 0, none⟩)) (sumObj fs) F := by
  intro w L i x hg hL hpre hi
  obtain ⟨cs, hRc⟩ := hR
  have lk := hlk.kept hg (fun g e _ => by injection e with e; subst e; exact ⟨cs, _, _, hRc, by decide, by decide⟩)
  obtain ⟨c0, -, -, -, -⟩ := lk.cells hi
  have hpm : ∀ y ∈ L ++ [(i, x)], y ∈ F := fun y hy => hpre.subset hy
  have hx := hF (i, x) (hpm _ (by simp))
  have hfi := hfs i hi
  have hb := wsum_bd (fs := fs) (L := L) fun y hy => by
    have := hF y (hpm y (by simp [hy]))
    have := hfs y.1 this.1
    omega
  have hLl : L.length ≤ 100 := by have := hpre.length_le; simp at this; omega
  have cfb : w.cell? ⟨fb, 0, none⟩ = some (.slice Af fs.length cf) := (World.cell?_of_block (hg.block _ (World.block_lt_of_cell? w0 _ hcf) (fun e => hfb (by injection e)))).trans hcf
  obtain ⟨b, off, y, rfl, hbb, Hy, hcy⟩ := (hrd.keep (w' := w) fun p hp => World.cell?_of_block (hg.block _ (by omega) (fun e => by injection e with e; omega))).x (k := i) (by omega)
  have cR : w.cell? ⟨R, 0, none⟩ = some (.int .i64 (wsum fs L)) := by rw [cell_of_row _ _ _ _ _ _ hL]; rfl
  have fR : w.frozen? ⟨R, 0, none⟩ = false := frozen_of_row _ _ _ _ _ hL
  have hst : (w.setCell ⟨R, 0, none⟩ (.int .i64 (wsum fs L + y * x))).heap[R]? = some (sumObj fs (L ++ [(i, x)])) := by
    unfold sumObj at hL ⊢
    rw [wsum_step, Hy.out]
    simp [World.setCell, Array.getElem?_modify, hL]
  have hgr : w.grownBy (w.setCell ⟨R, 0, none⟩ (.int .i64 (wsum fs L + y * x))) (some R) := ⟨rfl, rfl, rfl, by simp [World.setCell], fun k hk hne => Below.heap_setCell w _ _ k (by rintro rfl; exact hne rfl)⟩
  rw [Hy.out] at hfi
  simp only at hx
  have hyx : 0 ≤ y * x := Int.mul_nonneg hfi.1 hx.2.1
  have hyx2 : y * x ≤ 20 * 1000 := Int.mul_le_mul hfi.2 hx.2.2 hx.2.1 (by omega)
  have w1 : IntKind.i64.wrap (y * x) = y * x := IntWalk.i64_in _ (by omega)
  have w2 : IntKind.i64.wrap (wsum fs L + y * x) = wsum fs L + y * x := IntWalk.i64_in _ (by omega)
  have HS := Lib.hid hst
  have HG := Lib.hid hgr
  have hin : (i : Int) < ((fs.length : Nat) : Int) := by omega
  obtain ⟨S, HSS⟩ : ∃ S, Hid (wsum fs L = S) := ⟨_, rfl⟩
  rw [HSS.out] at cR w2 HS HG
  obtain ⟨nf, Hnf⟩ : ∃ nf, Hid (fs.length = nf) := ⟨_, rfl⟩
  rw [Hnf.out] at cfb hin
  have hin' : i < nf := by omega
  clear hst hgr hg hL hpre lk hpm hb hyx hyx2 hx hfi hrd hcf hRc
  go_enter Try.func52, Try.ntmps52
  go_wp2_with fail
  go_region
  go_wp2
  go_end0
  exact ⟨rfl, HS.out, ⟨HG.out.os, HG.out.tape, HG.out.output, HG.out.size, HG.out.block⟩⟩
end Go.Proofs.Ytoohfipicmdohac
namespace Go.Proofs.Ytoohfipicmdohac
open Go.ChangeShapes Go.WideShapes Go.ChangeAt Go.RowKit
set_option linter.unusedVariables false
set_option maxRecDepth 4000

/-- TreeSum's answer. -/
def tsv (t : List (Int × Int)) (fs : List Int) (a : Int) : Int := if vt t = true ∧ fk t.length fs = true ∧ 0 ≤ a ∧ a < t.length then tsm t fs t.length a.toNat t.length else -1
theorem sumN_tsm (t : List (Int × Int)) (fs : List Int) (n a : Nat) : ∀ m, sumN (fun j => if True then fs.getD j 0 * (0 + dn t n a j) else 0) m = tsm t fs n a m
  | 0 => rfl
  | m + 1 => by
    have := sumN_tsm t fs n a m
    simp only [if_true, Int.zero_add] at this
    simp only [sumN, tsm, if_true, Int.zero_add, this]
theorem fk_iff {n : Nat} {fs : List Int} (h : fk n fs = true) : fs.length = n ∧ ∀ i, i < n → 0 ≤ fs.getD i 0 ∧ fs.getD i 0 ≤ 20 := by
  unfold fk at h
  simp only [Bool.and_eq_true, decide_eq_true_eq] at h
  exact ⟨h.1, fun i hi => okF_iff.1 h.2 i (by omega)⟩
theorem iValidTree_is (A : Option Addr) (c n : Nat) (ts : List (Int × Int)) (w : World) (B : Nat) (hr : RdR w B A ts) (hn : ts.length = n) (hc : n ≤ c) (hb : n ≤ 1152921504606846976) (hB : B ≤ w.heap.size) {b : Bool} (h : vt ts = b) :
    Calls Try.prog 27 #[.slice A n c] w fun e w' => e = .returned (.bool b) ∧ Below w.heap.size w w' := by
  subst h; exact iValidTree_any A c n ts w B hr hn hc hb hB
theorem iValidFolk_is (A A' : Option Addr) (c c' n m : Nat) (fs : List Int) (w : World) (B : Nat) (hr : RdI w B A fs) (hn : fs.length = n) (hb : n ≤ 1152921504606846976) {b : Bool} (h : fk m fs = b) :
    Calls Try.prog 49 #[.slice A' m c', .slice A n c] w fun e w' => e = .returned (.bool b) ∧ w = w' := by
  subst h; exact iValidFolk_any A A' c c' n m fs w B hr hn hb
/-- What is not valid has no sum. -/
def NotSum (t : List (Int × Int)) (fs : List Int) (a : Int) : Prop := vt t = false ∨ (vt t = true ∧ fk t.length fs = false) ∨ (vt t = true ∧ fk t.length fs = true ∧ (a < 0 ∨ (t.length : Int) ≤ a))
theorem tsv_no {t : List (Int × Int)} {fs : List Int} {a : Int} (h : NotSum t fs a) : tsv t fs a = -1 := by
  unfold tsv
  rw [if_neg]
  rintro ⟨h1, h2, h3, h4⟩
  rcases h with h | ⟨_, h⟩ | ⟨_, _, h⟩
  · rw [h1] at h; cases h
  · rw [h2] at h; cases h
  · omega

/-- The walk from node k, with people and ways added up. -/
theorem treeSum_walk {w4 : World} {P : Nat → Nat} {RV : Nat → Value} {B R fb n cf k : Nat} {Af : Option Addr} {fs : List Int} {t : List (Int × Int)} (ht : Ahead t) (hn : t.length = n) (hn7 : n ≤ 7) (hk : k < n) (hlk : LkN w4 B n P RV t)
    (hR : w4.heap[R]? = some (.cells #[.int .i64 0] 3 (0, 0))) (hfb : fb ≠ R) (hcf : w4.cell? ⟨fb, 0, none⟩ = some (.slice Af fs.length cf)) (B' : Nat) (hrd : RdI w4 B' Af fs) (hBR : B' ≤ R) (hB' : B' ≤ w4.heap.size)
    (hfk : fs.length = n ∧ ∀ i, i < n → 0 ≤ fs.getD i 0 ∧ fs.getD i 0 ≤ 20) :
    Calls Try.prog 50 #[.pointer (some ⟨P k, 0, none⟩), .pointer none, .func (.func 52) #[] #[.pointer (some ⟨R, 0, none⟩), .pointer (some ⟨fb, 0, none⟩)]] w4 fun e w' => e = .returned (.tuple #[]) ∧ w'.cell? ⟨R, 0, none⟩ = some (.int .i64 (tsm t fs n k n)) ∧ w4.grownBy w' (some R) := by
  obtain ⟨M, hV, hs⟩ := walks_all ht n (by omega) k hk 0
  have hway := visited_way hs
  have hF : ∀ y ∈ (k, (0 : Int)) :: M, y.1 < n ∧ 0 ≤ y.2 ∧ y.2 ≤ 1000 := fun y hy => by
    obtain ⟨h1, _, h2⟩ := hway y hy
    have := dn_bd ht n k y.1 (by omega) hk h1
    omega
  have hlen := visited_len hs
  have hvis := visitS_any w4 P RV B R fb n cf Af fs ((k, 0) :: M) t hlk ⟨_, hR⟩ hfb hcf B' hrd hBR hB' hfk.1 hn7 hfk.2 hF (by simp; omega)
  refine (walkS_any w4 P RV B R n _ _ (sumObj fs) t ht (by omega) hn7 hlk ⟨_, _, _, hR, by decide, by decide⟩ hR k none M hk (fun g e => by cases e) hV hvis (fun y hy => by have := hF y hy; omega)).mono ?_
  rintro e w' ⟨he, hh, hg⟩
  refine ⟨he, ?_, hg⟩
  have e1 : wsum fs ((k, 0) :: M) = tsm t fs n k n := by
    have := hs fun i x => fs.getD i 0 * x
    rw [sumN_tsm] at this
    rw [← this]; rfl
  rw [cell_of_row _ _ _ _ _ _ hh, e1]; rfl

set_option maxHeartbeats 1600000 in
theorem iTreeSum_any (A Af : Option Addr) (c n cf nf : Nat) (ts : List (Int × Int)) (fs : List Int) (a : Int) (w : World) (hr : RdR w w.heap.size A ts) (hn : ts.length = n) (hc : n ≤ c) (hb : n ≤ 1152921504606846976)
    (hrf : RdI w w.heap.size Af fs) (hnf : fs.length = nf) (hbf : nf ≤ 1152921504606846976) (hwa : (Lit.int .i64 a).wf = true) :
    Calls Try.prog 21 #[.slice A n c, .slice Af nf cf, .int .i64 a] w fun e w' => e = .returned (.int .i64 (tsv ts fs a)) ∧ Below w.heap.size w w' := by
  have hb1 := (Below.refl w.heap.size w).alloc (Nat.le_refl _) (.cells #[.slice Af nf cf] 23)
  have hsz1 := size_alloc1 w (.cells #[.slice Af nf cf] 23)
  have hr1 := (hr.below hb1).more hb1.size
  have hrf1 := (hrf.below hb1).more hb1.size
  have c1 : (w.alloc (.cells #[.slice Af nf cf] 23)).cell? ⟨w.heap.size, 0, none⟩ = some (.slice Af nf cf) := by
    rw [cell_of_row _ _ _ _ _ _ (heap_alloc_new w _)]; rfl
  by_cases hv : vt ts = true
  · by_cases hf : fk n fs = true
    · by_cases ha : a < 0
      · have Hs := Lib.hid (tsv_no (a := a) (.inr (.inr ⟨hv, by rw [hn]; exact hf, by rw [hn]; omega⟩)))
        have HB := Lib.hid hb1
        have HC := Lib.hid c1
        have H1 := Lib.hid (iValidTree_is A c n ts _ _ hr1 hn hc hb (Nat.le_refl _) hv)
        have H2 := Lib.hid (fun (w2 : World) (h : Below (w.alloc (.cells #[.slice Af nf cf] 23)).heap.size (w.alloc (.cells #[.slice Af nf cf] 23)) w2) => iValidFolk_is Af A cf c nf n fs w2 _ (hrf1.below h) hnf hbf hf)
        clear hv hf hr hrf hr1 hrf1 hn hnf hb1 c1 hsz1
        go_enter Try.func21, Try.ntmps21
        go_wp2_with fail
        refine H1.out.mono ?_
        rintro e w2 ⟨rfl, hnx2⟩
        have c2 : w2.cell? ⟨w.heap.size, 0, none⟩ = some (.slice Af nf cf) := (hnx2.cell (p := ⟨w.heap.size, 0, none⟩) (by rw [size_alloc1]; exact Nat.lt_succ_self _)).trans HC.out
        have H3 := Lib.hid (H2.out w2 hnx2)
        have HB2 := Lib.hid (HB.out.trans (hnx2.mono HB.out.size))
        clear hnx2
        go_wp2_with fail
        refine H3.out.mono ?_
        rintro e w' ⟨rfl, rfl⟩
        go_wp2
        go_ret
        exact ⟨ret_int Hs.out.symm, HB2.out⟩
      · by_cases ha2 : (n : Int) ≤ a
        · have Hs := Lib.hid (tsv_no (a := a) (.inr (.inr ⟨hv, by rw [hn]; exact hf, by rw [hn]; omega⟩)))
          have HB := Lib.hid hb1
          have HC := Lib.hid c1
          have H1 := Lib.hid (iValidTree_is A c n ts _ _ hr1 hn hc hb (Nat.le_refl _) hv)
          have H2 := Lib.hid (fun (w2 : World) (h : Below (w.alloc (.cells #[.slice Af nf cf] 23)).heap.size (w.alloc (.cells #[.slice Af nf cf] 23)) w2) => iValidFolk_is Af A cf c nf n fs w2 _ (hrf1.below h) hnf hbf hf)
          clear hv hf hr hrf hr1 hrf1 hn hnf hb1 c1 hsz1
          go_enter Try.func21, Try.ntmps21
          go_wp2_with fail
          refine H1.out.mono ?_
          rintro e w2 ⟨rfl, hnx2⟩
          have c2 : w2.cell? ⟨w.heap.size, 0, none⟩ = some (.slice Af nf cf) := (hnx2.cell (p := ⟨w.heap.size, 0, none⟩) (by rw [size_alloc1]; exact Nat.lt_succ_self _)).trans HC.out
          have H3 := Lib.hid (H2.out w2 hnx2)
          have HB2 := Lib.hid (HB.out.trans (hnx2.mono HB.out.size))
          clear hnx2
          go_wp2_with fail
          refine H3.out.mono ?_
          rintro e w' ⟨rfl, rfl⟩
          go_wp2
          go_ret
          exact ⟨ret_int Hs.out.symm, HB2.out⟩
        · obtain ⟨k, rfl⟩ := Int.eq_ofNat_of_zero_le (show 0 ≤ a by omega)
          have hk : k < n := by omega
          obtain ⟨h1, h7, -⟩ := (vt_iff ts).1 hv
          rw [hn] at h1 h7
          have Hs := Lib.hid (show tsv ts fs (k : Int) = tsm ts fs n k n by unfold tsv; rw [if_pos ⟨hv, by rw [hn]; exact hf, by omega, by rw [hn]; omega⟩, hn]; rfl)
          have HB := Lib.hid hb1
          have HC := Lib.hid c1
          have H1 := Lib.hid (iValidTree_is A c n ts _ _ hr1 hn hc hb (Nat.le_refl _) hv)
          have H2 := Lib.hid (fun (w2 : World) (h : Below (w.alloc (.cells #[.slice Af nf cf] 23)).heap.size (w.alloc (.cells #[.slice Af nf cf] 23)) w2) => iValidFolk_is Af A cf c nf n fs w2 _ (hrf1.below h) hnf hbf hf)
          have Hn := Lib.hid hn
          have Hv := Lib.hid hv
          have Hf := Lib.hid hf
          have Hr := Lib.hid hr
          have Hrf := Lib.hid hrf
          have hnfn : nf = n := by have := (fk_iff hf).1; omega
          have Hnf := Lib.hid hnf
          subst hnfn
          clear hv hf hr hrf hr1 hrf1 hn hnf hb1 c1 hsz1
          go_enter Try.func21, Try.ntmps21
          go_wp2_with fail
          refine H1.out.mono ?_
          rintro e w2 ⟨rfl, hnx2⟩
          have c2 : w2.cell? ⟨w.heap.size, 0, none⟩ = some (.slice Af nf cf) := (hnx2.cell (p := ⟨w.heap.size, 0, none⟩) (by rw [size_alloc1]; exact Nat.lt_succ_self _)).trans HC.out
          have H3 := Lib.hid (H2.out w2 hnx2)
          have HB2 := Lib.hid (HB.out.trans (hnx2.mono HB.out.size))
          have HS2 : Hid (w.heap.size < w2.heap.size) := by have := hnx2.size; rw [size_alloc1] at this; exact Nat.lt_of_succ_le this
          have C2 := Lib.hid c2
          clear hnx2
          go_wp2_with fail
          refine H3.out.mono ?_
          rintro e w' ⟨rfl, rfl⟩
          have hb3 := HB2.out.alloc HB2.out.size (.cells #[.int .i64 0] 3)
          have hl3 := linked_any A c nf ts (w2.alloc (.cells #[.int .i64 0] 3)) ((Hr.out.below hb3).more hb3.size) Hn.out hc Hv.out
          have Hl3 := Lib.hid hl3
          have HB3 := Lib.hid hb3
          clear hb3 hl3
          go_wp2_with fail
          refine Hl3.out.mono ?_
          rintro e w4 ⟨v, P, RV, rfl, hlk, hown, hnx4⟩
          rw [Hn.out] at hlk hown
          obtain ⟨A', c', rfl, -, -, hA⟩ := own_sliceN hown
          obtain ⟨gn, rfl, -, -⟩ := hA (by omega)
          have cn : w4.cell? ⟨gn, k, none⟩ = some (.pointer (some ⟨P k, 0, none⟩)) := by
            rw [hown.cellAt k (by omega)]
            simp [ptrs, ptr, hk]
          have hcall := treeSum_walk (w4 := w4) (R := w2.heap.size) (fb := w.heap.size) (cf := cf) (Af := Af) (fs := fs) (vt_ahead Hv.out) Hn.out h7 hk hlk ((hnx4.block w2.heap.size (by rw [size_alloc1]; exact Nat.lt_succ_self _)).trans (heap_alloc_new w2 _)) (Nat.ne_of_lt HS2.out)
            (by rw [Hnf.out]; exact (hnx4.cell (p := ⟨w.heap.size, 0, none⟩) (by rw [size_alloc1]; exact Nat.lt_succ_of_lt HS2.out)).trans ((World.cell?_alloc_lt w2 _ ⟨w.heap.size, 0, none⟩ HS2.out).trans C2.out)) w.heap.size (Hrf.out.below (HB3.out.trans (hnx4.mono HB3.out.size))) (Nat.le_of_lt HS2.out) (Nat.le_trans HB3.out.size hnx4.size) (fk_iff Hf.out)
          have Hcall := Lib.hid hcall
          have HB4 := Lib.hid (HB3.out.trans (hnx4.mono HB3.out.size))
          clear hcall hlk hown hnx4 hA
          go_wp2_with fail
          refine Hcall.out.mono ?_
          rintro e w5 ⟨rfl, h5, hg5⟩
          have hb5 := HB4.out.grown hg5 HB4.out.size (fun g e => by injection e with e; have := HS2.out; omega)
          have HB5 := Lib.hid hb5
          clear hg5 hb5 cn
          go_wp2
          go_ret
          exact ⟨ret_int Hs.out.symm, HB5.out⟩
    · have hf' : fk n fs = false := by simpa using hf
      have Hs := Lib.hid (tsv_no (a := a) (.inr (.inl ⟨hv, by rw [hn]; exact hf'⟩)))
      have HB := Lib.hid hb1
      have HC := Lib.hid c1
      have H1 := Lib.hid (iValidTree_is A c n ts _ _ hr1 hn hc hb (Nat.le_refl _) hv)
      have H2 := Lib.hid (fun (w2 : World) (h : Below (w.alloc (.cells #[.slice Af nf cf] 23)).heap.size (w.alloc (.cells #[.slice Af nf cf] 23)) w2) => iValidFolk_is Af A cf c nf n fs w2 _ (hrf1.below h) hnf hbf hf')
      clear hv hf hf' hr hrf hr1 hrf1 hn hnf hb1 c1 hsz1
      go_enter Try.func21, Try.ntmps21
      go_wp2_with fail
      refine H1.out.mono ?_
      rintro e w2 ⟨rfl, hnx2⟩
      have c2 : w2.cell? ⟨w.heap.size, 0, none⟩ = some (.slice Af nf cf) := (hnx2.cell (p := ⟨w.heap.size, 0, none⟩) (by rw [size_alloc1]; exact Nat.lt_succ_self _)).trans HC.out
      have H3 := Lib.hid (H2.out w2 hnx2)
      have HB2 := Lib.hid (HB.out.trans (hnx2.mono HB.out.size))
      clear hnx2
      go_wp2_with fail
      refine H3.out.mono ?_
      rintro e w' ⟨rfl, rfl⟩
      go_wp2
      go_ret
      exact ⟨ret_int Hs.out.symm, HB2.out⟩
  · have hv' : vt ts = false := by simpa using hv
    have Hs := Lib.hid (tsv_no (fs := fs) (a := a) (.inl hv'))
    have HB := Lib.hid hb1
    have H1 := Lib.hid (iValidTree_is A c n ts _ _ hr1 hn hc hb (Nat.le_refl _) hv')
    clear hv hv' hr hrf hr1 hrf1 hn hnf hb1 c1 hsz1
    go_enter Try.func21, Try.ntmps21
    go_wp2_with fail
    refine H1.out.mono ?_
    rintro e w2 ⟨rfl, hnx2⟩
    have HB2 := Lib.hid (HB.out.trans (hnx2.mono HB.out.size))
    clear hnx2
    go_wp2
    go_ret
    exact ⟨ret_int Hs.out.symm, HB2.out⟩
end Go.Proofs.Ytoohfipicmdohac
namespace Go.Proofs.Ytoohfipicmdohac
open Go.ChangeShapes Go.WideShapes Go.ChangeAt Go.RowKit
set_option linter.unusedVariables false
set_option maxRecDepth 4000

/-- What a visit does: block R's content goes on from C L to C of L and the visited. -/
def VisitT (w0 : World) (P : Nat → Nat) (R n : Nat) (c1 : Value) (C : List (Nat × Int) → Obj) (F : List (Nat × Int)) : Prop :=
  ∀ (w : World) (L : List (Nat × Int)) (i : Nat) (x : Int), w0.grownBy w (some R) → w.heap[R]? = some (C L) → (L ++ [(i, x)]) <+: F → i < n →
    Calls Try.prog 56 #[.pointer (some ⟨P i, 0, none⟩), .int .i64 x, c1] w fun e w' => e = .returned (.tuple #[]) ∧ w'.heap[R]? = some (C (L ++ [(i, x)])) ∧ w.grownBy w' (some R)
/-- goOn, from node a, come to from f, with way x: all that is visited is M behind a. -/
def GoOnT (w0 : World) (P : Nat → Nat) (R bv bg : Nat) (C : List (Nat × Int) → Obj) (F : List (Nat × Int)) (a : Nat) (f : Option Nat) (x : Int) (M : List (Nat × Int)) : Prop :=
  ∀ (w : World) (L : List (Nat × Int)), w0.grownBy w (some R) → w.heap[R]? = some (C L) → (L ++ ((a, x) :: M)) <+: F →
    Calls Try.prog 63 #[.pointer (some ⟨P a, 0, none⟩), .pointer (fromA P f), .int .i64 x, .pointer (some ⟨bv, 0, none⟩), .pointer (some ⟨bg, 0, none⟩)] w fun e w' => e = .returned (.tuple #[]) ∧ w'.heap[R]? = some (C (L ++ ((a, x) :: M))) ∧ w.grownBy w' (some R)
/-- What the loop over a node's roads keeps. -/
def RoadsRelT (w0 w1 : World) (R n : Nat) (C : List (Nat × Int) → Obj) (F L : List (Nat × Int)) (t : List (Int × Int)) (a : Nat) (f : Option Nat) (x : Int) (M : List (Nat × Int)) (i : Value) (wr : World) : Prop :=
  ∃ k : Nat, ∃ M1 M2, i = .int .i64 k ∧ k ≤ (nb t n a).length ∧ M = M1 ++ M2 ∧ VisL (nb t n) a f x ((nb t n a).drop k) M2 ∧ w1.grownBy wr (some R) ∧ wr.heap[R]? = some (C (L ++ ((a, x) :: M1)))

set_option maxHeartbeats 1600000 in
theorem goOnT_step (w0 : World) (P : Nat → Nat) (RV : Nat → Value) (B R n bv bg : Nat) (c1 : Value) (C : List (Nat × Int) → Obj) (F : List (Nat × Int)) (t : List (Int × Int)) (ht : Ahead t) (hn : n ≤ t.length) (hn7 : n ≤ 7)
    (hlk : LkN w0 B n P RV t) (hRt : ∃ cs ty fz, w0.heap[R]? = some (.cells cs ty fz) ∧ ty ≠ 71 ∧ ty ≠ 81) (hbv : bv ≠ R) (hbg : bg ≠ R)
    (hv : w0.cell? ⟨bv, 0, none⟩ = some (.func (.func 56) #[] #[c1])) (hg : w0.cell? ⟨bg, 0, none⟩ = some (.func (.func 63) #[] #[.pointer (some ⟨bv, 0, none⟩), .pointer (some ⟨bg, 0, none⟩)])) (hvis : VisitT w0 P R n c1 C F) (hF : ∀ y ∈ F, 0 ≤ y.2 ∧ y.2 ≤ 1000000)
    (m : Nat) (ih : ∀ a f x M, M.length < m → a < n → (∀ g, f = some g → g < n) → VisL (nb t n) a f x (nb t n a) M → GoOnT w0 P R bv bg C F a f x M)
    (a : Nat) (f : Option Nat) (x : Int) (M : List (Nat × Int)) (hM : M.length = m) (ha : a < n) (hf : ∀ g, f = some g → g < n) (hV : VisL (nb t n) a f x (nb t n a) M) : GoOnT w0 P R bv bg C F a f x M := by
  intro w L hgw hL hpre
  obtain ⟨cs, ty, fz, hRc, hR1, hR2⟩ := hRt
  have Hvis := Lib.hid hvis
  have Hih := Lib.hid ih
  have HV := Lib.hid hV
  have hcf : ∀ {w' : World} {b : Nat} {v : Value}, w0.grownBy w' (some R) → b ≠ R → w0.cell? ⟨b, 0, none⟩ = some v → w'.cell? ⟨b, 0, none⟩ = some v := fun hg hne hc =>
    (World.cell?_of_block (hg.block _ (World.block_lt_of_cell? w0 _ hc) (fun e => hne (by injection e)))).trans hc
  have Hcf := Lib.hid (fun (w' : World) (hg' : w0.grownBy w' (some R)) => (⟨hcf hg' hbv hv, hcf hg' hbg hg⟩ : w'.cell? ⟨bv, 0, none⟩ = some (.func (.func 56) #[] #[c1]) ∧ w'.cell? ⟨bg, 0, none⟩ = some (.func (.func 63) #[] #[.pointer (some ⟨bv, 0, none⟩), .pointer (some ⟨bg, 0, none⟩)])))
  have Hlk := Lib.hid (fun (w' : World) (hg' : w0.grownBy w' (some R)) => hlk.kept hg' (fun g e _ => by injection e with e; subst e; exact ⟨cs, ty, fz, hRc, hR1, hR2⟩))
  clear hvis ih hV hlk hcf hv hg hRc
  obtain ⟨cv, cg⟩ := Hcf.out w hgw
  have hpre1 : (L ++ [(a, x)]) <+: F := by
    obtain ⟨r, hr⟩ := hpre
    exact ⟨M ++ r, by rw [← hr]; simp⟩
  have hcall := Hvis.out w L a x hgw hL hpre1 ha
  have Hcall := Lib.hid hcall
  have Hpre := Lib.hid hpre
  have HF := Lib.hid hF
  have Hgw := Lib.hid hgw
  clear hcall hpre hpre1 hF hL hgw
  go_enter Try.func63, Try.ntmps63
  go_wp2_with fail
  refine Hcall.out.mono ?_
  rintro e w1 ⟨rfl, h1, hg1⟩
  have hg01 := grown_trans Hgw.out hg1
  have lk1 := Hlk.out w1 hg01
  obtain ⟨-, -, -, c3, -⟩ := lk1.cells ha
  obtain ⟨A, cA, hrv, hA1, hA2, hA3⟩ := own_sliceN (lk1.own a ha)
  rw [hrv] at c3
  have H1 := Lib.hid h1
  have Hg1 := Lib.hid hg1
  have Hg01 := Lib.hid hg01
  have Lk1 := Lib.hid lk1
  have Hrv := Lib.hid hrv
  have HA3 := Lib.hid hA3
  obtain ⟨N, HN⟩ : ∃ N, Hid ((nb t n a).length = N) := ⟨_, rfl⟩
  have hN7 : N ≤ 7 := by have := nb_len t n a; rw [HN.out] at this; omega
  rw [HN.out] at c3 hA1
  clear h1 hg1 hg01 lk1 hrv hA3 cv cg
  go_wp2
  go_loopw [19] (fun i wr => RoadsRelT w0 w1 R n C F L t a f x M i wr) (fun i _ => N - (intOf i).toNat)
  case atStart => exact ⟨0, [], M, rfl, Nat.zero_le _, rfl, HV.out, grown_refl _ _, H1.out⟩
  case round =>
    obtain ⟨k, M1, M2, rfl, hk, hMM, hV2, hgr, hCr⟩ := hrel
    rw [HN.out] at hk
    by_cases hlt : k < N
    · have hg0r := grown_trans Hg01.out hgr
      have lkr := Hlk.out wr hg0r
      obtain ⟨cvr, cgr⟩ := Hcf.out wr hg0r
      obtain ⟨g, rfl, hgB, hgl⟩ := HA3.out (by rw [HN.out]; omega)
      have ow := lkr.own a ha
      rw [Hrv.out, HN.out] at ow
      obtain ⟨⟨b, l⟩, hbl⟩ : ∃ y, (nb t n a).getD k (0, 0) = y := ⟨_, rfl⟩
      have hkl : k < (nb t n a).length := by rw [HN.out]; exact hlt
      have hbm : (b, l) ∈ nb t n a := by rw [← hbl]; simp only [List.getD, List.getElem?_eq_getElem hkl]; exact List.getElem_mem hkl
      have hbn := nb_lt ht n hn a ha b l hbm
      have hdrop : (nb t n a).drop k = (b, l) :: (nb t n a).drop (k + 1) := by
        rw [List.drop_eq_getElem_cons hkl]
        congr 1
        rw [← hbl]; simp [List.getD, List.getElem?_eq_getElem hkl]
      have ce : wr.cell? ⟨g, k * 2, none⟩ = some (.pointer (some ⟨P b, 0, none⟩)) := by
        rw [ow.cellAt (k * 2) (by omega), brv_ptr P _ k hkl, hbl]; rfl
      have cl : wr.cell? ⟨g, k * 2 + 1, none⟩ = some (.int .i64 l) := by
        rw [ow.cellAt (k * 2 + 1) (by omega), brv_int P _ k hkl, hbl]
      rw [hdrop] at hV2
      have HV2 := Lib.hid hV2
      have Hg0r := Lib.hid hg0r
      have Hgr := Lib.hid hgr
      have Lkr := Lib.hid lkr
      have HCr := Lib.hid hCr
      have HMM := Lib.hid hMM
      clear hV2 hg0r hgr lkr hCr hMM ow hbl hdrop hbm
      by_cases hfb : f = some b
      · subst hfb
        have hV3 : Hid (VisL (nb t n) a (some b) x ((nb t n a).drop (k + 1)) M2) := by
          have h := HV2.out
          cases h with
          | skip _ h => exact h
          | go h _ _ => exact absurd rfl h
        simp only [fromA]
        have hb1 : ∀ o, (binOp .neq 66 (.pointer (some ⟨P b, 0, none⟩)) (.pointer (some ⟨P b, 0, none⟩))).run Try.prog (wr.alloc o) = .ok (.bool false) (wr.alloc o) := fun o => neq_same _ _
        go_wp2
        go_roundw
        case rel => exact ⟨k + 1, M1, M2, by go_num, by rw [HN.out]; omega, HMM.out, hV3.out, gb_trans Hgr.out (World.grownBy_alloc wr _ none) (.inr (fun g h => by cases h)), by
          rw [heap_alloc_old wr _ (Array.getElem?_eq_some_iff.1 HCr.out).1]; exact HCr.out⟩
        case measure => simp [intOf]; omega
      · obtain ⟨M3, M4, hM2, hW, hV3⟩ : ∃ M3 M4, M2 = (b, x + l) :: (M3 ++ M4) ∧ VisL (nb t n) b (some a) (x + l) (nb t n b) M3 ∧ VisL (nb t n) a f x ((nb t n a).drop (k + 1)) M4 := by
          have h := HV2.out
          cases h with
          | skip h _ => exact absurd h hfb
          | go _ h1 h2 => exact ⟨_, _, rfl, h1, h2⟩
        have hlen : M3.length < m := by
          rw [← hM, HMM.out, hM2]; simp; omega
        have hpre3 : ((L ++ ((a, x) :: M1)) ++ ((b, x + l) :: M3)) <+: F := by
          obtain ⟨r, hr⟩ := Hpre.out
          exact ⟨M4 ++ r, by rw [← hr, HMM.out, hM2]; simp⟩
        have hxl := HF.out (b, x + l) (by obtain ⟨r, hr⟩ := hpre3; rw [← hr]; simp)
        simp only at hxl
        have hgA : ∀ o, w0.grownBy (wr.alloc o) (some R) := fun o => gb_trans Hg0r.out (World.grownBy_alloc wr o none) (.inr (fun g h => by cases h))
        have hcall : ∀ o, Calls Try.prog 63 #[.pointer (some ⟨P b, 0, none⟩), .pointer (some ⟨P a, 0, none⟩), .int .i64 (x + l), .pointer (some ⟨bv, 0, none⟩), .pointer (some ⟨bg, 0, none⟩)] (wr.alloc o) fun e w' => e = .returned (.tuple #[]) ∧ w'.heap[R]? = some (C ((L ++ ((a, x) :: M1)) ++ ((b, x + l) :: M3))) ∧ (wr.alloc o).grownBy w' (some R) := fun o =>
          Hih.out b (some a) (x + l) M3 hlen hbn (fun g e => by injection e with e; omega) hW (wr.alloc o) (L ++ ((a, x) :: M1)) (hgA o) (by rw [heap_alloc_old wr _ (Array.getElem?_eq_some_iff.1 HCr.out).1]; exact HCr.out) hpre3
        have Hcall2 := Lib.hid hcall
        have hcgo : ∀ o, (wr.alloc o).cell? ⟨bg, 0, none⟩ = some (.func (.func 63) #[] #[.pointer (some ⟨bv, 0, none⟩), .pointer (some ⟨bg, 0, none⟩)]) := fun o => (Hcf.out _ (hgA o)).2
        have hne : ∀ o, (binOp .neq 66 (.pointer (some ⟨P b, 0, none⟩)) (.pointer (fromA P f))).run Try.prog (wr.alloc o) = .ok (.bool true) (wr.alloc o) := fun o =>
          neq_from (Lkr.out.below ((Below.refl _ _).alloc (Nat.le_refl _) o)) hbn hf hfb
        have HM2 := Lib.hid hM2
        have HV3 := Lib.hid hV3
        clear hcall hgA hpre3 hlen hW hV3 hM2 hfb cvr cgr
        go_wp2_with fail
        refine (Hcall2.out _).mono ?_
        rintro e w3 ⟨rfl, h3, hg3⟩
        have hg13 := gb_trans (gb_trans Hgr.out (World.grownBy_alloc wr _ none) (.inr (fun g h => by cases h))) hg3 (.inl rfl)
        have H3 := Lib.hid h3
        have Hg13 := Lib.hid hg13
        clear h3 hg3 hg13 ce cl hcgo hne
        go_wp2
        go_roundw
        case rel => exact ⟨k + 1, M1 ++ ((b, x + l) :: M3), M4, by go_num, by rw [HN.out]; omega, by rw [HMM.out, HM2.out]; simp, HV3.out, Hg13.out, by simpa using H3.out⟩
        case measure => simp [intOf]; omega
    · have hd : (nb t n a).drop k = [] := List.drop_of_length_le (by rw [HN.out]; omega)
      rw [hd] at hV2
      have hM2 : M2 = [] := by cases hV2; rfl
      subst hM2
      rw [List.append_nil] at hMM
      subst hMM
      have Hend := Lib.hid hCr
      have Hgr := Lib.hid hgr
      clear hd hV2 hCr hgr
      go_wp2
      go_end0
      exact ⟨rfl, Hend.out, grown_trans Hg1.out Hgr.out⟩
theorem goOnT_any (w0 : World) (P : Nat → Nat) (RV : Nat → Value) (B R n bv bg : Nat) (c1 : Value) (C : List (Nat × Int) → Obj) (F : List (Nat × Int)) (t : List (Int × Int)) (ht : Ahead t) (hn : n ≤ t.length) (hn7 : n ≤ 7)
    (hlk : LkN w0 B n P RV t) (hRt : ∃ cs ty fz, w0.heap[R]? = some (.cells cs ty fz) ∧ ty ≠ 71 ∧ ty ≠ 81) (hbv : bv ≠ R) (hbg : bg ≠ R)
    (hv : w0.cell? ⟨bv, 0, none⟩ = some (.func (.func 56) #[] #[c1])) (hg : w0.cell? ⟨bg, 0, none⟩ = some (.func (.func 63) #[] #[.pointer (some ⟨bv, 0, none⟩), .pointer (some ⟨bg, 0, none⟩)])) (hvis : VisitT w0 P R n c1 C F) (hF : ∀ y ∈ F, 0 ≤ y.2 ∧ y.2 ≤ 1000000) :
    ∀ m a f x M, M.length ≤ m → a < n → (∀ g, f = some g → g < n) → VisL (nb t n) a f x (nb t n a) M → GoOnT w0 P R bv bg C F a f x M
  | 0, a, f, x, M, hm, ha, hf, hV => goOnT_step w0 P RV B R n bv bg c1 C F t ht hn hn7 hlk hRt hbv hbg hv hg hvis hF 0 (fun _ _ _ _ h => by omega) a f x M (by omega) ha hf hV
  | m + 1, a, f, x, M, hm, ha, hf, hV =>
    goOnT_step w0 P RV B R n bv bg c1 C F t ht hn hn7 hlk hRt hbv hbg hv hg hvis hF M.length (fun a f x M' h => goOnT_any w0 P RV B R n bv bg c1 C F t ht hn hn7 hlk hRt hbv hbg hv hg hvis hF m a f x M' (by omega)) a f x M rfl ha hf hV

theorem VisitT.later {w w0 : World} {P : Nat → Nat} {R n : Nat} {c1 : Value} {C : List (Nat × Int) → Obj} {F : List (Nat × Int)} (h : VisitT w P R n c1 C F) (hg : w.grownBy w0 (some R)) : VisitT w0 P R n c1 C F :=
  fun w' L i x h1 h2 h3 h4 => h w' L i x (grown_trans hg h1) h2 h3 h4
set_option maxHeartbeats 800000 in
theorem walkT_any (w : World) (P : Nat → Nat) (RV : Nat → Value) (B R n : Nat) (c1 : Value) (C : List (Nat × Int) → Obj) (t : List (Int × Int)) (ht : Ahead t) (hn : n ≤ t.length) (hn7 : n ≤ 7)
    (hlk : LkN w B n P RV t) (hRt : ∃ cs ty fz, w.heap[R]? = some (.cells cs ty fz) ∧ ty ≠ 71 ∧ ty ≠ 81) (hC : w.heap[R]? = some (C []))
    (a : Nat) (f : Option Nat) (M : List (Nat × Int)) (ha : a < n) (hf : ∀ g, f = some g → g < n) (hV : VisL (nb t n) a f 0 (nb t n a) M) (hvis : VisitT w P R n c1 C ((a, 0) :: M)) (hF : ∀ y ∈ (a, (0 : Int)) :: M, 0 ≤ y.2 ∧ y.2 ≤ 1000000) :
    Calls Try.prog 50 #[.pointer (some ⟨P a, 0, none⟩), .pointer (fromA P f), .func (.func 56) #[] #[c1]] w fun e w' => e = .returned (.tuple #[]) ∧ w'.heap[R]? = some (C ((a, 0) :: M)) ∧ w.grownBy w' (some R) := by
  have hRlt : R < w.heap.size := (Array.getElem?_eq_some_iff.1 hC).1
  have H := Lib.hid (fun (w0 : World) (b0 : Below w.heap.size w w0) (g0 : w.grownBy w0 (some R)) (bv bg : Nat) (h1 : w.heap.size ≤ bv) (h2 : w.heap.size ≤ bg)
      (hv : w0.cell? ⟨bv, 0, none⟩ = some (.func (.func 56) #[] #[c1])) (hg : w0.cell? ⟨bg, 0, none⟩ = some (.func (.func 63) #[] #[.pointer (some ⟨bv, 0, none⟩), .pointer (some ⟨bg, 0, none⟩)])) =>
    goOnT_any w0 P RV B R n bv bg c1 C ((a, 0) :: M) t ht hn hn7 (hlk.below b0) (by
      obtain ⟨cs, ty, fz, hc, r⟩ := hRt
      exact ⟨cs, ty, fz, (b0.block R hRlt).trans hc, r⟩) (by omega) (by omega) hv hg (hvis.later g0) hF M.length a f 0 M (Nat.le_refl _) ha hf hV w0 [] (grown_refl _ _) ((b0.block R hRlt).trans hC) (List.prefix_rfl))
  have b1 := (Below.refl w.heap.size w).alloc (Nat.le_refl _) (.cells #[.func (.func 56) #[] #[c1]] 72)
  have b2 := b1.alloc b1.size (.cells #[.func (.func 63) #[] #[.pointer (some ⟨w.heap.size, 0, none⟩), .pointer (some ⟨w.heap.size + 1, 0, none⟩)]] 79)
  have g2 := gb_trans (World.grownBy_alloc w (.cells #[.func (.func 56) #[] #[c1]] 72) (some R)) (World.grownBy_alloc _ (.cells #[.func (.func 63) #[] #[.pointer (some ⟨w.heap.size, 0, none⟩), .pointer (some ⟨w.heap.size + 1, 0, none⟩)]] 79) none) (.inr (fun g h => by cases h))
  have H2 := Lib.hid (H.out _ b2 g2 w.heap.size (w.heap.size + 1) (by omega) (by omega) (by
      rw [cell_of_row _ _ _ _ _ (0, 0) ((heap_alloc_old _ _ (by rw [size_alloc1]; omega)).trans (heap_alloc_new w _))]; rfl) (by
      have e := heap_alloc_new (w.alloc (.cells #[.func (.func 56) #[] #[c1]] 72)) (.cells #[.func (.func 63) #[] #[.pointer (some ⟨w.heap.size, 0, none⟩), .pointer (some ⟨w.heap.size + 1, 0, none⟩)]] 79)
      rw [size_alloc1] at e
      rw [cell_of_row _ _ _ _ _ _ e]; rfl))
  have G2 := Lib.hid g2
  clear hlk hRt hC hV hvis hF H b1 b2 g2
  go_enter Try.func50, Try.ntmps50
  go_wp2_with fail
  refine H2.out.mono ?_
  rintro e w3 ⟨rfl, h3, hg3⟩
  have hg4 := gb_trans G2.out hg3 (.inl rfl)
  have H3 := Lib.hid h3
  have H4 := Lib.hid hg4
  clear h3 hg3 hg4
  go_wp2
  go_end0
  exact ⟨rfl, H3.out, H4.out⟩
end Go.Proofs.Ytoohfipicmdohac
namespace Go.Proofs.Ytoohfipicmdohac
open Go.ChangeShapes Go.WideShapes Go.ChangeAt Go.RowKit
set_option linter.unusedVariables false
set_option maxRecDepth 4000

/-- The row after the visits. -/
def trow (n : Nat) : List (Nat × Int) → List Int → List Int
  | [], r => r
  | y :: L, r => trow n L (r.set y.1 y.2)
theorem trow_append (n : Nat) : ∀ L y r, trow n (L ++ [y]) r = (trow n L r).set y.1 y.2
  | [], y, r => rfl
  | z :: L, y, r => trow_append n L y (r.set z.1 z.2)
theorem trow_len (n : Nat) : ∀ L r, (trow n L r).length = r.length
  | [], r => rfl
  | z :: L, r => by simp only [trow]; rw [trow_len n L]; simp
theorem trow_keep (n : Nat) {d : Nat → Int} : ∀ {L : List (Nat × Int)} {r : List Int} {j : Nat}, (∀ y ∈ L, y.2 = d y.1) → j < r.length → r.getD j 0 = d j → (trow n L r).getD j 0 = d j
  | [], r, j, _, _, h => h
  | z :: L, r, j, hd, hj, h => by
    simp only [trow]
    refine trow_keep n (fun y hy => hd y (List.mem_cons_of_mem _ hy)) (by simpa using hj) ?_
    simp only [List.getD, List.getElem?_set]
    by_cases e : z.1 = j
    · rw [if_pos e, if_pos (by omega), hd z (List.mem_cons_self ..), e]; rfl
    · rw [if_neg e]; exact h
theorem trow_get (n : Nat) {d : Nat → Int} : ∀ {L : List (Nat × Int)} {r : List Int} {j : Nat}, (∀ y ∈ L, y.2 = d y.1) → j < r.length → (∃ y ∈ L, y.1 = j) → (trow n L r).getD j 0 = d j
  | [], r, j, _, _, h => by obtain ⟨y, hy, _⟩ := h; cases hy
  | z :: L, r, j, hd, hj, h => by
    simp only [trow]
    by_cases e : z.1 = j
    · refine trow_keep n (fun y hy => hd y (List.mem_cons_of_mem _ hy)) (by simpa using hj) ?_
      simp only [List.getD, List.getElem?_set]
      rw [if_pos e, if_pos (by omega), hd z (List.mem_cons_self ..), e]; rfl
    · refine trow_get n (fun y hy => hd y (List.mem_cons_of_mem _ hy)) (by simpa using hj) ?_
      obtain ⟨y, hy, e'⟩ := h
      rcases List.mem_cons.1 hy with h | h
      · subst h; exact absurd e' e
      · exact ⟨y, h, e'⟩
def rowObj (n : Nat) (L : List (Nat × Int)) : Obj := .cells ((trow n L (List.replicate n 0)).map (Value.int .i64)).toArray 3 (0, 0)
theorem rowObj_cells (n : Nat) (L : List (Nat × Int)) : rowObj n L = .cells ((trow n L (List.replicate n 0)).map (Value.int .i64)).toArray 3 (0, 0) := rfl

set_option maxHeartbeats 800000 in
theorem visitT_any (w0 : World) (P : Nat → Nat) (RV : Nat → Value) (B R rb n : Nat) (F : List (Nat × Int)) (t : List (Int × Int)) (hlk : LkN w0 B n P RV t)
    (hR : ∃ cs, w0.heap[R]? = some (.cells cs 3 (0, 0))) (hrb : rb ≠ R) (hcr : w0.cell? ⟨rb, 0, none⟩ = some (.slice (some ⟨R, 0, none⟩) n n)) :
    VisitT w0 P R n (.pointer (some ⟨rb, 0, none⟩)) (rowObj n) F := by
  intro w L i x hg hL hpre hi
  obtain ⟨cs, hRc⟩ := hR
  have lk := hlk.kept hg (fun g e _ => by injection e with e; subst e; exact ⟨cs, _, _, hRc, by decide, by decide⟩)
  obtain ⟨c0, -, -, -, -⟩ := lk.cells hi
  have crb : w.cell? ⟨rb, 0, none⟩ = some (.slice (some ⟨R, 0, none⟩) n n) := (World.cell?_of_block (hg.block _ (World.block_lt_of_cell? w0 _ hcr) (fun e => hrb (by injection e)))).trans hcr
  have hlen : ((trow n L (List.replicate n 0)).map (Value.int .i64)).length = n := by rw [List.length_map, trow_len]; simp
  obtain ⟨v, cR⟩ : ∃ v, w.cell? ⟨R, i, none⟩ = some v := by
    rw [cell_of_row _ _ _ _ _ _ hL]
    exact ⟨_, by rw [List.getElem?_toArray]; exact List.getElem?_eq_getElem (by rw [hlen]; exact hi)⟩
  have fR : w.frozen? ⟨R, i, none⟩ = false := frozen_of_row _ _ _ _ _ hL
  have hst : (w.setCell ⟨R, i, none⟩ (.int .i64 x)).heap[R]? = some (rowObj n (L ++ [(i, x)])) := by
    unfold rowObj at hL ⊢
    rw [trow_append]
    simp [World.setCell, Array.getElem?_modify, hL, List.map_set]
  have hgr : w.grownBy (w.setCell ⟨R, i, none⟩ (.int .i64 x)) (some R) := ⟨rfl, rfl, rfl, by simp [World.setCell], fun k hk hne => Below.heap_setCell w _ _ k (by rintro rfl; exact hne rfl)⟩
  have HS := Lib.hid hst
  have HG := Lib.hid hgr
  clear hst hgr hg hL hpre lk hcr hRc hlen
  go_enter Try.func56, Try.ntmps56
  go_wp2_with fail
  go_region
  go_wp2
  go_end0
  exact ⟨rfl, HS.out, ⟨HG.out.os, HG.out.tape, HG.out.output, HG.out.size, HG.out.block⟩⟩
/-- A walk from node k writes the row of node k. -/
theorem treeRow_walk {w4 : World} {P : Nat → Nat} {RV : Nat → Value} {B R rb n k : Nat} {t : List (Int × Int)} (ht : Ahead t) (hn : t.length = n) (hn7 : n ≤ 7) (hk : k < n) (hlk : LkN w4 B n P RV t)
    (hR : w4.heap[R]? = some (.cells ((List.replicate n (0 : Int)).map (Value.int .i64)).toArray 3 (0, 0))) (hrb : rb ≠ R) (hcr : w4.cell? ⟨rb, 0, none⟩ = some (.slice (some ⟨R, 0, none⟩) n n)) :
    Calls Try.prog 50 #[.pointer (some ⟨P k, 0, none⟩), .pointer none, .func (.func 56) #[] #[.pointer (some ⟨rb, 0, none⟩)]] w4 fun e w' => e = .returned (.tuple #[]) ∧ w'.heap[R]? = some (.cells (((List.range n).map fun j => dn t n k j).map (Value.int .i64)).toArray 3 (0, 0)) ∧ w4.grownBy w' (some R) := by
  obtain ⟨M, hV, hs⟩ := walks_all ht n (by omega) k hk 0
  have hway := visited_way hs
  have hvis := visitT_any w4 P RV B R rb n ((k, 0) :: M) t hlk ⟨_, hR⟩ hrb hcr
  refine (walkT_any w4 P RV B R n _ (rowObj n) t ht (by omega) hn7 hlk ⟨_, _, _, hR, by decide, by decide⟩ hR k none M hk (fun g e => by cases e) hV hvis (fun y hy => by
    obtain ⟨h1, _, h2⟩ := hway y hy
    have := dn_bd ht n k y.1 (by omega) hk h1
    omega)).mono ?_
  rintro e w' ⟨he, hh, hg⟩
  refine ⟨he, ?_, hg⟩
  rw [hh]
  unfold rowObj
  have e1 : trow n ((k, 0) :: M) (List.replicate n 0) = (List.range n).map fun j => dn t n k j := by
    apply List.ext_getElem
    · rw [trow_len]; simp
    · intro j h1 h2
      have hj : j < n := by simpa using h2
      have := trow_get n (d := fun j => dn t n k j) (L := (k, 0) :: M) (r := List.replicate n 0) (j := j) (fun y hy => by have := (hway y hy).2.2; omega) (by simpa using hj) ⟨_, visited_all hs hj trivial, rfl⟩
      simp only [List.getD, List.getElem?_eq_getElem h1, Option.getD_some] at this
      rw [this]; simp
  rw [e1]
end Go.Proofs.Ytoohfipicmdohac
