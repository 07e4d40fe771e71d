/-
  A walk over the program's tree, for the visit TreeTable$1, which writes into one block: walk, walked.
  Conditions: none beyond what each theorem states.
  The visit of TreeTable: a row's element is written.
  Conditions: none beyond what each theorem states.
  The model's table of a tree, walked.
  Conditions: the roads are a tree.
  TreeTable: the program's table is the model's.
  Conditions: fewer than 2^60 roads.
  Rows of ints marked, and the marks read again.
  Conditions: none beyond what each theorem states.
  Tables in the exact laws: compared, marked, and the marks read again.
  Conditions: none beyond what each theorem states.
  TreeApart of the program: sets of near nodes, and the most without a common one.
  Conditions: none beyond what each theorem states.
-/
import Derived.Test.YtkgomgfhhhdnjabZ16
import Derived.Test.YtkgomgfhhhdnjabZ2
import Derived.Test.YtkgomgfhhhdnjabZ7
import Derived.Test.YtkgomgfhhhdnjabZ17
import Derived.Test.YtkgomgfhhhdnjabZ5
import Derived.Test.YtkgomgfhhhdnjabZ10
import Derived.Laws.EntriesVeiled
import Derived.Deep.Quiet
namespace Go.Proofs.Ytkgomgfhhhdnjab
open Go.ChangeShapes Go.WideShapes Go.ChangeAt Go.RowKit
set_option linter.unusedVariables false
set_option maxRecDepth 4000

/-- What a visit does: block R's content goes on from C L to C of L and the visited. -/
def VisitT (w0 : World) (P : Nat → Nat) (R n : Nat) (c1 : Value) (C : List (Nat × Int) → Obj) (F : List (Nat × Int)) : Prop :=
  ∀ (w : World) (L : List (Nat × Int)) (i : Nat) (x : Int), w0.grownBy w (some R) → w.heap[R]? = some (C L) → (L ++ [(i, x)]) <+: F → i < n →
    Calls Try.prog 60 #[.pointer (some ⟨P i, 0, none⟩), .int .i64 x, c1] w fun e w' => e = .returned (.tuple #[]) ∧ w'.heap[R]? = some (C (L ++ [(i, x)])) ∧ w.grownBy w' (some R)
/-- goOn, from node a, come to from f, with way x: all that is visited is M behind a. -/
def GoOnT (w0 : World) (P : Nat → Nat) (R bv bg : Nat) (C : List (Nat × Int) → Obj) (F : List (Nat × Int)) (a : Nat) (f : Option Nat) (x : Int) (M : List (Nat × Int)) : Prop :=
  ∀ (w : World) (L : List (Nat × Int)), w0.grownBy w (some R) → w.heap[R]? = some (C L) → (L ++ ((a, x) :: M)) <+: F →
    Calls Try.prog 104 #[.pointer (some ⟨P a, 0, none⟩), .pointer (fromA P f), .int .i64 x, .pointer (some ⟨bv, 0, none⟩), .pointer (some ⟨bg, 0, none⟩)] w fun e w' => e = .returned (.tuple #[]) ∧ w'.heap[R]? = some (C (L ++ ((a, x) :: M))) ∧ w.grownBy w' (some R)
/-- What the loop over a node's roads keeps. -/
def RoadsRelT (w0 w1 : World) (R n : Nat) (C : List (Nat × Int) → Obj) (F L : List (Nat × Int)) (t : List (Int × Int)) (a : Nat) (f : Option Nat) (x : Int) (M : List (Nat × Int)) (i : Value) (wr : World) : Prop :=
  ∃ k : Nat, ∃ M1 M2, i = .int .i64 k ∧ k ≤ (nb t n a).length ∧ M = M1 ++ M2 ∧ VisL (nb t n) a f x ((nb t n a).drop k) M2 ∧ w1.grownBy wr (some R) ∧ wr.heap[R]? = some (C (L ++ ((a, x) :: M1)))

set_option maxHeartbeats 1600000 in
theorem goOnT_step (w0 : World) (P : Nat → Nat) (RV : Nat → Value) (B R n bv bg : Nat) (c1 : Value) (C : List (Nat × Int) → Obj) (F : List (Nat × Int)) (t : List (Int × Int)) (ht : Ahead t) (hn : n ≤ t.length) (hn7 : n ≤ 7)
    (hlk : LkN w0 B n P RV t) (hRt : ∃ cs ty fz, w0.heap[R]? = some (.cells cs ty fz) ∧ ty ≠ 69 ∧ ty ≠ 112) (hbv : bv ≠ R) (hbg : bg ≠ R)
    (hv : w0.cell? ⟨bv, 0, none⟩ = some (.func (.func 60) #[] #[c1])) (hg : w0.cell? ⟨bg, 0, none⟩ = some (.func (.func 104) #[] #[.pointer (some ⟨bv, 0, none⟩), .pointer (some ⟨bg, 0, none⟩)])) (hvis : VisitT w0 P R n c1 C F) (hF : ∀ y ∈ F, 0 ≤ y.2 ∧ y.2 ≤ 1000000)
    (m : Nat) (ih : ∀ a f x M, M.length < m → a < n → (∀ g, f = some g → g < n) → VisL (nb t n) a f x (nb t n a) M → GoOnT w0 P R bv bg C F a f x M)
    (a : Nat) (f : Option Nat) (x : Int) (M : List (Nat × Int)) (hM : M.length = m) (ha : a < n) (hf : ∀ g, f = some g → g < n) (hV : VisL (nb t n) a f x (nb t n a) M) : GoOnT w0 P R bv bg C F a f x M := by
  intro w L hgw hL hpre
  obtain ⟨cs, ty, fz, hRc, hR1, hR2⟩ := hRt
  have Hvis := Lib.hid hvis
  have Hih := Lib.hid ih
  have HV := Lib.hid hV
  have hcf : ∀ {w' : World} {b : Nat} {v : Value}, w0.grownBy w' (some R) → b ≠ R → w0.cell? ⟨b, 0, none⟩ = some v → w'.cell? ⟨b, 0, none⟩ = some v := fun hg hne hc =>
    (World.cell?_of_block (hg.block _ (World.block_lt_of_cell? w0 _ hc) (fun e => hne (by injection e)))).trans hc
  have Hcf := Lib.hid (fun (w' : World) (hg' : w0.grownBy w' (some R)) => (⟨hcf hg' hbv hv, hcf hg' hbg hg⟩ : w'.cell? ⟨bv, 0, none⟩ = some (.func (.func 60) #[] #[c1]) ∧ w'.cell? ⟨bg, 0, none⟩ = some (.func (.func 104) #[] #[.pointer (some ⟨bv, 0, none⟩), .pointer (some ⟨bg, 0, none⟩)])))
  have Hlk := Lib.hid (fun (w' : World) (hg' : w0.grownBy w' (some R)) => hlk.kept hg' (fun g e _ => by injection e with e; subst e; exact ⟨cs, ty, fz, hRc, hR1, hR2⟩))
  clear hvis ih hV hlk hcf hv hg hRc
  obtain ⟨cv, cg⟩ := Hcf.out w hgw
  have hpre1 : (L ++ [(a, x)]) <+: F := by
    obtain ⟨r, hr⟩ := hpre
    exact ⟨M ++ r, by rw [← hr]; simp⟩
  have hcall := Hvis.out w L a x hgw hL hpre1 ha
  have Hcall := Lib.hid hcall
  have Hpre := Lib.hid hpre
  have HF := Lib.hid hF
  have Hgw := Lib.hid hgw
  clear hcall hpre hpre1 hF hL hgw
  go_enter Try.func104, Try.ntmps104
  go_wp2_with fail
  refine Hcall.out.mono ?_
  rintro e w1 ⟨rfl, h1, hg1⟩
  have hg01 := grown_trans Hgw.out hg1
  have lk1 := Hlk.out w1 hg01
  obtain ⟨-, -, -, c3, -⟩ := lk1.cells ha
  obtain ⟨A, cA, hrv, hA1, hA2, hA3⟩ := own_sliceN (lk1.own a ha)
  rw [hrv] at c3
  have H1 := Lib.hid h1
  have Hg1 := Lib.hid hg1
  have Hg01 := Lib.hid hg01
  have Lk1 := Lib.hid lk1
  have Hrv := Lib.hid hrv
  have HA3 := Lib.hid hA3
  obtain ⟨N, HN⟩ : ∃ N, Hid ((nb t n a).length = N) := ⟨_, rfl⟩
  have hN7 : N ≤ 7 := by have := nb_len t n a; rw [HN.out] at this; omega
  rw [HN.out] at c3 hA1
  clear h1 hg1 hg01 lk1 hrv hA3 cv cg
  go_wp2
  go_loopw [19] (fun i wr => RoadsRelT w0 w1 R n C F L t a f x M i wr) (fun i _ => N - (intOf i).toNat)
  case atStart => exact ⟨0, [], M, rfl, Nat.zero_le _, rfl, HV.out, grown_refl _ _, H1.out⟩
  case round =>
    obtain ⟨k, M1, M2, rfl, hk, hMM, hV2, hgr, hCr⟩ := hrel
    rw [HN.out] at hk
    by_cases hlt : k < N
    · have hg0r := grown_trans Hg01.out hgr
      have lkr := Hlk.out wr hg0r
      obtain ⟨cvr, cgr⟩ := Hcf.out wr hg0r
      obtain ⟨g, rfl, hgB, hgl⟩ := HA3.out (by rw [HN.out]; omega)
      have ow := lkr.own a ha
      rw [Hrv.out, HN.out] at ow
      obtain ⟨⟨b, l⟩, hbl⟩ : ∃ y, (nb t n a).getD k (0, 0) = y := ⟨_, rfl⟩
      have hkl : k < (nb t n a).length := by rw [HN.out]; exact hlt
      have hbm : (b, l) ∈ nb t n a := by rw [← hbl]; simp only [List.getD, List.getElem?_eq_getElem hkl]; exact List.getElem_mem hkl
      have hbn := nb_lt ht n hn a ha b l hbm
      have hdrop : (nb t n a).drop k = (b, l) :: (nb t n a).drop (k + 1) := by
        rw [List.drop_eq_getElem_cons hkl]
        congr 1
        rw [← hbl]; simp [List.getD, List.getElem?_eq_getElem hkl]
      have ce : wr.cell? ⟨g, k * 2, none⟩ = some (.pointer (some ⟨P b, 0, none⟩)) := by
        rw [ow.cellAt (k * 2) (by omega), brv_ptr P _ k hkl, hbl]; rfl
      have cl : wr.cell? ⟨g, k * 2 + 1, none⟩ = some (.int .i64 l) := by
        rw [ow.cellAt (k * 2 + 1) (by omega), brv_int P _ k hkl, hbl]
      rw [hdrop] at hV2
      have HV2 := Lib.hid hV2
      have Hg0r := Lib.hid hg0r
      have Hgr := Lib.hid hgr
      have Lkr := Lib.hid lkr
      have HCr := Lib.hid hCr
      have HMM := Lib.hid hMM
      clear hV2 hg0r hgr lkr hCr hMM ow hbl hdrop hbm
      by_cases hfb : f = some b
      · subst hfb
        have hV3 : Hid (VisL (nb t n) a (some b) x ((nb t n a).drop (k + 1)) M2) := by
          have h := HV2.out
          cases h with
          | skip _ h => exact h
          | go h _ _ => exact absurd rfl h
        simp only [fromA]
        have hb1 : ∀ o, (binOp .neq 65 (.pointer (some ⟨P b, 0, none⟩)) (.pointer (some ⟨P b, 0, none⟩))).run Try.prog (wr.alloc o) = .ok (.bool false) (wr.alloc o) := fun o => neq_same _ _
        go_wp2
        go_roundw
        case rel => exact ⟨k + 1, M1, M2, by go_num, by rw [HN.out]; omega, HMM.out, hV3.out, gb_trans Hgr.out (World.grownBy_alloc wr _ none) (.inr (fun g h => by cases h)), by
          rw [heap_alloc_old wr _ (Array.getElem?_eq_some_iff.1 HCr.out).1]; exact HCr.out⟩
        case measure => simp [intOf]; omega
      · obtain ⟨M3, M4, hM2, hW, hV3⟩ : ∃ M3 M4, M2 = (b, x + l) :: (M3 ++ M4) ∧ VisL (nb t n) b (some a) (x + l) (nb t n b) M3 ∧ VisL (nb t n) a f x ((nb t n a).drop (k + 1)) M4 := by
          have h := HV2.out
          cases h with
          | skip h _ => exact absurd h hfb
          | go _ h1 h2 => exact ⟨_, _, rfl, h1, h2⟩
        have hlen : M3.length < m := by
          rw [← hM, HMM.out, hM2]; simp; omega
        have hpre3 : ((L ++ ((a, x) :: M1)) ++ ((b, x + l) :: M3)) <+: F := by
          obtain ⟨r, hr⟩ := Hpre.out
          exact ⟨M4 ++ r, by rw [← hr, HMM.out, hM2]; simp⟩
        have hxl := HF.out (b, x + l) (by obtain ⟨r, hr⟩ := hpre3; rw [← hr]; simp)
        simp only at hxl
        have hgA : ∀ o, w0.grownBy (wr.alloc o) (some R) := fun o => gb_trans Hg0r.out (World.grownBy_alloc wr o none) (.inr (fun g h => by cases h))
        have hcall : ∀ o, Calls Try.prog 104 #[.pointer (some ⟨P b, 0, none⟩), .pointer (some ⟨P a, 0, none⟩), .int .i64 (x + l), .pointer (some ⟨bv, 0, none⟩), .pointer (some ⟨bg, 0, none⟩)] (wr.alloc o) fun e w' => e = .returned (.tuple #[]) ∧ w'.heap[R]? = some (C ((L ++ ((a, x) :: M1)) ++ ((b, x + l) :: M3))) ∧ (wr.alloc o).grownBy w' (some R) := fun o =>
          Hih.out b (some a) (x + l) M3 hlen hbn (fun g e => by injection e with e; omega) hW (wr.alloc o) (L ++ ((a, x) :: M1)) (hgA o) (by rw [heap_alloc_old wr _ (Array.getElem?_eq_some_iff.1 HCr.out).1]; exact HCr.out) hpre3
        have Hcall2 := Lib.hid hcall
        have hcgo : ∀ o, (wr.alloc o).cell? ⟨bg, 0, none⟩ = some (.func (.func 104) #[] #[.pointer (some ⟨bv, 0, none⟩), .pointer (some ⟨bg, 0, none⟩)]) := fun o => (Hcf.out _ (hgA o)).2
        have hne : ∀ o, (binOp .neq 65 (.pointer (some ⟨P b, 0, none⟩)) (.pointer (fromA P f))).run Try.prog (wr.alloc o) = .ok (.bool true) (wr.alloc o) := fun o =>
          neq_from (Lkr.out.below ((Below.refl _ _).alloc (Nat.le_refl _) o)) hbn hf hfb
        have HM2 := Lib.hid hM2
        have HV3 := Lib.hid hV3
        clear hcall hgA hpre3 hlen hW hV3 hM2 hfb cvr cgr
        go_wp2_with fail
        refine (Hcall2.out _).mono ?_
        rintro e w3 ⟨rfl, h3, hg3⟩
        have hg13 := gb_trans (gb_trans Hgr.out (World.grownBy_alloc wr _ none) (.inr (fun g h => by cases h))) hg3 (.inl rfl)
        have H3 := Lib.hid h3
        have Hg13 := Lib.hid hg13
        clear h3 hg3 hg13 ce cl hcgo hne
        go_wp2
        go_roundw
        case rel => exact ⟨k + 1, M1 ++ ((b, x + l) :: M3), M4, by go_num, by rw [HN.out]; omega, by rw [HMM.out, HM2.out]; simp, HV3.out, Hg13.out, by simpa using H3.out⟩
        case measure => simp [intOf]; omega
    · have hd : (nb t n a).drop k = [] := List.drop_of_length_le (by rw [HN.out]; omega)
      rw [hd] at hV2
      have hM2 : M2 = [] := by cases hV2; rfl
      subst hM2
      rw [List.append_nil] at hMM
      subst hMM
      have Hend := Lib.hid hCr
      have Hgr := Lib.hid hgr
      clear hd hV2 hCr hgr
      go_wp2
      go_end0
      exact ⟨rfl, Hend.out, grown_trans Hg1.out Hgr.out⟩
theorem goOnT_any (w0 : World) (P : Nat → Nat) (RV : Nat → Value) (B R n bv bg : Nat) (c1 : Value) (C : List (Nat × Int) → Obj) (F : List (Nat × Int)) (t : List (Int × Int)) (ht : Ahead t) (hn : n ≤ t.length) (hn7 : n ≤ 7)
    (hlk : LkN w0 B n P RV t) (hRt : ∃ cs ty fz, w0.heap[R]? = some (.cells cs ty fz) ∧ ty ≠ 69 ∧ ty ≠ 112) (hbv : bv ≠ R) (hbg : bg ≠ R)
    (hv : w0.cell? ⟨bv, 0, none⟩ = some (.func (.func 60) #[] #[c1])) (hg : w0.cell? ⟨bg, 0, none⟩ = some (.func (.func 104) #[] #[.pointer (some ⟨bv, 0, none⟩), .pointer (some ⟨bg, 0, none⟩)])) (hvis : VisitT w0 P R n c1 C F) (hF : ∀ y ∈ F, 0 ≤ y.2 ∧ y.2 ≤ 1000000) :
    ∀ m a f x M, M.length ≤ m → a < n → (∀ g, f = some g → g < n) → VisL (nb t n) a f x (nb t n a) M → GoOnT w0 P R bv bg C F a f x M
  | 0, a, f, x, M, hm, ha, hf, hV => goOnT_step w0 P RV B R n bv bg c1 C F t ht hn hn7 hlk hRt hbv hbg hv hg hvis hF 0 (fun _ _ _ _ h => by omega) a f x M (by omega) ha hf hV
  | m + 1, a, f, x, M, hm, ha, hf, hV =>
    goOnT_step w0 P RV B R n bv bg c1 C F t ht hn hn7 hlk hRt hbv hbg hv hg hvis hF M.length (fun a f x M' h => goOnT_any w0 P RV B R n bv bg c1 C F t ht hn hn7 hlk hRt hbv hbg hv hg hvis hF m a f x M' (by omega)) a f x M rfl ha hf hV

theorem VisitT.later {w w0 : World} {P : Nat → Nat} {R n : Nat} {c1 : Value} {C : List (Nat × Int) → Obj} {F : List (Nat × Int)} (h : VisitT w P R n c1 C F) (hg : w.grownBy w0 (some R)) : VisitT w0 P R n c1 C F :=
  fun w' L i x h1 h2 h3 h4 => h w' L i x (grown_trans hg h1) h2 h3 h4
set_option maxHeartbeats 800000 in
theorem walkT_any (w : World) (P : Nat → Nat) (RV : Nat → Value) (B R n : Nat) (c1 : Value) (C : List (Nat × Int) → Obj) (t : List (Int × Int)) (ht : Ahead t) (hn : n ≤ t.length) (hn7 : n ≤ 7)
    (hlk : LkN w B n P RV t) (hRt : ∃ cs ty fz, w.heap[R]? = some (.cells cs ty fz) ∧ ty ≠ 69 ∧ ty ≠ 112) (hC : w.heap[R]? = some (C []))
    (a : Nat) (f : Option Nat) (M : List (Nat × Int)) (ha : a < n) (hf : ∀ g, f = some g → g < n) (hV : VisL (nb t n) a f 0 (nb t n a) M) (hvis : VisitT w P R n c1 C ((a, 0) :: M)) (hF : ∀ y ∈ (a, (0 : Int)) :: M, 0 ≤ y.2 ∧ y.2 ≤ 1000000) :
    Calls Try.prog 59 #[.pointer (some ⟨P a, 0, none⟩), .pointer (fromA P f), .func (.func 60) #[] #[c1]] w fun e w' => e = .returned (.tuple #[]) ∧ w'.heap[R]? = some (C ((a, 0) :: M)) ∧ w.grownBy w' (some R) := by
  have hRlt : R < w.heap.size := (Array.getElem?_eq_some_iff.1 hC).1
  have H := Lib.hid (fun (w0 : World) (b0 : Below w.heap.size w w0) (g0 : w.grownBy w0 (some R)) (bv bg : Nat) (h1 : w.heap.size ≤ bv) (h2 : w.heap.size ≤ bg)
      (hv : w0.cell? ⟨bv, 0, none⟩ = some (.func (.func 60) #[] #[c1])) (hg : w0.cell? ⟨bg, 0, none⟩ = some (.func (.func 104) #[] #[.pointer (some ⟨bv, 0, none⟩), .pointer (some ⟨bg, 0, none⟩)])) =>
    goOnT_any w0 P RV B R n bv bg c1 C ((a, 0) :: M) t ht hn hn7 (hlk.below b0) (by
      obtain ⟨cs, ty, fz, hc, r⟩ := hRt
      exact ⟨cs, ty, fz, (b0.block R hRlt).trans hc, r⟩) (by omega) (by omega) hv hg (hvis.later g0) hF M.length a f 0 M (Nat.le_refl _) ha hf hV w0 [] (grown_refl _ _) ((b0.block R hRlt).trans hC) (List.prefix_rfl))
  have b1 := (Below.refl w.heap.size w).alloc (Nat.le_refl _) (.cells #[.func (.func 60) #[] #[c1]] 70)
  have b2 := b1.alloc b1.size (.cells #[.func (.func 104) #[] #[.pointer (some ⟨w.heap.size, 0, none⟩), .pointer (some ⟨w.heap.size + 1, 0, none⟩)]] 113)
  have g2 := gb_trans (World.grownBy_alloc w (.cells #[.func (.func 60) #[] #[c1]] 70) (some R)) (World.grownBy_alloc _ (.cells #[.func (.func 104) #[] #[.pointer (some ⟨w.heap.size, 0, none⟩), .pointer (some ⟨w.heap.size + 1, 0, none⟩)]] 113) none) (.inr (fun g h => by cases h))
  have H2 := Lib.hid (H.out _ b2 g2 w.heap.size (w.heap.size + 1) (by omega) (by omega) (by
      rw [cell_of_row _ _ _ _ _ (0, 0) ((heap_alloc_old _ _ (by rw [size_alloc1]; omega)).trans (heap_alloc_new w _))]; rfl) (by
      have e := heap_alloc_new (w.alloc (.cells #[.func (.func 60) #[] #[c1]] 70)) (.cells #[.func (.func 104) #[] #[.pointer (some ⟨w.heap.size, 0, none⟩), .pointer (some ⟨w.heap.size + 1, 0, none⟩)]] 113)
      rw [size_alloc1] at e
      rw [cell_of_row _ _ _ _ _ _ e]; rfl))
  have G2 := Lib.hid g2
  clear hlk hRt hC hV hvis hF H b1 b2 g2
  go_enter Try.func59, Try.ntmps59
  go_wp2_with fail
  refine H2.out.mono ?_
  rintro e w3 ⟨rfl, h3, hg3⟩
  have hg4 := gb_trans G2.out hg3 (.inl rfl)
  have H3 := Lib.hid h3
  have H4 := Lib.hid hg4
  clear h3 hg3 hg4
  go_wp2
  go_end0
  exact ⟨rfl, H3.out, H4.out⟩
end Go.Proofs.Ytkgomgfhhhdnjab
namespace Go.Proofs.Ytkgomgfhhhdnjab
open Go.ChangeShapes Go.WideShapes Go.ChangeAt Go.RowKit
set_option linter.unusedVariables false
set_option maxRecDepth 4000

/-- The row after the visits. -/
def trow (n : Nat) : List (Nat × Int) → List Int → List Int
  | [], r => r
  | y :: L, r => trow n L (r.set y.1 y.2)
theorem trow_append (n : Nat) : ∀ L y r, trow n (L ++ [y]) r = (trow n L r).set y.1 y.2
  | [], y, r => rfl
  | z :: L, y, r => trow_append n L y (r.set z.1 z.2)
theorem trow_len (n : Nat) : ∀ L r, (trow n L r).length = r.length
  | [], r => rfl
  | z :: L, r => by simp only [trow]; rw [trow_len n L]; simp
theorem trow_keep (n : Nat) {d : Nat → Int} : ∀ {L : List (Nat × Int)} {r : List Int} {j : Nat}, (∀ y ∈ L, y.2 = d y.1) → j < r.length → r.getD j 0 = d j → (trow n L r).getD j 0 = d j
  | [], r, j, _, _, h => h
  | z :: L, r, j, hd, hj, h => by
    simp only [trow]
    refine trow_keep n (fun y hy => hd y (List.mem_cons_of_mem _ hy)) (by simpa using hj) ?_
    simp only [List.getD, List.getElem?_set]
    by_cases e : z.1 = j
    · rw [if_pos e, if_pos (by omega), hd z (List.mem_cons_self ..), e]; rfl
    · rw [if_neg e]; exact h
theorem trow_get (n : Nat) {d : Nat → Int} : ∀ {L : List (Nat × Int)} {r : List Int} {j : Nat}, (∀ y ∈ L, y.2 = d y.1) → j < r.length → (∃ y ∈ L, y.1 = j) → (trow n L r).getD j 0 = d j
  | [], r, j, _, _, h => by obtain ⟨y, hy, _⟩ := h; cases hy
  | z :: L, r, j, hd, hj, h => by
    simp only [trow]
    by_cases e : z.1 = j
    · refine trow_keep n (fun y hy => hd y (List.mem_cons_of_mem _ hy)) (by simpa using hj) ?_
      simp only [List.getD, List.getElem?_set]
      rw [if_pos e, if_pos (by omega), hd z (List.mem_cons_self ..), e]; rfl
    · refine trow_get n (fun y hy => hd y (List.mem_cons_of_mem _ hy)) (by simpa using hj) ?_
      obtain ⟨y, hy, e'⟩ := h
      rcases List.mem_cons.1 hy with h | h
      · subst h; exact absurd e' e
      · exact ⟨y, h, e'⟩
def rowObj (n : Nat) (L : List (Nat × Int)) : Obj := .cells ((trow n L (List.replicate n 0)).map (Value.int .i64)).toArray 3 (0, 0)
theorem rowObj_cells (n : Nat) (L : List (Nat × Int)) : rowObj n L = .cells ((trow n L (List.replicate n 0)).map (Value.int .i64)).toArray 3 (0, 0) := rfl

set_option maxHeartbeats 800000 in
theorem visitT_any (w0 : World) (P : Nat → Nat) (RV : Nat → Value) (B R rb n : Nat) (F : List (Nat × Int)) (t : List (Int × Int)) (hlk : LkN w0 B n P RV t)
    (hR : ∃ cs, w0.heap[R]? = some (.cells cs 3 (0, 0))) (hrb : rb ≠ R) (hcr : w0.cell? ⟨rb, 0, none⟩ = some (.slice (some ⟨R, 0, none⟩) n n)) :
    VisitT w0 P R n (.pointer (some ⟨rb, 0, none⟩)) (rowObj n) F := by
  intro w L i x hg hL hpre hi
  obtain ⟨cs, hRc⟩ := hR
  have lk := hlk.kept hg (fun g e _ => by injection e with e; subst e; exact ⟨cs, _, _, hRc, by decide, by decide⟩)
  obtain ⟨c0, -, -, -, -⟩ := lk.cells hi
  have crb : w.cell? ⟨rb, 0, none⟩ = some (.slice (some ⟨R, 0, none⟩) n n) := (World.cell?_of_block (hg.block _ (World.block_lt_of_cell? w0 _ hcr) (fun e => hrb (by injection e)))).trans hcr
  have hlen : ((trow n L (List.replicate n 0)).map (Value.int .i64)).length = n := by rw [List.length_map, trow_len]; simp
  obtain ⟨v, cR⟩ : ∃ v, w.cell? ⟨R, i, none⟩ = some v := by
    rw [cell_of_row _ _ _ _ _ _ hL]
    exact ⟨_, by rw [List.getElem?_toArray]; exact List.getElem?_eq_getElem (by rw [hlen]; exact hi)⟩
  have fR : w.frozen? ⟨R, i, none⟩ = false := frozen_of_row _ _ _ _ _ hL
  have hst : (w.setCell ⟨R, i, none⟩ (.int .i64 x)).heap[R]? = some (rowObj n (L ++ [(i, x)])) := by
    unfold rowObj at hL ⊢
    rw [trow_append]
    simp [World.setCell, Array.getElem?_modify, hL, List.map_set]
  have hgr : w.grownBy (w.setCell ⟨R, i, none⟩ (.int .i64 x)) (some R) := ⟨rfl, rfl, rfl, by simp [World.setCell], fun k hk hne => Below.heap_setCell w _ _ k (by rintro rfl; exact hne rfl)⟩
  have HS := Lib.hid hst
  have HG := Lib.hid hgr
  clear hst hgr hg hL hpre lk hcr hRc hlen
  go_enter Try.func60, Try.ntmps60
  go_wp2_with fail
  go_region
  go_wp2
  go_end0
  exact ⟨rfl, HS.out, ⟨HG.out.os, HG.out.tape, HG.out.output, HG.out.size, HG.out.block⟩⟩
/-- A walk from node k writes the row of node k. -/
theorem treeRow_walk {w4 : World} {P : Nat → Nat} {RV : Nat → Value} {B R rb n k : Nat} {t : List (Int × Int)} (ht : Ahead t) (hn : t.length = n) (hn7 : n ≤ 7) (hk : k < n) (hlk : LkN w4 B n P RV t)
    (hR : w4.heap[R]? = some (.cells ((List.replicate n (0 : Int)).map (Value.int .i64)).toArray 3 (0, 0))) (hrb : rb ≠ R) (hcr : w4.cell? ⟨rb, 0, none⟩ = some (.slice (some ⟨R, 0, none⟩) n n)) :
    Calls Try.prog 59 #[.pointer (some ⟨P k, 0, none⟩), .pointer none, .func (.func 60) #[] #[.pointer (some ⟨rb, 0, none⟩)]] w4 fun e w' => e = .returned (.tuple #[]) ∧ w'.heap[R]? = some (.cells (((List.range n).map fun j => dn t n k j).map (Value.int .i64)).toArray 3 (0, 0)) ∧ w4.grownBy w' (some R) := by
  obtain ⟨M, hV, hs⟩ := walks_all ht n (by omega) k hk 0
  have hway := visited_way hs
  have hvis := visitT_any w4 P RV B R rb n ((k, 0) :: M) t hlk ⟨_, hR⟩ hrb hcr
  refine (walkT_any w4 P RV B R n _ (rowObj n) t ht (by omega) hn7 hlk ⟨_, _, _, hR, by decide, by decide⟩ hR k none M hk (fun g e => by cases e) hV hvis (fun y hy => by
    obtain ⟨h1, _, h2⟩ := hway y hy
    have := dn_bd ht n k y.1 (by omega) hk h1
    omega)).mono ?_
  rintro e w' ⟨he, hh, hg⟩
  refine ⟨he, ?_, hg⟩
  rw [hh]
  unfold rowObj
  have e1 : trow n ((k, 0) :: M) (List.replicate n 0) = (List.range n).map fun j => dn t n k j := by
    apply List.ext_getElem
    · rw [trow_len]; simp
    · intro j h1 h2
      have hj : j < n := by simpa using h2
      have := trow_get n (d := fun j => dn t n k j) (L := (k, 0) :: M) (r := List.replicate n 0) (j := j) (fun y hy => by have := (hway y hy).2.2; omega) (by simpa using hj) ⟨_, visited_all hs hj trivial, rfl⟩
      simp only [List.getD, List.getElem?_eq_getElem h1, Option.getD_some] at this
      rw [this]; simp
  rw [e1]
end Go.Proofs.Ytkgomgfhhhdnjab
namespace Go.Proofs.Ytkgomgfhhhdnjab
open Go.ChangeShapes Go.WideShapes Go.ChangeAt Go.RowKit
set_option linter.unusedVariables false
set_option maxRecDepth 4000

set_option maxHeartbeats 1600000 in
theorem treeTable_any (A : Option Addr) (c n : Nat) (t : List (Int × Int)) (w : World) (hr : RdR w w.heap.size A t) (hn : t.length = n) (hv : vt t = true) :
    Calls Try.prog 62 #[.slice A n c] w (Tabled w t) := by
  obtain ⟨ii, hii, hzi0, hzi1, hzi2⟩ := info_parts intInfo
  obtain ⟨is, his, hzs0, hzs1, hzs2⟩ := info_parts slInfo2
  obtain ⟨h1, h7, -⟩ := (vt_iff t).1 hv
  have Hn := Lib.hid hn
  have Hv := Lib.hid hv
  have ha := Lib.hid (vt_ahead hv)
  rw [hn] at h1 h7
  clear hn hv
  have hb0 := (Below.refl w.heap.size w).alloc (Nat.le_refl _) (.cells #[] 33)
  have ho0 : Outer (w.alloc (.cells #[] 33)) w.heap.size 0 (.slice (some ⟨w.heap.size, 0, none⟩) 0 0) (fun _ => .nilIface) := World.ownsRow_lit w #[] 0 (Nat.le_refl _) (by decide) rfl
  have ht0 : TT (w.alloc (.cells #[] 33)) w.heap.size 0 (fun _ => .nilIface) (rowN t 0) := ⟨fun j hj => by omega, fun i j g hi => by omega⟩
  have HB0 := Lib.hid hb0
  have HO0 := Lib.hid ho0
  have HT0 := Lib.hid ht0
  clear hb0 ho0 ht0
  go_enter Try.func62, Try.ntmps62
  go_wp2
  go_loopw [3, 4] (fun v i wr => TabRel w t v i wr) (fun _ i _ => n - (intOf i).toNat)
  case atStart => exact ⟨0, _, _, _, Nat.zero_le _, rfl, rfl, HO0.out, HT0.out, HB0.out⟩
  case round =>
    clear HO0 HT0 HB0
    obtain ⟨m, VR, g, cA, hm, rfl, rfl, ho, hT, hnx⟩ := hrel
    rw [Hn.out] at hm
    by_cases hlt : m < n
    · have hg0 := (own_heap ho (g := g) rfl)
      have hb1 := hnx.alloc hnx.size (.cells #[] 3)
      have hT1 := (hT.add hnx.size).congr (lsK_start (t := t))
      have ho1 := Outer.congr (VR' := upd VR m (.slice (some ⟨wr.heap.size, 0, none⟩) 0 0)) (ownN_below ho ((Below.refl _ _).alloc (Nat.le_refl _) (.cells #[] 3))) (fun j hj => by rw [upd_other _ _ (by omega)])
      have HB1 := Lib.hid hb1
      have HT1 := Lib.hid hT1
      have HO1 := Lib.hid ho1
      clear hb1 hT1 ho1 ho hT hnx hg0
      go_wp2
      go_loopw [5, 6] (fun r i wr => RowRel w t m g cA r i wr) (fun _ i _ => m - (intOf i).toNat)
      case atStart => exact ⟨0, _, Nat.zero_le _, rfl, (upd_at _ _ _).symm, HO1.out, HT1.out, HB1.out⟩
      case round =>
        clear HO1 HT1 HB1
        obtain ⟨k, VR', hk, rfl, rfl, ho, hT, hnx⟩ := hrel
        by_cases hlk : k < m
        · obtain ⟨b, off, x, y, rfl, -, Hx, hcx, hcy⟩ := (hr.below hnx).x (k := m) (by rw [Hn.out]; exact hlt)
          have hx := vt_to Hv.out (i := m) (by omega) (by rw [Hn.out]; exact hlt)
          obtain ⟨hp, hy1, hy9⟩ := ha.out m (by omega) (by rw [Hn.out]; exact hlt)
          have hy : tlg t m = y := by unfold tlg; rw [Hx.out]
          rw [Hx.out] at hx
          simp only at hx
          subst hx
          rw [hy] at hy1 hy9
          obtain ⟨p, Hp⟩ : ∃ p, Hid (tto t m = p) := ⟨_, rfl⟩
          rw [Hp.out] at hp hcx
          obtain ⟨hd1, hd2⟩ := lsK_get (t := t) hp hlk
          obtain ⟨gp, cp, hvp, hcp⟩ := hT.cells (j := p) (k := k) (by omega) hd2
          have hop := Outer.cell ho hp
          rw [hvp] at hop
          rw [hd1] at hcp
          obtain ⟨lp, Hlp⟩ : ∃ lp, Hid ((lsK t m k p).length = lp) := ⟨_, rfl⟩
          rw [Hlp.out] at hop hd2
          obtain ⟨d, Hd⟩ : ∃ d, Hid (dn t m p k = d) := ⟨_, rfl⟩
          rw [Hd.out] at hcp
          have hdb := dn_bd ha.out m p k (by rw [Hn.out]; omega) hp hlk
          rw [Hd.out] at hdb
          have hdd : dn t (m + 1) m k = d + y := by rw [dn_new hlk, Hp.out, Hd.out, hy]
          have HDD := Lib.hid hdd
          have w1 : IntKind.i64.wrap (d + y) = d + y := IntWalk.i64_in _ (by omega)
          have HO := Lib.hid ho
          have HT := Lib.hid hT
          have HB := Lib.hid hnx
          clear ho hT hnx hdd hd1 hvp
          go_wp2
          go_quiet (fail)
          clear hop hcp hcx hcy w1
          have hT0 := HT.out.drewN nq
          have ho0 := HO.out.drewN nq
          have hb0 := below_drewN HB.out nq
          generalize wr.drewN nq = wq at hT0 ho0 hb0 ⊢
          have HT := Lib.hid hT0
          have HO := Lib.hid ho0
          have HB := Lib.hid hb0
          clear hT0 ho0 hb0
          have hlm : (lsK t m k m).length = k := by unfold lsK; rw [if_pos rfl]; simp
          have hom := HT.out.own m (by omega)
          rw [hlm] at hom
          have Hom := Lib.hid hom
          have Hlm := Lib.hid hlm
          have hk1 : k + 1 ≤ maxLen := by unfold maxLen; omega
          have hk2 : (k + 1) * 8 ≤ 140737488355328 := by omega
          have hsz : ∀ o, w.heap.size ≤ (wq.alloc o).heap.size := fun o => by rw [size_alloc1]; have := HB.out.size; omega
          clear hom hlm
          have hm1 : m + 1 ≤ maxLen := by unfold maxLen; omega
          have hm2 : (m + 1) * 8 ≤ 140737488355328 := by omega
          have hs8 : ∀ (w' : World) o, Below w.heap.size w w' → w.heap.size ≤ (w'.alloc o).heap.size := fun w' o h => by rw [size_alloc1]; have := h.size; omega
          have Hs8 := Lib.hid hs8
          have h1c : ∀ u ∈ [Value.int .i64 (d + y)], u.oneCell' = true := by intro u hu; simp at hu; subst hu; rfl
          have H1c := Lib.hid h1c
          clear hs8 hsz h1c
          go_wp2_with (
            first
            | (
              at_builtin
              refine wpList_append_lies _ rfl _ _ 33 rfl w.heap.size 3 ii _ 1 8 Try.underlying33 hii hzi0 hzi1 hzi2 rfl (by decide) _ _ _ rfl (Hom.out.alloc _) ⟨wq.heap.size, 0, none⟩ 1 1 [.int .i64 (d + y)] rfl rfl (cell_one_new _ _ _) H1c.out (by decide) hk1 hk2 (Hs8.out _ _ HB.out) _ rfl ?_
              intro g2 c2 w2 hown2 hgrow2 hat2 hlt2
              obtain ⟨gk, ck, hT2, ho2, hb2, hvk, hok, cok⟩ := tab_first HT.out HO.out HB.out hlk hown2 hgrow2 hat2
              have HT2 := Lib.hid hT2
              have HO2 := Lib.hid ho2
              have HB2 := Lib.hid hb2
              have Hok := Lib.hid hok
              have Hvk := Lib.hid hvk
              clear hown2 hgrow2 hat2 hlt2 hT2 ho2 hb2 hok hvk)
            | (
              at_builtin
              refine wpList_append_lies _ rfl _ _ 33 rfl w.heap.size 3 ii _ 1 8 Try.underlying33 hii hzi0 hzi1 hzi2 rfl (by decide) _ _ _ rfl (Hok.out.alloc _) ⟨w2.heap.size, 0, none⟩ 1 1 [.int .i64 (d + y)] rfl rfl (cell_one_new _ _ _) H1c.out (by decide) hm1 hm2 (Hs8.out _ _ HB2.out) _ rfl ?_
              intro g3 c3 w3 hown3 hgrow3 hat3 hlt3
              obtain ⟨v3, VR3, hv3, hf3, hm3, hst, hT4, hb4⟩ := tab_second HT2.out HO2.out HB2.out hlk Hvk.out HDD.out hown3 hgrow3 hat3
              have HST := Lib.hid hst
              have HT4 := Lib.hid hT4
              have HB4 := Lib.hid hb4
              have Hm3 := Lib.hid hm3
              clear hown3 hgrow3 hat3 hlt3 hst hT4 hb4 hm3))
          go_roundw
          case rel => exact ⟨k + 1, VR3, by omega, by go_num, Hm3.out.symm, HST.out, HT4.out, HB4.out⟩
          case measure => simp [intOf]; omega
        · have hkm : k = m := by omega
          subst hkm
          have hlm : (lsK t k k k).length = k := by unfold lsK; rw [if_pos rfl]; simp
          have hom := hT.own k (by omega)
          rw [hlm] at hom
          have Hom := Lib.hid hom
          have HT := Lib.hid hT
          have HO := Lib.hid ho
          have HB := Lib.hid hnx
          have hm1 : k + 1 ≤ maxLen := by unfold maxLen; omega
          have hm2 : (k + 1) * 8 ≤ 140737488355328 := by omega
          have hm3 : (k + 1) * 24 ≤ 140737488355328 := by omega
          have hs8 : ∀ (w' : World) o, Below w.heap.size w w' → w.heap.size ≤ (w'.alloc o).heap.size := fun w' o h => by rw [size_alloc1]; have := h.size; omega
          have Hs8 := Lib.hid hs8
          have h1c : ∀ u ∈ [Value.int .i64 0], u.oneCell' = true := by intro u hu; simp at hu; subst hu; rfl
          have H1c := Lib.hid h1c
          have h1s : ∀ a b c, ∀ u ∈ [Value.slice a b c], u.oneCell' = true := by intro a b c u hu; simp at hu; subst hu; rfl
          have H1s := Lib.hid h1s
          clear hs8 h1c h1s hom hlm hT ho hnx
          rename_i wz _
          go_wp2_with (
            first
            | (
              at_builtin
              refine wpList_append_lies _ rfl _ _ 33 rfl w.heap.size 3 ii _ 1 8 Try.underlying33 hii hzi0 hzi1 hzi2 rfl (by decide) _ _ _ rfl (Hom.out.alloc _) ⟨_, 0, none⟩ 1 1 [.int .i64 0] rfl rfl (cell_one_new _ _ _) H1c.out (by decide) hm1 hm2 (Hs8.out _ _ HB.out) _ rfl ?_
              intro g2 c2 w2 hown2 hgrow2 hat2 hlt2
              obtain ⟨hT2, ho2, hb2⟩ := tab_end1 HT.out HO.out HB.out hown2 hgrow2 hat2
              have HT2 := Lib.hid hT2
              have HO2 := Lib.hid ho2
              have HB2 := Lib.hid hb2
              clear hown2 hgrow2 hat2 hlt2 hT2 ho2 hb2)
            | (
              at_builtin
              refine wpList_append_lies _ rfl _ _ 27 rfl w.heap.size 33 is _ 1 24 Try.underlying27 his hzs0 hzs1 hzs2 rfl (by decide) _ _ _ rfl (World.ownsRow.alloc HO2.out _) ⟨w2.heap.size, 0, none⟩ 1 1 [.slice (some ⟨g2, 0, none⟩) (k + 1) c2] rfl rfl (cell_one_new _ _ _) (H1s.out _ _ _) (by decide) hm1 hm3 (Hs8.out _ _ HB2.out) _ rfl ?_
              intro g3 c3 w3 hown3 hgrow3 hat3 hlt3
              obtain ⟨ho3, hT3, hb3⟩ := tab_end2 HT2.out HO2.out HB2.out hown3 hgrow3
              have HT3 := Lib.hid hT3
              have HO3 := Lib.hid ho3
              have HB3 := Lib.hid hb3
              clear hown3 hgrow3 hat3 hlt3 hT3 ho3 hb3))
          go_roundw
          case rel => exact ⟨k + 1, _, _, _, by rw [Hn.out]; omega, by go_num, rfl, HO3.out, HT3.out, HB3.out⟩
          case measure => simp [intOf]; omega
    · have hmn : m = n := by omega
      subst hmn
      have HO := Lib.hid ho
      have HT := Lib.hid hT
      clear ho hT
      go_wp2
      go_ret
      exact ⟨_, VR, rfl, by rw [Hn.out]; exact HO.out, by rw [Hn.out]; exact HT.out, hnx⟩
end Go.Proofs.Ytkgomgfhhhdnjab
namespace Go.Proofs.Ytkgomgfhhhdnjab
open Go.ChangeShapes Go.WideShapes Go.ChangeAt Go.RowKit
set_option linter.unusedVariables false
set_option maxRecDepth 4000

/-- What a table's call answers: nil for what is no tree, else the rows. -/
def TabAns (w : World) (t : List (Int × Int)) (e : Ending) (w' : World) : Prop :=
  (vt t = false ∧ e = .returned (.slice none 0 0) ∧ Below w.heap.size w w') ∨ (vt t = true ∧ Tabled w t e w')
theorem sTreeTable_any (A : Option Addr) (c n : Nat) (ts : List (Int × Int)) (w : World) (hr : RdR w w.heap.size A ts) (hn : ts.length = n) (hb : n ≤ 1152921504606846976) :
    Calls Try.prog 22 #[.slice A n c] w (TabAns w ts) := by
  by_cases hv : vt ts = true
  · have H1 := Lib.hid (sValidTree_in A c n ts w _ hr hn hb)
    have Ht := Lib.hid (treeTable_any A c n ts w hr hn hv)
    rw [hv] at H1
    have Hv := Lib.hid hv
    clear hv hr hn
    go_enter Try.func22, Try.ntmps22
    go_wp2_with fail
    refine H1.out.mono ?_
    rintro e w' ⟨rfl, rfl⟩
    go_wp2_with fail
    refine Ht.out.mono ?_
    rintro e w1 ⟨v, VR, rfl, hO, hT, hnx1⟩
    have HO := Lib.hid hO
    have HT := Lib.hid hT
    have HB := Lib.hid hnx1
    clear hO hT hnx1
    go_wp2
    go_ret
    exact .inr ⟨Hv.out, v, VR, rfl, HO.out, HT.out, HB.out⟩
  · have hv' : vt ts = false := by simpa using hv
    have H1 := Lib.hid (sValidTree_in A c n ts w _ hr hn hb)
    rw [hv'] at H1
    have Hv := Lib.hid hv'
    clear hv hv' hr hn
    go_enter Try.func22, Try.ntmps22
    go_wp2_with fail
    refine H1.out.mono ?_
    rintro e w' ⟨rfl, rfl⟩
    go_wp2
    go_ret
    exact .inl ⟨Hv.out, rfl, Below.refl _ _⟩
/-- What the loop over the nodes keeps: the rows so far, the rest of the table nil. -/
def TabRel2 (w w3 : World) (t : List (Int × Int)) (n g : Nat) (i : Value) (wr : World) : Prop :=
  ∃ k : Nat, ∃ VR, k ≤ n ∧ i = .int .i64 k ∧ wr.ownsRow w.heap.size 33 1 (.slice (some ⟨g, 0, none⟩) n n) n (half VR k n) ∧ TT wr w.heap.size k VR (rowN t n) ∧ Below w3.heap.size w3 wr
/-- One row more. -/
theorem tab2_step {w wr wC : World} {t : List (Int × Int)} {n k g R : Nat} {VR : Nat → Value} (hk : k < n) (hn7 : n ≤ 7) (hT : TT wr w.heap.size k VR (rowN t n)) (hO : wr.ownsRow w.heap.size 33 1 (.slice (some ⟨g, 0, none⟩) n n) n (half VR k n))
    (hb : Below wr.heap.size wr wC) (hR : wr.heap.size ≤ R) (hw : w.heap.size ≤ wr.heap.size) (hrow : wC.heap[R]? = some (.cells (((List.range n).map fun j => dn t n k j).map (Value.int .i64)).toArray 3 (0, 0))) :
    ∃ v, wC.cell? ⟨g, k, none⟩ = some v ∧ wC.frozen? ⟨g, k, none⟩ = false ∧ (wC.setCell ⟨g, k, none⟩ (.slice (some ⟨R, 0, none⟩) n n)).ownsRow w.heap.size 33 1 (.slice (some ⟨g, 0, none⟩) n n) n (half (upd VR k (.slice (some ⟨R, 0, none⟩) n n)) (k + 1) n) ∧
      TT (wC.setCell ⟨g, k, none⟩ (.slice (some ⟨R, 0, none⟩) n n)) w.heap.size (k + 1) (upd VR k (.slice (some ⟨R, 0, none⟩) n n)) (rowN t n) ∧ w.heap.size ≤ g := by
  have hOC := ownN_below hO hb
  have hTC := hT.below hb
  obtain ⟨v, hv⟩ := own_cell hOC (j := k) (by omega) (by simp [half])
  obtain ⟨⟨cs, hc⟩, hgB, _⟩ := own_heap hOC (g := g) rfl
  have hgR : g ≠ R := types_apart hc hrow (by decide)
  have hst := (hOC.stored k (.slice (some ⟨R, 0, none⟩) n n)).1
  rw [half_get hk] at hst
  refine ⟨v, hv, hOC.frozenAt k, hst, ⟨fun j hj => ?_, fun i j g' hi hj h1 h2 => ?_⟩, hgB⟩
  · by_cases e : j = k
    · subst e
      rw [upd_at, rowN_len]
      refine ⟨by simp [rowN], .inr ⟨R, n, _, rfl, by omega, (Below.heap_setCell wC _ _ R (fun e => hgR e.symm)).trans hrow, Nat.le_refl _, by unfold maxLen; omega, by simp, ?_⟩⟩
      simp only [rowN, Nat.mul_one]
      exact List.take_of_length_le (by simp)
    · rw [upd_other _ _ e]
      exact (hTC.store (g := g) (k := k) (v := .slice (some ⟨R, 0, none⟩) n n) hc (by decide)).own j (by omega)
  · have hlt : ∀ {i}, i < k → (VR i).ownBlock = some g' → g' < wr.heap.size := fun hi e => (own_heap (hT.own _ hi) e).2.2
    by_cases e1 : i = k <;> by_cases e2 : j = k
    · omega
    · rw [e1, upd_at] at h1; rw [upd_other _ _ e2] at h2
      have : R = g' := by simpa [Value.ownBlock] using h1
      have := hlt (by omega) h2; omega
    · rw [e2, upd_at] at h2; rw [upd_other _ _ e1] at h1
      have : R = g' := by simpa [Value.ownBlock] using h2
      have := hlt (by omega) h1; omega
    · rw [upd_other _ _ e1] at h1; rw [upd_other _ _ e2] at h2
      exact hT.dis i j g' (by omega) (by omega) h1 h2

set_option maxHeartbeats 1600000 in
theorem iTreeTable_any (A : Option Addr) (c n : Nat) (ts : List (Int × Int)) (w : World) (hr : RdR w w.heap.size A ts) (hn : ts.length = n) (hc : n ≤ c) (hb : n ≤ 1152921504606846976) :
    Calls Try.prog 20 #[.slice A n c] w (TabAns w ts) := by
  obtain ⟨ii, hii, hzi0, hzi1, hzi2⟩ := info_parts intInfo
  obtain ⟨is, his, hzs0, hzs1, hzs2⟩ := info_parts slInfo2
  by_cases hv : vt ts = true
  · obtain ⟨h1, h7, -⟩ := (vt_iff ts).1 hv
    rw [hn] at h1 h7
    have H1 := Lib.hid (iValidTree_is A c n ts w _ hr hn hc hb (Nat.le_refl _) hv)
    have Hv := Lib.hid hv
    have Hn := Lib.hid hn
    have Hr := Lib.hid hr
    clear hv hr hn
    go_enter Try.func20, Try.ntmps20
    go_wp2_with fail
    refine H1.out.mono ?_
    rintro e w2 ⟨rfl, hnx2⟩
    have Hl := Lib.hid (linked_any A c n ts w2 ((Hr.out.below hnx2).more hnx2.size) Hn.out hc Hv.out)
    have HB2 := Lib.hid hnx2
    clear hnx2
    go_wp2_with fail
    refine Hl.out.mono ?_
    rintro e w3 ⟨v, P, RV, rfl, hlk, hown, hnx3⟩
    rw [Hn.out] at hlk hown
    obtain ⟨A', c', rfl, -, -, hA⟩ := own_sliceN hown
    obtain ⟨gn, rfl, -, -⟩ := hA (by omega)
    have hb3 := HB2.out.trans (hnx3.mono HB2.out.size)
    have HLK := Lib.hid hlk
    have HON := Lib.hid hown
    have HB3 := Lib.hid hb3
    clear hlk hown hnx3 hA hb3
    have hbi : is.bytes * n ≤ 281474976710656 := by rw [hzs2]; omega
    have hml : n ≤ maxLen := by unfold maxLen; omega
    go_wp2_with (at_make; refine wpList_make_full _ rfl _ _ 27 rfl w.heap.size 33 is _ 1 Try.underlying27 his hzs0 hzs1 _ _ _ _ n rfl rfl rfl rfl hbi hml HB3.out.size ?_; intro w4 hown4 hg4)
    have hb4 : Below w3.heap.size w3 w4 := (Below.refl _ _).grown hg4 (Nat.le_refl _) (fun j hj => by cases hj)
    have ho4 : w4.ownsRow w.heap.size 33 1 (.slice (some ⟨w3.heap.size, 0, none⟩) n n) n (half (fun _ => .slice none 0 0) 0 n) := by
      rw [Nat.mul_one] at hown4
      have e : (madeCells (Value.slice none 0 0).cells n).toList = half (fun _ => .slice none 0 0) 0 n := by
        rw [show (Value.slice none 0 0).cells = #[Value.slice none 0 0] from rfl, toList_madeCells_one]
        unfold half
        apply List.ext_getElem?
        intro i
        by_cases hi : i < n <;> simp [hi]
      rw [← e]; exact hown4
    have hbm : ii.bytes * n ≤ 281474976710656 := by rw [hzi2]; omega
    obtain ⟨G, HG⟩ : ∃ G, Hid (w3.heap.size = G) := ⟨_, rfl⟩
    rw [HG.out]
    rw [HG.out] at ho4
    have HO4 := Lib.hid ho4
    have HB4 := Lib.hid hb4
    clear hown4 hg4 ho4 hb4
    go_loopw [18] (fun i wr => TabRel2 w w3 ts n G i wr) (fun i _ => n - (intOf i).toNat)
    case atStart => exact ⟨0, fun _ => .slice none 0 0, Nat.zero_le _, rfl, HO4.out, ⟨fun j hj => by omega, fun i j g hi => by omega⟩, HB4.out⟩
    case round =>
      clear HO4 HB4
      obtain ⟨k, VR, hk, rfl, hO, hT, hnx⟩ := hrel
      by_cases hlt : k < n
      · have cn : wr.cell? ⟨gn, k, none⟩ = some (.pointer (some ⟨P k, 0, none⟩)) := by
          rw [hnx.cell (p := ⟨gn, k, none⟩) (own_heap HON.out (g := gn) rfl).2.2, HON.out.cellAt k (by omega)]
          simp [ptrs, ptr, hlt]
        have hwsz : w.heap.size ≤ wr.heap.size := Nat.le_trans HB3.out.size hnx.size
        have HO := Lib.hid hO
        have HT := Lib.hid hT
        have HB := Lib.hid hnx
        clear hO hT hnx
        go_wp2_with (at_make; refine wpList_make_full _ rfl _ _ 33 rfl wr.heap.size 3 ii _ 1 Try.underlying33 hii hzi0 hzi1 _ _ _ _ n rfl rfl rfl rfl hbm hml (Nat.le_refl _) ?_; intro wA hownA hgA)
        have hbA : Below wr.heap.size wr wA := (Below.refl _ _).grown hgA (Nat.le_refl _) (fun j hj => by cases hj)
        have hzero : (madeCells (Value.int .i64 0).cells (n * 1)).toList = (List.replicate n (0 : Int)).map (Value.int .i64) := by
          rw [made_ints]; simp
        rw [hzero] at hownA
        have hAb := own_blockN hownA
        have hRA := (own_heap hownA (g := wr.heap.size) rfl).2.2
        have hbB := (Below.refl wA.heap.size wA).alloc (Nat.le_refl _) (.cells #[.slice (some ⟨wr.heap.size, 0, none⟩) n n] 33)
        have hb3B := (HB.out.trans (hbA.mono HB.out.size)).trans (hbB.mono (Nat.le_trans HB.out.size hbA.size))
        have hcall := treeRow_walk (w4 := wA.alloc (.cells #[.slice (some ⟨wr.heap.size, 0, none⟩) n n] 33)) (R := wr.heap.size) (rb := wA.heap.size) (vt_ahead Hv.out) Hn.out h7 hlt (HLK.out.below hb3B) ((heap_alloc_old wA _ hRA).trans hAb) (Nat.ne_of_gt hRA)
          (by rw [cell_of_row _ _ _ _ _ _ (heap_alloc_new wA _)]; rfl)
        have Hcall := Lib.hid hcall
        have HbA := Lib.hid hbA
        have HbB := Lib.hid hbB
        have HRA := Lib.hid hRA
        clear hbA hzero hownA hAb hRA hbB hb3B hcall hgA
        go_wp2_with fail
        refine Hcall.out.mono ?_
        rintro e wC ⟨rfl, hrow, hgC⟩
        have hbC : Below wr.heap.size wr wC := (HbA.out.trans (HbB.out.mono HbA.out.size)).grown hgC (Nat.le_trans HbA.out.size HbB.out.size) (fun j hj => by injection hj with hj; omega)
        have crb : wC.cell? ⟨wA.heap.size, 0, none⟩ = some (.slice (some ⟨wr.heap.size, 0, none⟩) n n) := by
          rw [cell_of_row _ _ _ _ _ _ (grown_node hgC (heap_alloc_new wA _) (fun e => by injection e with e; have := HRA.out; omega))]; rfl
        obtain ⟨vg, hvg, hfg, hst, hTT, hgB⟩ := tab2_step hlt h7 HT.out HO.out hbC (Nat.le_refl _) hwsz hrow
        have hgw : w3.heap.size ≤ G := Nat.le_of_eq HG.out
        have hb5 := (HB.out.trans (hbC.mono HB.out.size)).setCell (p := ⟨G, k, none⟩) hgw (.slice (some ⟨wr.heap.size, 0, none⟩) n n)
        have HST := Lib.hid hst
        have HTT := Lib.hid hTT
        have HB5 := Lib.hid hb5
        clear hst hTT hb5 hbC hrow hgC cn
        go_wp2
        go_roundw
        case rel => exact ⟨k + 1, _, by omega, by go_num, HST.out, HTT.out, HB5.out⟩
        case measure => simp [intOf]; omega
      · have hkn : k = n := by omega
        subst hkn
        have HO := Lib.hid hO
        have HT := Lib.hid hT
        clear hO hT
        go_wp2
        go_ret
        refine .inr ⟨Hv.out, _, VR, rfl, ?_, by rw [Hn.out]; exact HT.out, HB3.out.trans (hnx.mono HB3.out.size)⟩
        rw [Hn.out]
        have := HO.out
        unfold Outer
        have e : half VR k k = (List.range k).map VR := List.map_congr_left fun i hi => if_pos (List.mem_range.1 hi)
        rw [← e]; exact this
  · have hv' : vt ts = false := by simpa using hv
    have H1 := Lib.hid (iValidTree_is A c n ts w _ hr hn hc hb (Nat.le_refl _) hv')
    have Hv := Lib.hid hv'
    clear hv hv' hr hn
    go_enter Try.func20, Try.ntmps20
    go_wp2_with fail
    refine H1.out.mono ?_
    rintro e w2 ⟨rfl, hnx2⟩
    have HB2 := Lib.hid hnx2
    clear hnx2
    go_wp2
    go_ret
    exact .inl ⟨Hv.out, rfl, HB2.out⟩
end Go.Proofs.Ytkgomgfhhhdnjab
namespace Go.Proofs.Ytkgomgfhhhdnjab
open Go.ChangeShapes Go.WideShapes Go.ChangeAt Go.RowKit
set_option linter.unusedVariables false
set_option maxRecDepth 4000

/-- The numbers from k on. -/
def mk (k : Int) (n : Nat) : List Int := (List.range n).map fun (i : Nat) => k + (i : Int)
theorem mk_len (k : Int) (n : Nat) : (mk k n).length = n := by simp [mk]
theorem mk_get {k : Int} {n i : Nat} (h : i < n) : (mk k n).getD i 0 = k + i := by simp [mk, List.getD, h]
/-- The first k elements are marks, the others as they were. -/
def mkL (k : Int) (zs : List Int) (m : Nat) : List Value := ((mk k m) ++ zs.drop m).map (Value.int .i64)
theorem mkL_step {w : World} {B b n cap m : Nat} {t : TypeId} {k : Int} {zs : List Int} (hm : m < zs.length) (hown : w.ownsRow B t 1 (.slice (some ⟨b, 0, none⟩) n cap) n (mkL k zs m)) :
    (w.setCell ⟨b, m, none⟩ (Value.int .i64 (k + m))).ownsRow B t 1 (.slice (some ⟨b, 0, none⟩) n cap) n (mkL k zs (m + 1)) := by
  have h := (hown.stored m (Value.int .i64 (k + m))).1
  have e : (mkL k zs m).set m (Value.int .i64 (k + m)) = mkL k zs (m + 1) := by
    unfold mkL
    rw [← List.map_set]
    congr 1
    apply List.ext_getElem?
    intro i
    rw [List.getElem?_set]
    by_cases e : m = i
    · subst e
      rw [if_pos rfl, if_pos (by simp [mk_len]; omega), List.getElem?_append_left (by simp [mk_len])]
      simp [mk]
    · rw [if_neg e]
      by_cases hi : i < m
      · rw [List.getElem?_append_left (by simp [mk_len, hi]), List.getElem?_append_left (by simp [mk_len]; omega)]
        simp [mk, hi, show i < m + 1 by omega]
      · rw [List.getElem?_append_right (by simp [mk_len]; omega), List.getElem?_append_right (by simp [mk_len]; omega)]
        simp only [mk_len, List.getElem?_drop]
        congr 1; omega
  rw [e] at h
  exact h
def MarkPost (B g n cap : Nat) (k : Int) (w : World) (e : Ending) (w' : World) : Prop :=
  e = .returned (.int .i64 (k + n)) ∧ w'.ownsRow B 3 1 (.slice (some ⟨g, 0, none⟩) n cap) n ((mk k n).map (Value.int .i64)) ∧ w.grownBy w' (some g)
set_option maxHeartbeats 800000 in
theorem markI_any (w : World) (B g n cap : Nat) (k : Int) (zs : List Int) (hown : w.ownsRow B 3 1 (.slice (some ⟨g, 0, none⟩) n cap) n (zs.map (Value.int .i64))) (hn : zs.length = n) (hn7 : n ≤ 1048576) (hk0 : 0 ≤ k) (hk : k ≤ 100000000) :
    Calls Try.prog 100 #[.slice (some ⟨g, 0, none⟩) n cap, .int .i64 k] w (MarkPost B g n cap k w) := by
  have Hn := Lib.hid hn
  have Hown := Lib.hid hown
  clear hn hown
  go_enter Try.func100, Try.ntmps100
  go_wp2
  go_loopw [1, 5] (fun a i wr => ∃ m : Nat, m ≤ n ∧ i = .int .i64 m ∧ a = .int .i64 (k + m) ∧ wr.ownsRow B 3 1 (.slice (some ⟨g, 0, none⟩) n cap) n (mkL k zs m) ∧ w.grownBy wr (some g)) (fun _ i _ => n - (intOf i).toNat)
  case atStart => exact ⟨0, by omega, rfl, by simp, by simpa [mkL, mk] using Hown.out, ⟨rfl, rfl, rfl, Nat.le_refl _, fun _ _ _ => rfl⟩⟩
  case round =>
    obtain ⟨m, hm, rfl, rfl, hown, hg⟩ := hrel
    by_cases hlt : m < n
    · have hst := mkL_step (by rw [Hn.out]; exact hlt) hown
      obtain ⟨v, hv⟩ := own_cell hown (j := m) (by omega) (by unfold mkL; simp [mk_len, Hn.out]; omega)
      have hf := hown.frozenAt m
      have hgs := (hown.stored m (.int .i64 (k + m))).2
      have HST := Lib.hid hst
      have HG := Lib.hid (gb_trans hg hgs (.inl rfl))
      clear hst hgs hown hg
      go_wp2
      go_roundw
      case rel => exact ⟨m + 1, by omega, by go_num, by congr 1; omega, HST.out, HG.out⟩
      case measure => simp [intOf]; omega
    · have hmn : m = n := by omega
      subst hmn
      have HO := Lib.hid hown
      clear hown
      go_wp2
      go_ret
      refine ⟨rfl, ?_, hg⟩
      have := HO.out
      unfold mkL at this
      rw [List.drop_of_length_le (by rw [Hn.out]; omega), List.append_nil] at this
      exact this
set_option maxHeartbeats 800000 in
theorem heldI_any (w : World) (B n c : Nat) (k : Int) (A : Option Addr) (hr : RdI w B A (mk k n)) (hn7 : n ≤ 1048576) (hk0 : 0 ≤ k) (hk : k ≤ 100000000) :
    Calls Try.prog 101 #[.slice A n c, .int .i64 k] w fun e w' => e = .returned (.int .i64 (k + n)) ∧ w = w' := by
  go_enter Try.func101, Try.ntmps101
  go_wp2
  go_loop [1, 5] (fun a i => ∃ m : Nat, m ≤ n ∧ i = .int .i64 m ∧ a = .int .i64 (k + m)) (fun _ i => n - (intOf i).toNat)
  case atStart => exact ⟨0, by omega, rfl, by simp⟩
  case round =>
    obtain ⟨m, hm, rfl, rfl⟩ := hrel
    by_cases hlt : m < n
    · obtain ⟨b, off, x, rfl, -, Hx, hcx⟩ := hr.x (k := m) (by rw [mk_len]; exact hlt)
      have hx := Hx.out
      rw [mk_get hlt] at hx
      subst hx
      have hb1 : (k + (m : Int) != k + (m : Int)) = false := by simp
      go_wp2
      go_round
      case rel => exact ⟨m + 1, by omega, by go_num, by congr 1; omega⟩
      case measure => simp [intOf]; omega
    · have hmn : m = n := by omega
      subst hmn
      go_wp2
      go_ret
      exact ⟨rfl, rfl⟩
end Go.Proofs.Ytkgomgfhhhdnjab
namespace Go.Proofs.Ytkgomgfhhhdnjab
open Go.ChangeShapes Go.WideShapes Go.ChangeAt Go.RowKit
set_option linter.unusedVariables false
set_option maxRecDepth 4000

set_option maxHeartbeats 1600000 in
theorem eqSS_any (w : World) (B B' m c c' : Nat) (A A' : Option Addr) (VR VR' : Nat → Value) (ls : Nat → List Int) (hO : Outer w B m (.slice A m c) VR) (hT : TT w B m VR ls) (hO' : Outer w B' m (.slice A' m c') VR') (hT' : TT w B' m VR' ls) (hm : m ≤ 7) (hl : ∀ j, j < m → (ls j).length ≤ 7) :
    Calls Try.prog 45 #[.slice A m c, .slice A' m c'] w fun e w' => e = .returned (.bool true) ∧ ∃ q, w' = w.drewN q := by
  have HO := Lib.hid hO
  have HT := Lib.hid hT
  have HO' := Lib.hid hO'
  have HT' := Lib.hid hT'
  have HL := Lib.hid hl
  have hs : ∀ {B : Nat} {A : Option Addr} {c : Nat} {VR : Nat → Value}, Outer w B m (.slice A m c) VR → 0 < m → ∃ g, A = some ⟨g, 0, none⟩ := fun h hp => by
    obtain ⟨A2, c2, e, _, _, h3⟩ := own_sliceN h
    obtain ⟨g, e2, _⟩ := h3 hp
    injection e with e _ _
    exact ⟨g, e.trans e2⟩
  have HS1 := Lib.hid (hs hO)
  have HS2 := Lib.hid (hs hO')
  clear hO hT hO' hT' hl hs
  go_enter Try.func45, Try.ntmps45
  go_wp2
  go_loopw [5] (fun i wr => ∃ k : Nat, ∃ q, k ≤ m ∧ i = .int .i64 k ∧ wr = w.drewN q) (fun i _ => m - (intOf i).toNat)
  case atStart => exact ⟨0, 0, by omega, rfl, rfl⟩
  case round =>
    obtain ⟨k, q, hk, rfl, rfl⟩ := hrel
    by_cases hlt : k < m
    · obtain ⟨g, rfl⟩ := HS1.out (by omega)
      obtain ⟨g', rfl⟩ := HS2.out (by omega)
      obtain ⟨A1, c1, e1, hr1⟩ := HT.out.row hlt
      obtain ⟨A2, c2, e2, hr2⟩ := HT'.out.row hlt
      have cc1 := Outer.cell HO.out hlt
      have cc2 := Outer.cell HO'.out hlt
      rw [e1] at cc1
      rw [e2] at cc2
      obtain ⟨n, Hn⟩ : ∃ n, Hid ((ls k).length = n) := ⟨_, rfl⟩
      have hn7 := HL.out k hlt
      rw [Hn.out] at cc1 cc2 hn7
      have HR1 := Lib.hid (hr1.drewN q)
      have HR2 := Lib.hid (hr2.drewN q)
      have cq1 : (w.drewN q).cell? ⟨g, k, none⟩ = some (.slice A1 n c1) := cc1
      have cq2 : (w.drewN q).cell? ⟨g', k, none⟩ = some (.slice A2 n c2) := cc2
      have Hq : Hid (∀ m, (w.drewN q).drewN m = w.drewN (q + m)) := fun m => World.drewN_drewN _ _ _
      clear hr1 hr2 e1 e2 cc1 cc2
      go_wp2
      generalize w.drewN q = wq at HR1 HR2 cq1 cq2 Hq ⊢
      go_quiet (exact Calls.quiet_of (eqInt_same A1 A2 c1 c2 n n (ls k) _ w.heap.size w.heap.size (HR1.out.drewN _) Hn.out (HR2.out.drewN _) Hn.out (by omega)))
      go_wp2
      go_roundw
      case rel => exact ⟨k + 1, _, by omega, by go_num, Hq.out _⟩
      case measure => simp [intOf]; omega
    · go_wp2
      go_ret
      exact ⟨rfl, _, rfl⟩
end Go.Proofs.Ytkgomgfhhhdnjab
namespace Go.Proofs.Ytkgomgfhhhdnjab
open Go.ChangeShapes Go.WideShapes Go.ChangeAt Go.RowKit
set_option linter.unusedVariables false
set_option maxRecDepth 4000

theorem nearSetsT_any (w : World) (B n g0 c : Nat) (far : Int) (VR : Nat → Value) (t : List (Int × Int)) (hn1 : 1 ≤ n) (hn7 : n ≤ 7) (hO : Outer w B n (.slice (some ⟨g0, 0, none⟩) n c) VR) (hT : TT w B n VR (rowN t n)) :
    Calls Try.prog 78 #[.slice (some ⟨g0, 0, none⟩) n c, .int .i64 far] w (SetsPost (dn t n) far n w) :=
  nearSets_any w B n g0 c far VR (dn t n) hn1 hn7 hO hT
end Go.Proofs.Ytkgomgfhhhdnjab
