/-
  A walk over the program's tree, for the visit TreeTable$1, which writes into one block: walk, walked.
  Conditions: none beyond what each theorem states.
  The visit of TreeTable: a row's element is written.
  Conditions: none beyond what each theorem states.
  The model's table of a tree: rows that grow in turn.
  Conditions: the roads are a tree.
  The model's table of a tree, walked.
  Conditions: the roads are a tree.
-/
import Derived.Test.YtdhelapgdgekfaaZ11
import Derived.Test.YtdhelapgdgekfaaZ2
import Derived.Laws.EntriesVeiled
namespace Go.Proofs.Ytdhelapgdgekfaa
open Go.ChangeShapes Go.WideShapes Go.ChangeAt Go.RowKit
set_option linter.unusedVariables false
set_option maxRecDepth 4000

/-- What a visit does: block R's content goes on from C L to C of L and the visited. -/
def VisitT (w0 : World) (P : Nat → Nat) (R n : Nat) (c1 : Value) (C : List (Nat × Int) → Obj) (F : List (Nat × Int)) : Prop :=
  ∀ (w : World) (L : List (Nat × Int)) (i : Nat) (x : Int), w0.grownBy w (some R) → w.heap[R]? = some (C L) → (L ++ [(i, x)]) <+: F → i < n →
    Calls Try.prog 56 #[.pointer (some ⟨P i, 0, none⟩), .int .i64 x, c1] w fun e w' => e = .returned (.tuple #[]) ∧ w'.heap[R]? = some (C (L ++ [(i, x)])) ∧ w.grownBy w' (some R)
/-- goOn, from node a, come to from f, with way x: all that is visited is M behind a. -/
def GoOnT (w0 : World) (P : Nat → Nat) (R bv bg : Nat) (C : List (Nat × Int) → Obj) (F : List (Nat × Int)) (a : Nat) (f : Option Nat) (x : Int) (M : List (Nat × Int)) : Prop :=
  ∀ (w : World) (L : List (Nat × Int)), w0.grownBy w (some R) → w.heap[R]? = some (C L) → (L ++ ((a, x) :: M)) <+: F →
    Calls Try.prog 97 #[.pointer (some ⟨P a, 0, none⟩), .pointer (fromA P f), .int .i64 x, .pointer (some ⟨bv, 0, none⟩), .pointer (some ⟨bg, 0, none⟩)] w fun e w' => e = .returned (.tuple #[]) ∧ w'.heap[R]? = some (C (L ++ ((a, x) :: M))) ∧ w.grownBy w' (some R)
/-- What the loop over a node's roads keeps. -/
def RoadsRelT (w0 w1 : World) (R n : Nat) (C : List (Nat × Int) → Obj) (F L : List (Nat × Int)) (t : List (Int × Int)) (a : Nat) (f : Option Nat) (x : Int) (M : List (Nat × Int)) (i : Value) (wr : World) : Prop :=
  ∃ k : Nat, ∃ M1 M2, i = .int .i64 k ∧ k ≤ (nb t n a).length ∧ M = M1 ++ M2 ∧ VisL (nb t n) a f x ((nb t n a).drop k) M2 ∧ w1.grownBy wr (some R) ∧ wr.heap[R]? = some (C (L ++ ((a, x) :: M1)))

set_option maxHeartbeats 1600000 in
theorem goOnT_step (w0 : World) (P : Nat → Nat) (RV : Nat → Value) (B R n bv bg : Nat) (c1 : Value) (C : List (Nat × Int) → Obj) (F : List (Nat × Int)) (t : List (Int × Int)) (ht : Ahead t) (hn : n ≤ t.length) (hn7 : n ≤ 7)
    (hlk : LkN w0 B n P RV t) (hRt : ∃ cs ty fz, w0.heap[R]? = some (.cells cs ty fz) ∧ ty ≠ 69 ∧ ty ≠ 107) (hbv : bv ≠ R) (hbg : bg ≠ R)
    (hv : w0.cell? ⟨bv, 0, none⟩ = some (.func (.func 56) #[] #[c1])) (hg : w0.cell? ⟨bg, 0, none⟩ = some (.func (.func 97) #[] #[.pointer (some ⟨bv, 0, none⟩), .pointer (some ⟨bg, 0, none⟩)])) (hvis : VisitT w0 P R n c1 C F) (hF : ∀ y ∈ F, 0 ≤ y.2 ∧ y.2 ≤ 1000000)
    (m : Nat) (ih : ∀ a f x M, M.length < m → a < n → (∀ g, f = some g → g < n) → VisL (nb t n) a f x (nb t n a) M → GoOnT w0 P R bv bg C F a f x M)
    (a : Nat) (f : Option Nat) (x : Int) (M : List (Nat × Int)) (hM : M.length = m) (ha : a < n) (hf : ∀ g, f = some g → g < n) (hV : VisL (nb t n) a f x (nb t n a) M) : GoOnT w0 P R bv bg C F a f x M := by
  intro w L hgw hL hpre
  obtain ⟨cs, ty, fz, hRc, hR1, hR2⟩ := hRt
  have Hvis := Lib.hid hvis
  have Hih := Lib.hid ih
  have HV := Lib.hid hV
  have hcf : ∀ {w' : World} {b : Nat} {v : Value}, w0.grownBy w' (some R) → b ≠ R → w0.cell? ⟨b, 0, none⟩ = some v → w'.cell? ⟨b, 0, none⟩ = some v := fun hg hne hc =>
    (World.cell?_of_block (hg.block _ (World.block_lt_of_cell? w0 _ hc) (fun e => hne (by injection e)))).trans hc
  have Hcf := Lib.hid (fun (w' : World) (hg' : w0.grownBy w' (some R)) => (⟨hcf hg' hbv hv, hcf hg' hbg hg⟩ : w'.cell? ⟨bv, 0, none⟩ = some (.func (.func 56) #[] #[c1]) ∧ w'.cell? ⟨bg, 0, none⟩ = some (.func (.func 97) #[] #[.pointer (some ⟨bv, 0, none⟩), .pointer (some ⟨bg, 0, none⟩)])))
  have Hlk := Lib.hid (fun (w' : World) (hg' : w0.grownBy w' (some R)) => hlk.kept hg' (fun g e _ => by injection e with e; subst e; exact ⟨cs, ty, fz, hRc, hR1, hR2⟩))
  clear hvis ih hV hlk hcf hv hg hRc
  obtain ⟨cv, cg⟩ := Hcf.out w hgw
  have hpre1 : (L ++ [(a, x)]) <+: F := by
    obtain ⟨r, hr⟩ := hpre
    exact ⟨M ++ r, by rw [← hr]; simp⟩
  have hcall := Hvis.out w L a x hgw hL hpre1 ha
  have Hcall := Lib.hid hcall
  have Hpre := Lib.hid hpre
  have HF := Lib.hid hF
  have Hgw := Lib.hid hgw
  clear hcall hpre hpre1 hF hL hgw
  go_enter Try.func97, Try.ntmps97
  go_wp2_with fail
  refine Hcall.out.mono ?_
  rintro e w1 ⟨rfl, h1, hg1⟩
  have hg01 := grown_trans Hgw.out hg1
  have lk1 := Hlk.out w1 hg01
  obtain ⟨-, -, -, c3, -⟩ := lk1.cells ha
  obtain ⟨A, cA, hrv, hA1, hA2, hA3⟩ := own_sliceN (lk1.own a ha)
  rw [hrv] at c3
  have H1 := Lib.hid h1
  have Hg1 := Lib.hid hg1
  have Hg01 := Lib.hid hg01
  have Lk1 := Lib.hid lk1
  have Hrv := Lib.hid hrv
  have HA3 := Lib.hid hA3
  obtain ⟨N, HN⟩ : ∃ N, Hid ((nb t n a).length = N) := ⟨_, rfl⟩
  have hN7 : N ≤ 7 := by have := nb_len t n a; rw [HN.out] at this; omega
  rw [HN.out] at c3 hA1
  clear h1 hg1 hg01 lk1 hrv hA3 cv cg
  go_wp2
  go_loopw [19] (fun i wr => RoadsRelT w0 w1 R n C F L t a f x M i wr) (fun i _ => N - (intOf i).toNat)
  case atStart => exact ⟨0, [], M, rfl, Nat.zero_le _, rfl, HV.out, grown_refl _ _, H1.out⟩
  case round =>
    obtain ⟨k, M1, M2, rfl, hk, hMM, hV2, hgr, hCr⟩ := hrel
    rw [HN.out] at hk
    by_cases hlt : k < N
    · have hg0r := grown_trans Hg01.out hgr
      have lkr := Hlk.out wr hg0r
      obtain ⟨cvr, cgr⟩ := Hcf.out wr hg0r
      obtain ⟨g, rfl, hgB, hgl⟩ := HA3.out (by rw [HN.out]; omega)
      have ow := lkr.own a ha
      rw [Hrv.out, HN.out] at ow
      obtain ⟨⟨b, l⟩, hbl⟩ : ∃ y, (nb t n a).getD k (0, 0) = y := ⟨_, rfl⟩
      have hkl : k < (nb t n a).length := by rw [HN.out]; exact hlt
      have hbm : (b, l) ∈ nb t n a := by rw [← hbl]; simp only [List.getD, List.getElem?_eq_getElem hkl]; exact List.getElem_mem hkl
      have hbn := nb_lt ht n hn a ha b l hbm
      have hdrop : (nb t n a).drop k = (b, l) :: (nb t n a).drop (k + 1) := by
        rw [List.drop_eq_getElem_cons hkl]
        congr 1
        rw [← hbl]; simp [List.getD, List.getElem?_eq_getElem hkl]
      have ce : wr.cell? ⟨g, k * 2, none⟩ = some (.pointer (some ⟨P b, 0, none⟩)) := by
        rw [ow.cellAt (k * 2) (by omega), brv_ptr P _ k hkl, hbl]; rfl
      have cl : wr.cell? ⟨g, k * 2 + 1, none⟩ = some (.int .i64 l) := by
        rw [ow.cellAt (k * 2 + 1) (by omega), brv_int P _ k hkl, hbl]
      rw [hdrop] at hV2
      have HV2 := Lib.hid hV2
      have Hg0r := Lib.hid hg0r
      have Hgr := Lib.hid hgr
      have Lkr := Lib.hid lkr
      have HCr := Lib.hid hCr
      have HMM := Lib.hid hMM
      clear hV2 hg0r hgr lkr hCr hMM ow hbl hdrop hbm
      by_cases hfb : f = some b
      · subst hfb
        have hV3 : Hid (VisL (nb t n) a (some b) x ((nb t n a).drop (k + 1)) M2) := by
          have h := HV2.out
          cases h with
          | skip _ h => exact h
          | go h _ _ => exact absurd rfl h
        simp only [fromA]
        have hb1 : ∀ o, (binOp .neq 65 (.pointer (some ⟨P b, 0, none⟩)) (.pointer (some ⟨P b, 0, none⟩))).run Try.prog (wr.alloc o) = .ok (.bool false) (wr.alloc o) := fun o => neq_same _ _
        go_wp2
        go_roundw
        case rel => exact ⟨k + 1, M1, M2, by go_num, by rw [HN.out]; omega, HMM.out, hV3.out, gb_trans Hgr.out (World.grownBy_alloc wr _ none) (.inr (fun g h => by cases h)), by
          rw [heap_alloc_old wr _ (Array.getElem?_eq_some_iff.1 HCr.out).1]; exact HCr.out⟩
        case measure => simp [intOf]; omega
      · obtain ⟨M3, M4, hM2, hW, hV3⟩ : ∃ M3 M4, M2 = (b, x + l) :: (M3 ++ M4) ∧ VisL (nb t n) b (some a) (x + l) (nb t n b) M3 ∧ VisL (nb t n) a f x ((nb t n a).drop (k + 1)) M4 := by
          have h := HV2.out
          cases h with
          | skip h _ => exact absurd h hfb
          | go _ h1 h2 => exact ⟨_, _, rfl, h1, h2⟩
        have hlen : M3.length < m := by
          rw [← hM, HMM.out, hM2]; simp; omega
        have hpre3 : ((L ++ ((a, x) :: M1)) ++ ((b, x + l) :: M3)) <+: F := by
          obtain ⟨r, hr⟩ := Hpre.out
          exact ⟨M4 ++ r, by rw [← hr, HMM.out, hM2]; simp⟩
        have hxl := HF.out (b, x + l) (by obtain ⟨r, hr⟩ := hpre3; rw [← hr]; simp)
        simp only at hxl
        have hgA : ∀ o, w0.grownBy (wr.alloc o) (some R) := fun o => gb_trans Hg0r.out (World.grownBy_alloc wr o none) (.inr (fun g h => by cases h))
        have hcall : ∀ o, Calls Try.prog 97 #[.pointer (some ⟨P b, 0, none⟩), .pointer (some ⟨P a, 0, none⟩), .int .i64 (x + l), .pointer (some ⟨bv, 0, none⟩), .pointer (some ⟨bg, 0, none⟩)] (wr.alloc o) fun e w' => e = .returned (.tuple #[]) ∧ w'.heap[R]? = some (C ((L ++ ((a, x) :: M1)) ++ ((b, x + l) :: M3))) ∧ (wr.alloc o).grownBy w' (some R) := fun o =>
          Hih.out b (some a) (x + l) M3 hlen hbn (fun g e => by injection e with e; omega) hW (wr.alloc o) (L ++ ((a, x) :: M1)) (hgA o) (by rw [heap_alloc_old wr _ (Array.getElem?_eq_some_iff.1 HCr.out).1]; exact HCr.out) hpre3
        have Hcall2 := Lib.hid hcall
        have hcgo : ∀ o, (wr.alloc o).cell? ⟨bg, 0, none⟩ = some (.func (.func 97) #[] #[.pointer (some ⟨bv, 0, none⟩), .pointer (some ⟨bg, 0, none⟩)]) := fun o => (Hcf.out _ (hgA o)).2
        have hne : ∀ o, (binOp .neq 65 (.pointer (some ⟨P b, 0, none⟩)) (.pointer (fromA P f))).run Try.prog (wr.alloc o) = .ok (.bool true) (wr.alloc o) := fun o =>
          neq_from (Lkr.out.below ((Below.refl _ _).alloc (Nat.le_refl _) o)) hbn hf hfb
        have HM2 := Lib.hid hM2
        have HV3 := Lib.hid hV3
        clear hcall hgA hpre3 hlen hW hV3 hM2 hfb cvr cgr
        go_wp2_with fail
        refine (Hcall2.out _).mono ?_
        rintro e w3 ⟨rfl, h3, hg3⟩
        have hg13 := gb_trans (gb_trans Hgr.out (World.grownBy_alloc wr _ none) (.inr (fun g h => by cases h))) hg3 (.inl rfl)
        have H3 := Lib.hid h3
        have Hg13 := Lib.hid hg13
        clear h3 hg3 hg13 ce cl hcgo hne
        go_wp2
        go_roundw
        case rel => exact ⟨k + 1, M1 ++ ((b, x + l) :: M3), M4, by go_num, by rw [HN.out]; omega, by rw [HMM.out, HM2.out]; simp, HV3.out, Hg13.out, by simpa using H3.out⟩
        case measure => simp [intOf]; omega
    · have hd : (nb t n a).drop k = [] := List.drop_of_length_le (by rw [HN.out]; omega)
      rw [hd] at hV2
      have hM2 : M2 = [] := by cases hV2; rfl
      subst hM2
      rw [List.append_nil] at hMM
      subst hMM
      have Hend := Lib.hid hCr
      have Hgr := Lib.hid hgr
      clear hd hV2 hCr hgr
      go_wp2
      go_end0
      exact ⟨rfl, Hend.out, grown_trans Hg1.out Hgr.out⟩
theorem goOnT_any (w0 : World) (P : Nat → Nat) (RV : Nat → Value) (B R n bv bg : Nat) (c1 : Value) (C : List (Nat × Int) → Obj) (F : List (Nat × Int)) (t : List (Int × Int)) (ht : Ahead t) (hn : n ≤ t.length) (hn7 : n ≤ 7)
    (hlk : LkN w0 B n P RV t) (hRt : ∃ cs ty fz, w0.heap[R]? = some (.cells cs ty fz) ∧ ty ≠ 69 ∧ ty ≠ 107) (hbv : bv ≠ R) (hbg : bg ≠ R)
    (hv : w0.cell? ⟨bv, 0, none⟩ = some (.func (.func 56) #[] #[c1])) (hg : w0.cell? ⟨bg, 0, none⟩ = some (.func (.func 97) #[] #[.pointer (some ⟨bv, 0, none⟩), .pointer (some ⟨bg, 0, none⟩)])) (hvis : VisitT w0 P R n c1 C F) (hF : ∀ y ∈ F, 0 ≤ y.2 ∧ y.2 ≤ 1000000) :
    ∀ m a f x M, M.length ≤ m → a < n → (∀ g, f = some g → g < n) → VisL (nb t n) a f x (nb t n a) M → GoOnT w0 P R bv bg C F a f x M
  | 0, a, f, x, M, hm, ha, hf, hV => goOnT_step w0 P RV B R n bv bg c1 C F t ht hn hn7 hlk hRt hbv hbg hv hg hvis hF 0 (fun _ _ _ _ h => by omega) a f x M (by omega) ha hf hV
  | m + 1, a, f, x, M, hm, ha, hf, hV =>
    goOnT_step w0 P RV B R n bv bg c1 C F t ht hn hn7 hlk hRt hbv hbg hv hg hvis hF M.length (fun a f x M' h => goOnT_any w0 P RV B R n bv bg c1 C F t ht hn hn7 hlk hRt hbv hbg hv hg hvis hF m a f x M' (by omega)) a f x M rfl ha hf hV

theorem VisitT.later {w w0 : World} {P : Nat → Nat} {R n : Nat} {c1 : Value} {C : List (Nat × Int) → Obj} {F : List (Nat × Int)} (h : VisitT w P R n c1 C F) (hg : w.grownBy w0 (some R)) : VisitT w0 P R n c1 C F :=
  fun w' L i x h1 h2 h3 h4 => h w' L i x (grown_trans hg h1) h2 h3 h4
set_option maxHeartbeats 800000 in
theorem walkT_any (w : World) (P : Nat → Nat) (RV : Nat → Value) (B R n : Nat) (c1 : Value) (C : List (Nat × Int) → Obj) (t : List (Int × Int)) (ht : Ahead t) (hn : n ≤ t.length) (hn7 : n ≤ 7)
    (hlk : LkN w B n P RV t) (hRt : ∃ cs ty fz, w.heap[R]? = some (.cells cs ty fz) ∧ ty ≠ 69 ∧ ty ≠ 107) (hC : w.heap[R]? = some (C []))
    (a : Nat) (f : Option Nat) (M : List (Nat × Int)) (ha : a < n) (hf : ∀ g, f = some g → g < n) (hV : VisL (nb t n) a f 0 (nb t n a) M) (hvis : VisitT w P R n c1 C ((a, 0) :: M)) (hF : ∀ y ∈ (a, (0 : Int)) :: M, 0 ≤ y.2 ∧ y.2 ≤ 1000000) :
    Calls Try.prog 55 #[.pointer (some ⟨P a, 0, none⟩), .pointer (fromA P f), .func (.func 56) #[] #[c1]] w fun e w' => e = .returned (.tuple #[]) ∧ w'.heap[R]? = some (C ((a, 0) :: M)) ∧ w.grownBy w' (some R) := by
  have hRlt : R < w.heap.size := (Array.getElem?_eq_some_iff.1 hC).1
  have H := Lib.hid (fun (w0 : World) (b0 : Below w.heap.size w w0) (g0 : w.grownBy w0 (some R)) (bv bg : Nat) (h1 : w.heap.size ≤ bv) (h2 : w.heap.size ≤ bg)
      (hv : w0.cell? ⟨bv, 0, none⟩ = some (.func (.func 56) #[] #[c1])) (hg : w0.cell? ⟨bg, 0, none⟩ = some (.func (.func 97) #[] #[.pointer (some ⟨bv, 0, none⟩), .pointer (some ⟨bg, 0, none⟩)])) =>
    goOnT_any w0 P RV B R n bv bg c1 C ((a, 0) :: M) t ht hn hn7 (hlk.below b0) (by
      obtain ⟨cs, ty, fz, hc, r⟩ := hRt
      exact ⟨cs, ty, fz, (b0.block R hRlt).trans hc, r⟩) (by omega) (by omega) hv hg (hvis.later g0) hF M.length a f 0 M (Nat.le_refl _) ha hf hV w0 [] (grown_refl _ _) ((b0.block R hRlt).trans hC) (List.prefix_rfl))
  have b1 := (Below.refl w.heap.size w).alloc (Nat.le_refl _) (.cells #[.func (.func 56) #[] #[c1]] 70)
  have b2 := b1.alloc b1.size (.cells #[.func (.func 97) #[] #[.pointer (some ⟨w.heap.size, 0, none⟩), .pointer (some ⟨w.heap.size + 1, 0, none⟩)]] 108)
  have g2 := gb_trans (World.grownBy_alloc w (.cells #[.func (.func 56) #[] #[c1]] 70) (some R)) (World.grownBy_alloc _ (.cells #[.func (.func 97) #[] #[.pointer (some ⟨w.heap.size, 0, none⟩), .pointer (some ⟨w.heap.size + 1, 0, none⟩)]] 108) none) (.inr (fun g h => by cases h))
  have H2 := Lib.hid (H.out _ b2 g2 w.heap.size (w.heap.size + 1) (by omega) (by omega) (by
      rw [cell_of_row _ _ _ _ _ (0, 0) ((heap_alloc_old _ _ (by rw [size_alloc1]; omega)).trans (heap_alloc_new w _))]; rfl) (by
      have e := heap_alloc_new (w.alloc (.cells #[.func (.func 56) #[] #[c1]] 70)) (.cells #[.func (.func 97) #[] #[.pointer (some ⟨w.heap.size, 0, none⟩), .pointer (some ⟨w.heap.size + 1, 0, none⟩)]] 108)
      rw [size_alloc1] at e
      rw [cell_of_row _ _ _ _ _ _ e]; rfl))
  have G2 := Lib.hid g2
  clear hlk hRt hC hV hvis hF H b1 b2 g2
  go_enter Try.func55, Try.ntmps55
  go_wp2_with fail
  refine H2.out.mono ?_
  rintro e w3 ⟨rfl, h3, hg3⟩
  have hg4 := gb_trans G2.out hg3 (.inl rfl)
  have H3 := Lib.hid h3
  have H4 := Lib.hid hg4
  clear h3 hg3 hg4
  go_wp2
  go_end0
  exact ⟨rfl, H3.out, H4.out⟩
end Go.Proofs.Ytdhelapgdgekfaa
namespace Go.Proofs.Ytdhelapgdgekfaa
open Go.ChangeShapes Go.WideShapes Go.ChangeAt Go.RowKit
set_option linter.unusedVariables false
set_option maxRecDepth 4000

/-- The row after the visits. -/
def trow (n : Nat) : List (Nat × Int) → List Int → List Int
  | [], r => r
  | y :: L, r => trow n L (r.set y.1 y.2)
theorem trow_append (n : Nat) : ∀ L y r, trow n (L ++ [y]) r = (trow n L r).set y.1 y.2
  | [], y, r => rfl
  | z :: L, y, r => trow_append n L y (r.set z.1 z.2)
theorem trow_len (n : Nat) : ∀ L r, (trow n L r).length = r.length
  | [], r => rfl
  | z :: L, r => by simp only [trow]; rw [trow_len n L]; simp
theorem trow_keep (n : Nat) {d : Nat → Int} : ∀ {L : List (Nat × Int)} {r : List Int} {j : Nat}, (∀ y ∈ L, y.2 = d y.1) → j < r.length → r.getD j 0 = d j → (trow n L r).getD j 0 = d j
  | [], r, j, _, _, h => h
  | z :: L, r, j, hd, hj, h => by
    simp only [trow]
    refine trow_keep n (fun y hy => hd y (List.mem_cons_of_mem _ hy)) (by simpa using hj) ?_
    simp only [List.getD, List.getElem?_set]
    by_cases e : z.1 = j
    · rw [if_pos e, if_pos (by omega), hd z (List.mem_cons_self ..), e]; rfl
    · rw [if_neg e]; exact h
theorem trow_get (n : Nat) {d : Nat → Int} : ∀ {L : List (Nat × Int)} {r : List Int} {j : Nat}, (∀ y ∈ L, y.2 = d y.1) → j < r.length → (∃ y ∈ L, y.1 = j) → (trow n L r).getD j 0 = d j
  | [], r, j, _, _, h => by obtain ⟨y, hy, _⟩ := h; cases hy
  | z :: L, r, j, hd, hj, h => by
    simp only [trow]
    by_cases e : z.1 = j
    · refine trow_keep n (fun y hy => hd y (List.mem_cons_of_mem _ hy)) (by simpa using hj) ?_
      simp only [List.getD, List.getElem?_set]
      rw [if_pos e, if_pos (by omega), hd z (List.mem_cons_self ..), e]; rfl
    · refine trow_get n (fun y hy => hd y (List.mem_cons_of_mem _ hy)) (by simpa using hj) ?_
      obtain ⟨y, hy, e'⟩ := h
      rcases List.mem_cons.1 hy with h | h
      · subst h; exact absurd e' e
      · exact ⟨y, h, e'⟩
def rowObj (n : Nat) (L : List (Nat × Int)) : Obj := .cells ((trow n L (List.replicate n 0)).map (Value.int .i64)).toArray 3 (0, 0)
theorem rowObj_cells (n : Nat) (L : List (Nat × Int)) : rowObj n L = .cells ((trow n L (List.replicate n 0)).map (Value.int .i64)).toArray 3 (0, 0) := rfl

set_option maxHeartbeats 800000 in
theorem visitT_any (w0 : World) (P : Nat → Nat) (RV : Nat → Value) (B R rb n : Nat) (F : List (Nat × Int)) (t : List (Int × Int)) (hlk : LkN w0 B n P RV t)
    (hR : ∃ cs, w0.heap[R]? = some (.cells cs 3 (0, 0))) (hrb : rb ≠ R) (hcr : w0.cell? ⟨rb, 0, none⟩ = some (.slice (some ⟨R, 0, none⟩) n n)) :
    VisitT w0 P R n (.pointer (some ⟨rb, 0, none⟩)) (rowObj n) F := by
  intro w L i x hg hL hpre hi
  obtain ⟨cs, hRc⟩ := hR
  have lk := hlk.kept hg (fun g e _ => by injection e with e; subst e; exact ⟨cs, _, _, hRc, by decide, by decide⟩)
  obtain ⟨c0, -, -, -, -⟩ := lk.cells hi
  have crb : w.cell? ⟨rb, 0, none⟩ = some (.slice (some ⟨R, 0, none⟩) n n) := (World.cell?_of_block (hg.block _ (World.block_lt_of_cell? w0 _ hcr) (fun e => hrb (by injection e)))).trans hcr
  have hlen : ((trow n L (List.replicate n 0)).map (Value.int .i64)).length = n := by rw [List.length_map, trow_len]; simp
  obtain ⟨v, cR⟩ : ∃ v, w.cell? ⟨R, i, none⟩ = some v := by
    rw [cell_of_row _ _ _ _ _ _ hL]
    exact ⟨_, by rw [List.getElem?_toArray]; exact List.getElem?_eq_getElem (by rw [hlen]; exact hi)⟩
  have fR : w.frozen? ⟨R, i, none⟩ = false := frozen_of_row _ _ _ _ _ hL
  have hst : (w.setCell ⟨R, i, none⟩ (.int .i64 x)).heap[R]? = some (rowObj n (L ++ [(i, x)])) := by
    unfold rowObj at hL ⊢
    rw [trow_append]
    simp [World.setCell, Array.getElem?_modify, hL, List.map_set]
  have hgr : w.grownBy (w.setCell ⟨R, i, none⟩ (.int .i64 x)) (some R) := ⟨rfl, rfl, rfl, by simp [World.setCell], fun k hk hne => Below.heap_setCell w _ _ k (by rintro rfl; exact hne rfl)⟩
  have HS := Lib.hid hst
  have HG := Lib.hid hgr
  clear hst hgr hg hL hpre lk hcr hRc hlen
  go_enter Try.func56, Try.ntmps56
  go_wp2_with fail
  go_region
  go_wp2
  go_end0
  exact ⟨rfl, HS.out, ⟨HG.out.os, HG.out.tape, HG.out.output, HG.out.size, HG.out.block⟩⟩
/-- A walk from node k writes the row of node k. -/
theorem treeRow_walk {w4 : World} {P : Nat → Nat} {RV : Nat → Value} {B R rb n k : Nat} {t : List (Int × Int)} (ht : Ahead t) (hn : t.length = n) (hn7 : n ≤ 7) (hk : k < n) (hlk : LkN w4 B n P RV t)
    (hR : w4.heap[R]? = some (.cells ((List.replicate n (0 : Int)).map (Value.int .i64)).toArray 3 (0, 0))) (hrb : rb ≠ R) (hcr : w4.cell? ⟨rb, 0, none⟩ = some (.slice (some ⟨R, 0, none⟩) n n)) :
    Calls Try.prog 55 #[.pointer (some ⟨P k, 0, none⟩), .pointer none, .func (.func 56) #[] #[.pointer (some ⟨rb, 0, none⟩)]] w4 fun e w' => e = .returned (.tuple #[]) ∧ w'.heap[R]? = some (.cells (((List.range n).map fun j => dn t n k j).map (Value.int .i64)).toArray 3 (0, 0)) ∧ w4.grownBy w' (some R) := by
  obtain ⟨M, hV, hs⟩ := walks_all ht n (by omega) k hk 0
  have hway := visited_way hs
  have hvis := visitT_any w4 P RV B R rb n ((k, 0) :: M) t hlk ⟨_, hR⟩ hrb hcr
  refine (walkT_any w4 P RV B R n _ (rowObj n) t ht (by omega) hn7 hlk ⟨_, _, _, hR, by decide, by decide⟩ hR k none M hk (fun g e => by cases e) hV hvis (fun y hy => by
    obtain ⟨h1, _, h2⟩ := hway y hy
    have := dn_bd ht n k y.1 (by omega) hk h1
    omega)).mono ?_
  rintro e w' ⟨he, hh, hg⟩
  refine ⟨he, ?_, hg⟩
  rw [hh]
  unfold rowObj
  have e1 : trow n ((k, 0) :: M) (List.replicate n 0) = (List.range n).map fun j => dn t n k j := by
    apply List.ext_getElem
    · rw [trow_len]; simp
    · intro j h1 h2
      have hj : j < n := by simpa using h2
      have := trow_get n (d := fun j => dn t n k j) (L := (k, 0) :: M) (r := List.replicate n 0) (j := j) (fun y hy => by have := (hway y hy).2.2; omega) (by simpa using hj) ⟨_, visited_all hs hj trivial, rfl⟩
      simp only [List.getD, List.getElem?_eq_getElem h1, Option.getD_some] at this
      rw [this]; simp
  rw [e1]
end Go.Proofs.Ytdhelapgdgekfaa
namespace Go.Proofs.Ytdhelapgdgekfaa
open Go.ChangeShapes Go.WideShapes Go.ChangeAt Go.RowKit
set_option linter.unusedVariables false
set_option maxRecDepth 4000

def rowN (t : List (Int × Int)) (n j : Nat) : List Int := (List.range n).map fun k => dn t n j k
theorem rowN_len (t : List (Int × Int)) (n j : Nat) : (rowN t n j).length = n := by simp [rowN]
theorem rowN_get (t : List (Int × Int)) {n j k : Nat} (hk : k < n) : (rowN t n j).getD k 0 = dn t n j k := by simp [rowN, List.getD, hk]
theorem rowN_step (t : List (Int × Int)) {n j : Nat} (hj : j < n) : rowN t (n + 1) j = rowN t n j ++ [dn t (n + 1) j n] := by
  unfold rowN
  rw [List.range_succ, List.map_append]
  congr 1
  exact List.map_congr_left fun k hk => dn_old hj (List.mem_range.1 hk)
/-- The rows in the inner loop: those below k have grown, the last one grows. -/
def lsK (t : List (Int × Int)) (i k : Nat) : Nat → List Int := fun j => if j = i then (List.range k).map (fun k => dn t (i + 1) i k) else if j < k then rowN t (i + 1) j else rowN t i j
theorem lsK_get {t : List (Int × Int)} {i k p : Nat} (hp : p < i) (hk : k < i) : (lsK t i k p).getD k 0 = dn t i p k ∧ k < (lsK t i k p).length := by
  unfold lsK
  rw [if_neg (by omega)]
  split
  · rw [rowN_get t (by omega), rowN_len]; exact ⟨dn_old hp hk, by omega⟩
  · rw [rowN_get t (by omega), rowN_len]; exact ⟨rfl, hk⟩
theorem lsK_step {t : List (Int × Int)} {i k : Nat} (hk : k < i) : ∀ j, upd (upd (lsK t i k) i (lsK t i k i ++ [dn t (i + 1) i k])) k (upd (lsK t i k) i (lsK t i k i ++ [dn t (i + 1) i k]) k ++ [dn t (i + 1) i k]) j = lsK t i (k + 1) j := by
  intro j
  have e1 : upd (lsK t i k) i (lsK t i k i ++ [dn t (i + 1) i k]) k = rowN t i k := by
    rw [upd_other _ _ (by omega)]
    unfold lsK
    rw [if_neg (by omega), if_neg (by omega)]
  rw [e1]
  by_cases ek : j = k
  · subst ek
    rw [upd_at]
    unfold lsK
    rw [if_neg (by omega), if_pos (by omega), rowN_step t hk, dn_symm t (i + 1) i j]
  · rw [upd_other _ _ ek]
    by_cases ei : j = i
    · subst ei
      rw [upd_at]
      unfold lsK
      rw [if_pos rfl, if_pos rfl, List.range_succ, List.map_append]; rfl
    · rw [upd_other _ _ ei]
      unfold lsK
      rw [if_neg ei, if_neg ei]
      by_cases h : j < k
      · rw [if_pos h, if_pos (by omega)]
      · rw [if_neg h, if_neg (by omega)]
theorem lsK_end {t : List (Int × Int)} {i : Nat} : ∀ j, j < i + 1 → upd (lsK t i i) i (lsK t i i i ++ [0]) j = rowN t (i + 1) j := by
  intro j hj
  by_cases e : j = i
  · subst e
    rw [upd_at]
    unfold lsK rowN
    rw [if_pos rfl, List.range_succ, List.map_append]
    simp only [List.map_cons, List.map_nil]
    rw [dn_diag t (j + 1) j (by omega)]
  · rw [upd_other _ _ e]
    unfold lsK
    rw [if_neg e, if_pos (by omega)]
theorem lsK_start {t : List (Int × Int)} {i : Nat} : ∀ j, j < i + 1 → upd (rowN t i) i [] j = lsK t i 0 j := by
  intro j hj
  by_cases e : j = i
  · subst e; rw [upd_at]; unfold lsK; rw [if_pos rfl]; rfl
  · rw [upd_other _ _ e]; unfold lsK; rw [if_neg e, if_neg (by omega)]
/-- The table as it is handed back. -/
def Tabled (w : World) (t : List (Int × Int)) (e : Ending) (w' : World) : Prop :=
  ∃ v VR, e = .returned v ∧ Outer w' w.heap.size t.length v VR ∧ TT w' w.heap.size t.length VR (rowN t t.length) ∧ Below w.heap.size w w'
def TabRel (w : World) (t : List (Int × Int)) (v i : Value) (wr : World) : Prop :=
  ∃ k : Nat, ∃ VR g cA, k ≤ t.length ∧ i = .int .i64 k ∧ v = .slice (some ⟨g, 0, none⟩) k cA ∧ Outer wr w.heap.size k v VR ∧ TT wr w.heap.size k VR (rowN t k) ∧ Below w.heap.size w wr
def RowRel (w : World) (t : List (Int × Int)) (n : Nat) (g c : Nat) (r i : Value) (wr : World) : Prop :=
  ∃ k : Nat, ∃ VR, k ≤ n ∧ i = .int .i64 k ∧ r = VR n ∧ Outer wr w.heap.size n (.slice (some ⟨g, 0, none⟩) n c) VR ∧ TT wr w.heap.size (n + 1) VR (lsK t n k) ∧ Below w.heap.size w wr
/-- The new row has grown. -/
theorem tab_first {w wq w2 : World} {t : List (Int × Int)} {m k g cA g2 c2 : Nat} {VR : Nat → Value} {x : Int} {o : Obj} (hT : TT wq w.heap.size (m + 1) VR (lsK t m k)) (hO : Outer wq w.heap.size m (.slice (some ⟨g, 0, none⟩) m cA) VR) (hB : Below w.heap.size w wq) (hlk : k < m)
    (hown : w2.ownsRow w.heap.size 3 1 (.slice (some ⟨g2, 0, none⟩) (k + 1) c2) (k + 1) ((lsK t m k m).map (Value.int .i64) ++ [.int .i64 x])) (hg : (wq.alloc o).grownBy w2 (VR m).ownBlock) (hat : (VR m).ownBlock = some g2 ∨ g2 = (wq.alloc o).heap.size) :
    ∃ gk ck, TT w2 w.heap.size (m + 1) (upd VR m (.slice (some ⟨g2, 0, none⟩) (k + 1) c2)) (upd (lsK t m k) m (lsK t m k m ++ [x])) ∧ Outer w2 w.heap.size m (.slice (some ⟨g, 0, none⟩) m cA) VR ∧ Below w.heap.size w w2 ∧
      VR k = .slice (some ⟨gk, 0, none⟩) m ck ∧ w2.ownsRow w.heap.size 3 1 (.slice (some ⟨gk, 0, none⟩) m ck) m ((rowN t m k).map (Value.int .i64)) ∧ w2.cell? ⟨g, k, none⟩ = some (.slice (some ⟨gk, 0, none⟩) m ck) := by
  have hW := (Below.refl wq.heap.size wq).alloc (Nat.le_refl _) o
  have hlm : (lsK t m k m).length = k := by unfold lsK; rw [if_pos rfl]; simp
  have hT2 := hT.append (d := x) (by omega) hW hg hown (by rw [hlm]) hat
  have ho2 := hO.kept hT (r := m) (by omega) hW hg
  have hb2 := (hB.trans (hW.mono hB.size)).grown hg (by rw [size_alloc1]; have := hB.size; omega) (fun g h => (own_heap (hT.own m (by omega)) h).2.1)
  have hlk2 : upd (lsK t m k) m (lsK t m k m ++ [x]) k = rowN t m k := by
    rw [upd_other _ _ (by omega)]; unfold lsK; rw [if_neg (by omega), if_neg (by omega)]
  have hok := hT2.own k (by omega)
  obtain ⟨Ak, ck, hvk, hk3, hk4, hk5⟩ := own_sliceN hok
  rw [hlk2, rowN_len] at hvk hok hk3 hk5
  obtain ⟨gk, rfl, hgk1, hgk2⟩ := hk5 (by omega)
  rw [hvk] at hok
  rw [upd_other _ _ (by omega)] at hvk
  have cok := Outer.cell ho2 hlk
  rw [hvk] at cok
  exact ⟨gk, ck, hT2, ho2, hb2, hvk, hok, cok⟩
/-- The old row has grown too, and lies in the table again. -/
theorem tab_second {w w2 w3 : World} {t : List (Int × Int)} {m k g cA gk ck g3 c3 : Nat} {VR : Nat → Value} {v1 : Value} {x : Int} {o : Obj} (hT : TT w2 w.heap.size (m + 1) (upd VR m v1) (upd (lsK t m k) m (lsK t m k m ++ [x]))) (hO : Outer w2 w.heap.size m (.slice (some ⟨g, 0, none⟩) m cA) VR) (hB : Below w.heap.size w w2) (hlk : k < m)
    (hvk : VR k = .slice (some ⟨gk, 0, none⟩) m ck) (hx : dn t (m + 1) m k = x)
    (hown : w3.ownsRow w.heap.size 3 1 (.slice (some ⟨g3, 0, none⟩) (m + 1) c3) (m + 1) ((rowN t m k).map (Value.int .i64) ++ [.int .i64 x])) (hg : (w2.alloc o).grownBy w3 (Value.slice (some ⟨gk, 0, none⟩) m ck).ownBlock)
    (hat : (Value.slice (some ⟨gk, 0, none⟩) m ck).ownBlock = some g3 ∨ g3 = (w2.alloc o).heap.size) :
    ∃ v3 VR3, w3.cell? ⟨g, k, none⟩ = some v3 ∧ w3.frozen? ⟨g, k, none⟩ = false ∧ VR3 m = v1 ∧ Outer (w3.setCell ⟨g, k, none⟩ (.slice (some ⟨g3, 0, none⟩) (m + 1) c3)) w.heap.size m (.slice (some ⟨g, 0, none⟩) m cA) VR3 ∧
      TT (w3.setCell ⟨g, k, none⟩ (.slice (some ⟨g3, 0, none⟩) (m + 1) c3)) w.heap.size (m + 1) VR3 (lsK t m (k + 1)) ∧ Below w.heap.size w (w3.setCell ⟨g, k, none⟩ (.slice (some ⟨g3, 0, none⟩) (m + 1) c3)) := by
  have hW3 := (Below.refl w2.heap.size w2).alloc (Nat.le_refl _) o
  have hvk' : upd VR m v1 k = .slice (some ⟨gk, 0, none⟩) m ck := by rw [upd_other _ _ (by omega)]; exact hvk
  have hlk2 : upd (lsK t m k) m (lsK t m k m ++ [x]) k = rowN t m k := by
    rw [upd_other _ _ (by omega)]; unfold lsK; rw [if_neg (by omega), if_neg (by omega)]
  have hT3 := hT.append (d := x) (r := k) (by omega) hW3 (by rw [hvk']; exact hg) (by rw [hlk2]; exact hown) (by rw [hlk2, rowN_len]) (by rw [hvk']; exact hat)
  have ho3 := hO.kept hT (r := k) (by omega) hW3 (by rw [hvk']; exact hg)
  have hb3 := (hB.trans (hW3.mono hB.size)).grown hg (by rw [size_alloc1]; have := hB.size; omega) (fun g h => by
    have := hT.own k (by omega)
    rw [hvk'] at this
    exact (own_heap this h).2.1)
  obtain ⟨v3, hv3⟩ := own_cell ho3 (j := k) (by omega) (by simp)
  have hf3 := World.ownsRow.frozenAt ho3 k
  have hst := (ho3.stored (k := k) (v := .slice (some ⟨g3, 0, none⟩) (m + 1) c3) hlk).congr (VR' := upd (upd VR m v1) k (.slice (some ⟨g3, 0, none⟩) (m + 1) c3)) (fun j hj => by
    by_cases e : j = k
    · rw [e, upd_at, upd_at]
    · rw [upd_other _ _ e, upd_other _ _ e, upd_other _ _ (by omega)])
  obtain ⟨⟨csg3, hcg3⟩, hgB3, -⟩ := own_heap ho3 (g := g) rfl
  refine ⟨v3, _, hv3, hf3, ?_, hst, (hT3.store (g := g) (k := k) (v := .slice (some ⟨g3, 0, none⟩) (m + 1) c3) hcg3 (by decide)).congr (fun j _ => ?_), hb3.setCell (p := ⟨g, k, none⟩) hgB3 _⟩
  · rw [upd_other _ _ (by omega), upd_at]
  · rw [← hx]; exact lsK_step hlk j
/-- The new row is whole. -/
theorem tab_end1 {w wq w2 : World} {t : List (Int × Int)} {m g cA g2 c2 : Nat} {VR : Nat → Value} {o : Obj} (hT : TT wq w.heap.size (m + 1) VR (lsK t m m)) (hO : Outer wq w.heap.size m (.slice (some ⟨g, 0, none⟩) m cA) VR) (hB : Below w.heap.size w wq)
    (hown : w2.ownsRow w.heap.size 3 1 (.slice (some ⟨g2, 0, none⟩) (m + 1) c2) (m + 1) ((lsK t m m m).map (Value.int .i64) ++ [.int .i64 0])) (hg : (wq.alloc o).grownBy w2 (VR m).ownBlock) (hat : (VR m).ownBlock = some g2 ∨ g2 = (wq.alloc o).heap.size) :
    TT w2 w.heap.size (m + 1) (upd VR m (.slice (some ⟨g2, 0, none⟩) (m + 1) c2)) (rowN t (m + 1)) ∧ Outer w2 w.heap.size m (.slice (some ⟨g, 0, none⟩) m cA) VR ∧ Below w.heap.size w w2 := by
  have hW := (Below.refl wq.heap.size wq).alloc (Nat.le_refl _) o
  have hlm : (lsK t m m m).length = m := by unfold lsK; rw [if_pos rfl]; simp
  refine ⟨(hT.append (d := 0) (by omega) hW hg hown (by rw [hlm]) hat).congr (lsK_end (t := t)), hO.kept hT (r := m) (by omega) hW hg, (hB.trans (hW.mono hB.size)).grown hg (by rw [size_alloc1]; have := hB.size; omega) (fun g h => (own_heap (hT.own m (by omega)) h).2.1)⟩
/-- The new row lies in the table. -/
theorem tab_end2 {w w2 w3 : World} {t : List (Int × Int)} {m g cA g3 c3 : Nat} {VR : Nat → Value} {v : Value} {o : Obj} (hT : TT w2 w.heap.size (m + 1) (upd VR m v) (rowN t (m + 1))) (hO : Outer w2 w.heap.size m (.slice (some ⟨g, 0, none⟩) m cA) VR) (hB : Below w.heap.size w w2)
    (hown : w3.ownsRow w.heap.size 37 1 (.slice (some ⟨g3, 0, none⟩) (m + 1) c3) (m + 1) ((List.range m).map VR ++ [v])) (hg : (w2.alloc o).grownBy w3 (Value.slice (some ⟨g, 0, none⟩) m cA).ownBlock) :
    Outer w3 w.heap.size (m + 1) (.slice (some ⟨g3, 0, none⟩) (m + 1) c3) (upd VR m v) ∧ TT w3 w.heap.size (m + 1) (upd VR m v) (rowN t (m + 1)) ∧ Below w.heap.size w w3 := by
  have hW := (Below.refl w2.heap.size w2).alloc (Nat.le_refl _) o
  obtain ⟨⟨cs, hc⟩, hB2, _⟩ := own_heap (ownN_below hO hW) (g := g) rfl
  refine ⟨?_, (hT.below hW).keptBy hg (fun g' e => ?_), (hB.trans (hW.mono hB.size)).grown hg (by rw [size_alloc1]; have := hB.size; omega) (fun g' e => ?_)⟩
  · unfold Outer
    rw [List.range_succ, List.map_append]
    simp only [List.map_cons, List.map_nil, upd_at]
    rw [List.map_congr_left (g := VR) (fun i hi => upd_other VR v (by have := List.mem_range.1 hi; omega))]
    exact hown
  · have : g = g' := by simpa [Value.ownBlock] using e
    subst this
    exact ⟨cs, _, hc, by decide⟩
  · have : g = g' := by simpa [Value.ownBlock] using e
    subst this
    exact hB2
end Go.Proofs.Ytdhelapgdgekfaa
namespace Go.Proofs.Ytdhelapgdgekfaa
open Go.ChangeShapes Go.WideShapes Go.ChangeAt Go.RowKit
set_option linter.unusedVariables false
set_option maxRecDepth 4000

set_option maxHeartbeats 1600000 in
theorem treeTable_any (A : Option Addr) (c n : Nat) (t : List (Int × Int)) (w : World) (hr : RdR w w.heap.size A t) (hn : t.length = n) (hv : vt t = true) :
    Calls Try.prog 59 #[.slice A n c] w (Tabled w t) := by
  obtain ⟨ii, hii, hzi0, hzi1, hzi2⟩ := info_parts intInfo
  obtain ⟨is, his, hzs0, hzs1, hzs2⟩ := info_parts slInfo2
  obtain ⟨h1, h7, -⟩ := (vt_iff t).1 hv
  have Hn := Lib.hid hn
  have Hv := Lib.hid hv
  have ha := Lib.hid (vt_ahead hv)
  rw [hn] at h1 h7
  clear hn hv
  have hb0 := (Below.refl w.heap.size w).alloc (Nat.le_refl _) (.cells #[] 37)
  have ho0 : Outer (w.alloc (.cells #[] 37)) w.heap.size 0 (.slice (some ⟨w.heap.size, 0, none⟩) 0 0) (fun _ => .nilIface) := World.ownsRow_lit w #[] 0 (Nat.le_refl _) (by decide) rfl
  have ht0 : TT (w.alloc (.cells #[] 37)) w.heap.size 0 (fun _ => .nilIface) (rowN t 0) := ⟨fun j hj => by omega, fun i j g hi => by omega⟩
  have HB0 := Lib.hid hb0
  have HO0 := Lib.hid ho0
  have HT0 := Lib.hid ht0
  clear hb0 ho0 ht0
  go_enter Try.func59, Try.ntmps59
  go_wp2
  go_loopw [3, 4] (fun v i wr => TabRel w t v i wr) (fun _ i _ => n - (intOf i).toNat)
  case atStart => exact ⟨0, _, _, _, Nat.zero_le _, rfl, rfl, HO0.out, HT0.out, HB0.out⟩
  case round =>
    clear HO0 HT0 HB0
    obtain ⟨m, VR, g, cA, hm, rfl, rfl, ho, hT, hnx⟩ := hrel
    rw [Hn.out] at hm
    by_cases hlt : m < n
    · have hg0 := (own_heap ho (g := g) rfl)
      have hb1 := hnx.alloc hnx.size (.cells #[] 3)
      have hT1 := (hT.add hnx.size).congr (lsK_start (t := t))
      have ho1 := Outer.congr (VR' := upd VR m (.slice (some ⟨wr.heap.size, 0, none⟩) 0 0)) (ownN_below ho ((Below.refl _ _).alloc (Nat.le_refl _) (.cells #[] 3))) (fun j hj => by rw [upd_other _ _ (by omega)])
      have HB1 := Lib.hid hb1
      have HT1 := Lib.hid hT1
      have HO1 := Lib.hid ho1
      clear hb1 hT1 ho1 ho hT hnx hg0
      go_wp2
      go_loopw [5, 6] (fun r i wr => RowRel w t m g cA r i wr) (fun _ i _ => m - (intOf i).toNat)
      case atStart => exact ⟨0, _, Nat.zero_le _, rfl, (upd_at _ _ _).symm, HO1.out, HT1.out, HB1.out⟩
      case round =>
        clear HO1 HT1 HB1
        obtain ⟨k, VR', hk, rfl, rfl, ho, hT, hnx⟩ := hrel
        by_cases hlk : k < m
        · obtain ⟨b, off, x, y, rfl, -, Hx, hcx, hcy⟩ := (hr.below hnx).x (k := m) (by rw [Hn.out]; exact hlt)
          have hx := vt_to Hv.out (i := m) (by omega) (by rw [Hn.out]; exact hlt)
          obtain ⟨hp, hy1, hy9⟩ := ha.out m (by omega) (by rw [Hn.out]; exact hlt)
          have hy : tlg t m = y := by unfold tlg; rw [Hx.out]
          rw [Hx.out] at hx
          simp only at hx
          subst hx
          rw [hy] at hy1 hy9
          obtain ⟨p, Hp⟩ : ∃ p, Hid (tto t m = p) := ⟨_, rfl⟩
          rw [Hp.out] at hp hcx
          obtain ⟨hd1, hd2⟩ := lsK_get (t := t) hp hlk
          obtain ⟨gp, cp, hvp, hcp⟩ := hT.cells (j := p) (k := k) (by omega) hd2
          have hop := Outer.cell ho hp
          rw [hvp] at hop
          rw [hd1] at hcp
          obtain ⟨lp, Hlp⟩ : ∃ lp, Hid ((lsK t m k p).length = lp) := ⟨_, rfl⟩
          rw [Hlp.out] at hop hd2
          obtain ⟨d, Hd⟩ : ∃ d, Hid (dn t m p k = d) := ⟨_, rfl⟩
          rw [Hd.out] at hcp
          have hdb := dn_bd ha.out m p k (by rw [Hn.out]; omega) hp hlk
          rw [Hd.out] at hdb
          have hdd : dn t (m + 1) m k = d + y := by rw [dn_new hlk, Hp.out, Hd.out, hy]
          have HDD := Lib.hid hdd
          have w1 : IntKind.i64.wrap (d + y) = d + y := IntWalk.i64_in _ (by omega)
          have HO := Lib.hid ho
          have HT := Lib.hid hT
          have HB := Lib.hid hnx
          clear ho hT hnx hdd hd1 hvp
          go_wp2
          go_quiet (fail)
          clear hop hcp hcx hcy w1
          have hT0 := HT.out.drewN nq
          have ho0 := HO.out.drewN nq
          have hb0 := below_drewN HB.out nq
          generalize wr.drewN nq = wq at hT0 ho0 hb0 ⊢
          have HT := Lib.hid hT0
          have HO := Lib.hid ho0
          have HB := Lib.hid hb0
          clear hT0 ho0 hb0
          have hlm : (lsK t m k m).length = k := by unfold lsK; rw [if_pos rfl]; simp
          have hom := HT.out.own m (by omega)
          rw [hlm] at hom
          have Hom := Lib.hid hom
          have Hlm := Lib.hid hlm
          have hk1 : k + 1 ≤ maxLen := by unfold maxLen; omega
          have hk2 : (k + 1) * 8 ≤ 140737488355328 := by omega
          have hsz : ∀ o, w.heap.size ≤ (wq.alloc o).heap.size := fun o => by rw [size_alloc1]; have := HB.out.size; omega
          clear hom hlm
          have hm1 : m + 1 ≤ maxLen := by unfold maxLen; omega
          have hm2 : (m + 1) * 8 ≤ 140737488355328 := by omega
          have hs8 : ∀ (w' : World) o, Below w.heap.size w w' → w.heap.size ≤ (w'.alloc o).heap.size := fun w' o h => by rw [size_alloc1]; have := h.size; omega
          have Hs8 := Lib.hid hs8
          have h1c : ∀ u ∈ [Value.int .i64 (d + y)], u.oneCell' = true := by intro u hu; simp at hu; subst hu; rfl
          have H1c := Lib.hid h1c
          clear hs8 hsz h1c
          go_wp2_with (
            first
            | (
              at_builtin
              refine wpList_append_lies _ rfl _ _ 37 rfl w.heap.size 3 ii _ 1 8 Try.underlying37 hii hzi0 hzi1 hzi2 rfl (by decide) _ _ _ rfl (Hom.out.alloc _) ⟨wq.heap.size, 0, none⟩ 1 1 [.int .i64 (d + y)] rfl rfl (cell_one_new _ _ _) H1c.out (by decide) hk1 hk2 (Hs8.out _ _ HB.out) _ rfl ?_
              intro g2 c2 w2 hown2 hgrow2 hat2 hlt2
              obtain ⟨gk, ck, hT2, ho2, hb2, hvk, hok, cok⟩ := tab_first HT.out HO.out HB.out hlk hown2 hgrow2 hat2
              have HT2 := Lib.hid hT2
              have HO2 := Lib.hid ho2
              have HB2 := Lib.hid hb2
              have Hok := Lib.hid hok
              have Hvk := Lib.hid hvk
              clear hown2 hgrow2 hat2 hlt2 hT2 ho2 hb2 hok hvk)
            | (
              at_builtin
              refine wpList_append_lies _ rfl _ _ 37 rfl w.heap.size 3 ii _ 1 8 Try.underlying37 hii hzi0 hzi1 hzi2 rfl (by decide) _ _ _ rfl (Hok.out.alloc _) ⟨w2.heap.size, 0, none⟩ 1 1 [.int .i64 (d + y)] rfl rfl (cell_one_new _ _ _) H1c.out (by decide) hm1 hm2 (Hs8.out _ _ HB2.out) _ rfl ?_
              intro g3 c3 w3 hown3 hgrow3 hat3 hlt3
              obtain ⟨v3, VR3, hv3, hf3, hm3, hst, hT4, hb4⟩ := tab_second HT2.out HO2.out HB2.out hlk Hvk.out HDD.out hown3 hgrow3 hat3
              have HST := Lib.hid hst
              have HT4 := Lib.hid hT4
              have HB4 := Lib.hid hb4
              have Hm3 := Lib.hid hm3
              clear hown3 hgrow3 hat3 hlt3 hst hT4 hb4 hm3))
          go_roundw
          case rel => exact ⟨k + 1, VR3, by omega, by go_num, Hm3.out.symm, HST.out, HT4.out, HB4.out⟩
          case measure => simp [intOf]; omega
        · have hkm : k = m := by omega
          subst hkm
          have hlm : (lsK t k k k).length = k := by unfold lsK; rw [if_pos rfl]; simp
          have hom := hT.own k (by omega)
          rw [hlm] at hom
          have Hom := Lib.hid hom
          have HT := Lib.hid hT
          have HO := Lib.hid ho
          have HB := Lib.hid hnx
          have hm1 : k + 1 ≤ maxLen := by unfold maxLen; omega
          have hm2 : (k + 1) * 8 ≤ 140737488355328 := by omega
          have hm3 : (k + 1) * 24 ≤ 140737488355328 := by omega
          have hs8 : ∀ (w' : World) o, Below w.heap.size w w' → w.heap.size ≤ (w'.alloc o).heap.size := fun w' o h => by rw [size_alloc1]; have := h.size; omega
          have Hs8 := Lib.hid hs8
          have h1c : ∀ u ∈ [Value.int .i64 0], u.oneCell' = true := by intro u hu; simp at hu; subst hu; rfl
          have H1c := Lib.hid h1c
          have h1s : ∀ a b c, ∀ u ∈ [Value.slice a b c], u.oneCell' = true := by intro a b c u hu; simp at hu; subst hu; rfl
          have H1s := Lib.hid h1s
          clear hs8 h1c h1s hom hlm hT ho hnx
          rename_i wz _
          go_wp2_with (
            first
            | (
              at_builtin
              refine wpList_append_lies _ rfl _ _ 37 rfl w.heap.size 3 ii _ 1 8 Try.underlying37 hii hzi0 hzi1 hzi2 rfl (by decide) _ _ _ rfl (Hom.out.alloc _) ⟨_, 0, none⟩ 1 1 [.int .i64 0] rfl rfl (cell_one_new _ _ _) H1c.out (by decide) hm1 hm2 (Hs8.out _ _ HB.out) _ rfl ?_
              intro g2 c2 w2 hown2 hgrow2 hat2 hlt2
              obtain ⟨hT2, ho2, hb2⟩ := tab_end1 HT.out HO.out HB.out hown2 hgrow2 hat2
              have HT2 := Lib.hid hT2
              have HO2 := Lib.hid ho2
              have HB2 := Lib.hid hb2
              clear hown2 hgrow2 hat2 hlt2 hT2 ho2 hb2)
            | (
              at_builtin
              refine wpList_append_lies _ rfl _ _ 25 rfl w.heap.size 37 is _ 1 24 Try.underlying25 his hzs0 hzs1 hzs2 rfl (by decide) _ _ _ rfl (World.ownsRow.alloc HO2.out _) ⟨w2.heap.size, 0, none⟩ 1 1 [.slice (some ⟨g2, 0, none⟩) (k + 1) c2] rfl rfl (cell_one_new _ _ _) (H1s.out _ _ _) (by decide) hm1 hm3 (Hs8.out _ _ HB2.out) _ rfl ?_
              intro g3 c3 w3 hown3 hgrow3 hat3 hlt3
              obtain ⟨ho3, hT3, hb3⟩ := tab_end2 HT2.out HO2.out HB2.out hown3 hgrow3
              have HT3 := Lib.hid hT3
              have HO3 := Lib.hid ho3
              have HB3 := Lib.hid hb3
              clear hown3 hgrow3 hat3 hlt3 hT3 ho3 hb3))
          go_roundw
          case rel => exact ⟨k + 1, _, _, _, by rw [Hn.out]; omega, by go_num, rfl, HO3.out, HT3.out, HB3.out⟩
          case measure => simp [intOf]; omega
    · have hmn : m = n := by omega
      subst hmn
      have HO := Lib.hid ho
      have HT := Lib.hid hT
      clear ho hT
      go_wp2
      go_ret
      exact ⟨_, VR, rfl, by rw [Hn.out]; exact HO.out, by rw [Hn.out]; exact HT.out, hnx⟩
end Go.Proofs.Ytdhelapgdgekfaa
