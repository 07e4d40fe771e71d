/-
  What give must answer; makeRoom from it: the calls that a helper has are asked one after another.
  Conditions: as each theorem states.
-/
import Derived.Test.YtakljcpneghgnaaMK
namespace Go.Proofs.Ytakljcpneghgnaa
open Go.ChangeShapes Go.WideShapes Go.ChangeAt Go.RowKit Go.Maps
set_option linter.unusedVariables false
set_option maxRecDepth 4000

/-- What stays and what turns, behind a call of give or makeRoom. -/
structure Gv (room : List Int) (B H n tb mb : Nat) (w w' : World) (M' : Nat → Int) (s' : Nat → Bool) : Prop where
  tk : Tk w' B room n tb M'
  ask : ∃ m', m' + unS s' H ≤ 4 ∧ Ask w' room H mb m' s'
  fr : Fr w w' tb mb
def GivePost (room : List Int) (wish : List (List Int)) (B H n tb mb c : Nat) (M : Nat → Int) (sn : Nat → Bool) (w : World) (e : Ending) (w' : World) : Prop :=
  ∃ b M' s', e = .returned (.bool b) ∧ Hid (Gv room B H n tb mb w w' M' s') ∧
    Hid ((b = true ∧ PuOk (rR room) (mayW wish) H n M M' c sn) ∨ (b = false ∧ M' = M ∧ PuNo (rR room) (mayW wish) H n M sn s' ∧ ∀ x, mayW wish c x → s' x = true))
/-- give does so, with at most f helpers not asked. -/
def GiveAt (room : List Int) (wish : List (List Int)) (B H n S hb cb tb mb f : Nat) : Prop :=
  ∀ (c m : Nat) (M : Nat → Int) (sn : Nat → Bool) (w : World), Sh w room wish H n S hb cb tb mb → Tk w B room n tb M → Ask w room H mb m sn → m + unS sn H ≤ 4 → c < n → unS sn H ≤ f → Giv (rR room) (mayW wish) H n M → (M c = -1 ∨ ∃ x : Nat, M c = x ∧ sn x = true) →
    Calls Try.prog 52 #[.pointer (some ⟨S, 0, none⟩), .agg #[.int .i64 c, .int .u64 (mS wish c : Nat)], .map (some mb)] w (GivePost room wish B H n tb mb c M sn w)
theorem Gv.from {room : List Int} {B H n tb mb : Nat} {w w0 w' : World} {M' : Nat → Int} {s' : Nat → Bool} (h : Gv room B H n tb mb w w' M' s') (f : Fr w0 w tb mb) : Gv room B H n tb mb w0 w' M' s' := ⟨h.tk, h.ask, f.trans h.fr⟩
/-- The closure that asks a call. -/
theorem askClosure_any (room : List Int) (wish : List (List Int)) (B H n S hb cb tb mb f sb ab c m : Nat) (M : Nat → Int) (sn : Nat → Bool) (w : World) (HG : GiveAt room wish B H n S hb cb tb mb f) (hS : Sh w room wish H n S hb cb tb mb) (hT : Tk w B room n tb M) (hA : Ask w room H mb m sn) (hm : m + unS sn H ≤ 4) (hc : c < n) (hu : unS sn H ≤ f) (hg : Giv (rR room) (mayW wish) H n M) (hp : M c = -1 ∨ ∃ x : Nat, M c = x ∧ sn x = true)
    (h1 : w.cell? ⟨sb, 0, none⟩ = some (.pointer (some ⟨S, 0, none⟩))) (h2 : w.cell? ⟨ab, 0, none⟩ = some (.map (some mb))) :
    Calls Try.prog 79 #[.agg #[.int .i64 c, .int .u64 (mS wish c : Nat)], .pointer (some ⟨sb, 0, none⟩), .pointer (some ⟨ab, 0, none⟩)] w (GivePost room wish B H n tb mb c M sn w) := by
  have hB := (Below.refl w.heap.size w).alloc (Nat.le_refl _) (.cells #[.int .i64 c, .int .u64 (mS wish c : Nat)] 55)
  have c1 := (hB.cell (World.block_lt_of_cell? w _ h1)).trans h1
  have c2 := (hB.cell (World.block_lt_of_cell? w _ h2)).trans h2
  have Hc := Lib.hid (HG c m M sn _ (hS.fr (.of_below hB)) (hT.below hB) (hA.below hB) hm hc hu hg hp)
  have HF : Hid (Fr w (w.alloc (.cells #[.int .i64 c, .int .u64 (mS wish c : Nat)] 55)) tb mb) := .of_below hB
  clear hB HG hS hT hA hg hp h1 h2
  go_enter Try.func79, Try.ntmps79
  go_wp2_with fail
  refine Hc.out.mono ?_
  rintro e w' ⟨b, M', s', rfl, hv, hcase⟩
  have Hv := Lib.hid (hv.out.from HF.out)
  clear hv
  go_wp2
  go_ret
  exact ⟨b, M', s', rfl, Hv, hcase⟩
/-- The first of the calls of a list that can be given elsewhere. -/
def IdxPost (room : List Int) (wish : List (List Int)) (B H n tb mb : Nat) (L : List Nat) (M : Nat → Int) (s : Nat → Bool) (w : World) (e : Ending) (w' : World) : Prop :=
  ∃ r : Int, ∃ M' s', e = .returned (.int .i64 r) ∧ Hid (Gv room B H n tb mb w w' M' s') ∧
    Hid ((0 ≤ r ∧ ∃ i s1, i ∈ L ∧ (∀ x, s x = true → s1 x = true) ∧ PuOk (rR room) (mayW wish) H n M M' i s1) ∨ (r = -1 ∧ M' = M ∧ PuNo (rR room) (mayW wish) H n M s s' ∧ ∀ i, i ∈ L → ∀ x, mayW wish i x → s' x = true))
set_option maxHeartbeats 1600000 in
theorem indexAsk_any (room : List Int) (wish : List (List Int)) (B H n S hb cb tb mb f sb ab g cap h m : Nat) (L : List Nat) (M : Nat → Int) (s : Nat → Bool) (w : World) (HG : GiveAt room wish B H n S hb cb tb mb f) (hS : Sh w room wish H n S hb cb tb mb) (hT : Tk w B room n tb M) (hA : Ask w room H mb m s) (hm : m + unS s H ≤ 4) (hu : unS s H ≤ f) (hg : Giv (rR room) (mayW wish) H n M)
    (hL : ∀ i, i ∈ L → i < n ∧ M i = h) (hs : s h = true) (hLl : L.length ≤ 7)
    (h1 : w.cell? ⟨sb, 0, none⟩ = some (.pointer (some ⟨S, 0, none⟩))) (h2 : w.cell? ⟨ab, 0, none⟩ = some (.map (some mb))) (n1 : sb ≠ tb ∧ sb ≠ mb ∧ ab ≠ tb ∧ ab ≠ mb ∧ g ≠ tb ∧ g ≠ mb)
    (hr : RdC w g L.length (fun k => ((L.getD k 0 : Nat) : Int)) (fun k => mS wish (L.getD k 0))) :
    Calls Try.prog 80 #[.slice (some ⟨g, 0, none⟩) L.length cap, .func (.func 79) #[] #[.pointer (some ⟨sb, 0, none⟩), .pointer (some ⟨ab, 0, none⟩)]] w (IdxPost room wish B H n tb mb L M s w) := by
  obtain ⟨t, Ht⟩ : ∃ t, Hid (L.length = t) := ⟨_, rfl⟩
  rw [Ht.out] at hLl hr ⊢
  have HG' := Lib.hid HG
  have HS := Lib.hid hS
  have HL := Lib.hid hL
  have Hg := Lib.hid hg
  have Hs := Lib.hid hs
  have Hu := Lib.hid hu
  have Hr := Lib.hid hr
  have H1 := Lib.hid h1
  have H2 := Lib.hid h2
  have l1 := World.block_lt_of_cell? w _ h1
  have l2 := World.block_lt_of_cell? w _ h2
  have HV0 : Hid (Gv room B H n tb mb w w M s) := ⟨hT, ⟨m, hm, hA⟩, .refl _ _ _⟩
  obtain ⟨n2, n3, n4, n5, n6, n7⟩ := n1
  clear HG hS hL hg hs hu hr h1 h2 hT hA hm
  go_enter Try.func80, Try.ntmps80
  go_wp2
  go_loopw [8] (fun i wr => ∃ k : Nat, ∃ s1, k ≤ t ∧ i = .int .i64 k ∧ Hid (Gv room B H n tb mb w wr M s1) ∧ Hid (PuNo (rR room) (mayW wish) H n M s s1 ∧ ∀ j, j < k → ∀ x, mayW wish (L.getD j 0) x → s1 x = true)) (fun i _ => t - (intOf i).toNat)
  case atStart => exact ⟨0, s, Nat.zero_le _, rfl, HV0, PuNo.refl _ _ _ _ _ _, fun j hj => by omega⟩
  case round =>
    clear HV0
    obtain ⟨k, s1, hk, rfl, HV, HP⟩ := hrel
    have hfr := HV.out.fr
    by_cases hlk : k < t
    · have hmem : L.getD k 0 ∈ L := by simp [List.getD, List.getElem?_eq_getElem (show k < L.length by rw [Ht.out]; exact hlk)]
      obtain ⟨hin, hMi⟩ := HL.out _ hmem
      obtain ⟨m1, hm1, hA1⟩ := HV.out.ask
      have hr0 := Hr.out.2 k hlk
      obtain ⟨i, Hi⟩ : ∃ i, Hid (L.getD k 0 = i) := ⟨_, rfl⟩
      simp only at hr0
      rw [Hi.out] at hmem hin hMi hr0
      have c0 : wr.cell? ⟨g, k * 2, none⟩ = some (.int .i64 (i : Nat)) := (hfr.cell Hr.out.1 n6 n7).trans hr0.1
      have c1 : wr.cell? ⟨g, k * 2 + 1, none⟩ = some (.int .u64 (mS wish i : Nat)) := (hfr.cell Hr.out.1 n6 n7).trans hr0.2
      have hs1 : s1 h = true := HP.out.1.grow h Hs.out
      have hu1 := unS_mono HP.out.1.grow H
      have Hc := Lib.hid (askClosure_any room wish B H n S hb cb tb mb f sb ab i m1 M s1 wr HG'.out (HS.out.fr hfr) HV.out.tk hA1 hm1 hin (by have := Hu.out; omega) Hg.out (.inr ⟨h, hMi, hs1⟩) ((hfr.cell l1 n2 n3).trans H1.out) ((hfr.cell l2 n4 n5).trans H2.out))
      have Hmem := Lib.hid hmem
      have Hfr := Lib.hid hfr
      clear hA1 hr0 hs1 hu1 hMi hmem hfr
      go_wp2_with fail
      refine Hc.out.mono ?_
      rintro e w2 ⟨b, M2, s2, rfl, hv, hcase⟩
      have HV2 := Lib.hid (hv.out.from Hfr.out)
      cases b with
      | true =>
        have Hok : Hid (∃ i s1, i ∈ L ∧ (∀ x, s x = true → s1 x = true) ∧ PuOk (rR room) (mayW wish) H n M M2 i s1) := by
          rcases hcase.out with ⟨-, hok⟩ | ⟨h', -⟩
          · exact ⟨i, s1, Hmem.out, HP.out.1.grow, hok⟩
          · cases h'
        clear hv hcase c0 c1
        go_wp2
        go_ret
        exact ⟨k, M2, s2, rfl, HV2, .inl ⟨by omega, Hok.out⟩⟩
      | false =>
        have Hno : Hid (M2 = M ∧ PuNo (rR room) (mayW wish) H n M s s2 ∧ ∀ j, j < k + 1 → ∀ x, mayW wish (L.getD j 0) x → s2 x = true) := by
          rcases hcase.out with ⟨h', -⟩ | ⟨-, h1, h2, h3⟩
          · cases h'
          · refine ⟨h1, HP.out.1.trans h2, fun j hj x hx => ?_⟩
            by_cases e : j = k
            · subst e; rw [Hi.out] at hx; exact h3 x hx
            · exact h2.grow x (HP.out.2 j (by omega) x hx)
        have HV3 : Hid (Gv room B H n tb mb w w2 M s2) := by have := HV2.out; rw [Hno.out.1] at this; exact this
        clear hv hcase c0 c1
        go_wp2
        go_roundw
        case rel => exact ⟨k + 1, s2, by omega, by go_num, HV3, Hno.out.2⟩
        case measure => simp [intOf]; omega
    · obtain rfl : k = t := by omega
      have Hno : Hid (∀ i, i ∈ L → ∀ x, mayW wish i x → s1 x = true) := fun i hi x hx => by
        obtain ⟨j, hj, rfl⟩ := List.getElem_of_mem hi
        refine HP.out.2 j (by rw [← Ht.out]; exact hj) x ?_
        simp only [List.getD, List.getElem?_eq_getElem hj, Option.getD_some]; exact hx
      clear hfr
      go_wp2
      go_ret
      exact ⟨-1, M, s1, rfl, HV, .inr ⟨rfl, rfl, HP.out.1, Hno.out⟩⟩
end Go.Proofs.Ytakljcpneghgnaa
