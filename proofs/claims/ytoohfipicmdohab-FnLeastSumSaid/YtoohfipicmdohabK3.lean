/-
  groupCosts: the map of what each group costs.
  Conditions: at most ten numbers, each in -1000..1000.
-/
import Derived.Test.YtoohfipicmdohabK1
import Derived.Test.YtoohfipicmdohabK2
import Derived.Maps.OwnOps
namespace Go.Proofs.Ytoohfipicmdohab
open Go.ChangeShapes Go.WideShapes Go.ChangeAt Go.RowKit Go.Maps
set_option linter.unusedVariables false

abbrev MapD := DataW Unit
def seg (zs : List Int) (f e : Nat) : List Int := (zs.drop f).take (e - f)
theorem seg_length {zs : List Int} {f e n : Nat} (hn : zs.length = n) (hf : f ≤ e) (he : e ≤ n) : (seg zs f e).length = e - f := by
  unfold seg; rw [List.length_take, List.length_drop]; omega
theorem seg_bd {zs : List Int} (h : InBd zs) (f e : Nat) : InBd (seg zs f e) := fun x hx => h x (List.mem_of_mem_drop (List.mem_of_mem_take hx))
theorem RdI.seg {w : World} {B b off : Nat} {zs : List Int} (h : RdI w B (some ⟨b, off, none⟩) zs) (f e : Nat) : RdI w B (some ⟨b, off + f, none⟩) (seg zs f e) := fun hp => by
  have hl : (Go.Proofs.Ytoohfipicmdohab.seg zs f e).length ≤ zs.length - f := by unfold Go.Proofs.Ytoohfipicmdohab.seg; rw [List.length_take, List.length_drop]; omega
  obtain ⟨b', off', he, hb, hc⟩ := h (by omega)
  injection he with he
  injection he with he1 he2
  subst he1 he2
  refine ⟨b, off + f, rfl, hb, fun i hi => ?_⟩
  have hi2 : i < e - f := by unfold Go.Proofs.Ytoohfipicmdohab.seg at hi; rw [List.length_take] at hi; omega
  rw [Nat.add_assoc, hc (f + i) (by omega)]
  unfold Go.Proofs.Ytoohfipicmdohab.seg
  simp [hi2]
def cost (zs : List Int) (f e : Nat) : Int := sumNear (seg zs f e) ((seg zs f e).getD ((e - f) / 2) 0)
theorem cost_bd {zs : List Int} {n f e : Nat} (h : InBd zs) (hn : zs.length = n) (hf : f < e) (he : e ≤ n) (h10 : n ≤ 1000) : 0 ≤ cost zs f e ∧ cost zs f e ≤ 2000000 := by
  have hl := seg_length hn (Nat.le_of_lt hf) he
  have hp := (seg_bd h f e).get (k := (e - f) / 2) (by rw [hl]; omega) rfl
  have := sumNear_bd (l := seg zs f e) (p := (seg zs f e).getD ((e - f) / 2) 0) (M := 1000) (seg_bd h f e) hp.1 hp.2
  rw [hl] at this
  unfold cost
  omega

/-- The map reads as the costs of the groups in S. -/
def Filled (zs : List Int) (D : MapD) (S : Nat → Nat → Prop) : Prop :=
  Tidy D ∧ (∀ f e, S f e → f ≤ 1000 ∧ e ≤ 1000 ∧ ∀ zd, D.atKey (kk f e) zd = .lit (.int .i64 (cost zs f e))) ∧ (∀ kl, Maps.has D kl = true → ∃ f e : Nat, S f e ∧ kl = kk f e)
theorem wf_nat {n : Nat} (h : n ≤ 1000) : (Lit.int .i64 (n : Int)).wf = true := WalkArith.wf_i64 (by omega)
theorem kk_nat {f e f' e' : Nat} (h1 : f ≤ 1000) (h2 : e ≤ 1000) (h3 : f' ≤ 1000) (h4 : e' ≤ 1000) (h : kk f e = kk f' e') : f = f' ∧ e = e' := by
  have := kk_inj (wf_nat h1) (wf_nat h2) (wf_nat h3) (wf_nat h4) h
  omega
theorem filled_empty (zs : List Int) (S : Nat → Nat → Prop) (hS : ∀ f e, ¬ S f e) : Filled zs (.map []) S :=
  ⟨tidy_empty, fun f e h => absurd h (hS f e), fun kl h => by simp [Maps.has] at h⟩
theorem filled_put {zs : List Int} {D : MapD} {S S' : Nat → Nat → Prop} {f e : Nat} (h : Filled zs D S) (hf : f ≤ 1000) (he : e ≤ 1000) (hS : ∀ f' e', S' f' e' ↔ S f' e' ∨ (f' = f ∧ e' = e)) :
    Filled zs (D.put (kk f e) (.lit (.int .i64 (cost zs f e)))) S' := by
  obtain ⟨h1, h2, h3⟩ := h
  refine ⟨h1.put (kk_key _ _) _, fun f' e' hs => ?_, fun kl hk => ?_⟩
  · by_cases hfe : f' = f ∧ e' = e
    · obtain ⟨rfl, rfl⟩ := hfe
      exact ⟨hf, he, fun zd => atKey_put_same h1.isMap (kk_key _ _) _ _⟩
    · rcases (hS f' e').1 hs with hs | hs
      · obtain ⟨g1, g2, g3⟩ := h2 f' e' hs
        refine ⟨g1, g2, fun zd => ?_⟩
        rw [atKey_put_other (fun e' => hfe (kk_nat g1 g2 hf he e'))]
        exact g3 zd
      · exact absurd hs hfe
  · by_cases hke : kl = kk f e
    · exact ⟨f, e, (hS f e).2 (.inr ⟨rfl, rfl⟩), hke⟩
    · rw [has_put_other hke] at hk
      obtain ⟨f', e', hs, rfl⟩ := h3 kl hk
      exact ⟨f', e', (hS f' e').2 (.inl hs), rfl⟩
theorem filled_iff {zs : List Int} {D : MapD} {S S' : Nat → Nat → Prop} (h : Filled zs D S) (hS : ∀ f' e', S' f' e' ↔ S f' e') : Filled zs D S' :=
  ⟨h.1, fun f e hs => h.2.1 f e ((hS f e).1 hs), fun kl hk => by obtain ⟨f, e, hs, hke⟩ := h.2.2 kl hk; exact ⟨f, e, (hS f e).2 hs, hke⟩⟩
def Sset (n f e : Nat) (f' e' : Nat) : Prop := f' < e' ∧ e' ≤ n ∧ (f' < f ∨ (f' = f ∧ e' < e))
def Sall (n : Nat) (f' e' : Nat) : Prop := f' < e' ∧ e' ≤ n

def CostsPost (n : Nat) (zs : List Int) (w : World) (e : Ending) (w' : World) : Prop :=
  ∃ b cnt, ∃ D : MapD, e = .returned (.map (some b)) ∧ w.heap.size ≤ b ∧ w'.ownsMap Try.prog 52 (plainElem Try.prog 3) b cnt D ∧ cnt ≤ 1000 ∧ Filled zs D (Sall n) ∧ Below w.heap.size w w'

set_option maxHeartbeats 800000 in
theorem groupCosts_any (A : Option Addr) (c n : Nat) (zs : List Int) (w : World) (B : Nat) (hr : RdI w B A zs) (hB : B ≤ w.heap.size) (hn : zs.length = n) (hb : n ≤ 10) (hcap : n ≤ c) (hc63 : c ≤ 9223372036854775807) (hbd : InBd zs) :
    Calls Try.prog 39 #[.slice A n c] w (CostsPost n zs w) := by
  have Hn := Lib.hid hn
  have Hbd := Lib.hid hbd
  clear hn hbd
  have hmm := @run_makeMap Try.prog
  go_enter Try.func39, Try.ntmps39
  go_wp2
  have hown0 : (w.alloc (.map #[] 0)).ownsMap Try.prog 52 (plainElem Try.prog 3) w.heap.size 0 (.map [] : MapD) := World.ownsMap_made _ _ _ _
  have hnx0 : Below w.heap.size w (w.alloc (.map #[] 0)) := (Below.refl _ _).alloc (Nat.le_refl _) _
  have Hown0 := Lib.hid hown0
  clear hown0
  go_loopw [9] (fun i wr => ∃ f cnt : Nat, ∃ D : MapD, f ≤ n ∧ i = .int .i64 f ∧ wr.ownsMap Try.prog 52 (plainElem Try.prog 3) w.heap.size cnt D ∧ cnt ≤ 20 * f ∧ Filled zs D (Sset n f 0) ∧ Below w.heap.size w wr)
    (fun i _ => n - (intOf i).toNat)
  case atStart => exact ⟨0, 0, .map [], Nat.zero_le _, rfl, Hown0.out, by omega, filled_empty zs _ (fun f e h => by unfold Sset at h; omega), hnx0⟩
  case round =>
    clear hnx0 Hown0
    obtain ⟨f, cnt, D, hf, rfl, hown, hcnt, HF, hnx⟩ := hrel
    obtain ⟨wo, rfl⟩ : ∃ wo : World, wo = wr := ⟨_, rfl⟩
    have Hown := Lib.hid hown
    have HF' := Lib.hid HF
    clear hown HF
    by_cases hlt : f < n
    · obtain ⟨b, off, x, rfl, hbw, _, _⟩ := hr.x (k := f) (by rw [Hn.out]; exact hlt)
      have hfc : ¬ c = f := by omega
      go_wp2
      go_loopw [5] (fun i wr => ∃ e cnt : Nat, ∃ D : MapD, f + 1 ≤ e ∧ e ≤ n + 1 ∧ i = .int .i64 e ∧ wr.ownsMap Try.prog 52 (plainElem Try.prog 3) w.heap.size cnt D ∧ cnt ≤ 20 * f + e ∧ Filled zs D (Sset n f e) ∧ Below w.heap.size w wr)
        (fun i _ => n + 1 - (intOf i).toNat)
      case atStart => exact ⟨f + 1, cnt, D, Nat.le_refl _, by omega, by go_num, Hown.out, by omega, filled_iff HF'.out (fun f' e' => by unfold Sset; omega), hnx⟩
      case round =>
        clear Hown HF' hcnt hnx
        obtain ⟨e, cnt, D, he1, he2, rfl, hown, hcnt, HF, hnx⟩ := hrel
        have HF' := Lib.hid HF
        clear HF
        by_cases hle : e ≤ n
        · have hls := seg_length (zs := zs) (f := f) (e := e) Hn.out (by omega) hle
          have HC := Lib.hid (fun W : World => fun h : RdI W B (some ⟨b, off + f, none⟩) (seg zs f e) => sumToMiddle_any (some ⟨b, off + f, none⟩) (c - f) (e - f) (seg zs f e) W B h hls (by omega) (by omega) (seg_bd Hbd.out f e))
          have hcb := cost_bd (f := f) (e := e) Hbd.out Hn.out (by omega) hle (by omega)
          have hrs := (hr.below (hnx.mono hB)).seg f e
          have HP := Lib.hid (filled_put (S' := Sset n f (e + 1)) HF'.out (show f ≤ 1000 by omega) (show e ≤ 1000 by omega) (fun f' e' => by unfold Sset; omega))
          have hec : e ≤ c := by omega
          have hfe : f ≤ e := by omega
          clear hls
          have Hown := Lib.hid hown
          clear hown
          go_wp2_with fail
          refine (HC.out wr hrs).mono ?_
          rintro e' w' ⟨rfl, rfl⟩
          have Hc : Hid (sumNear (seg zs f e) ((seg zs f e).getD ((e - f) / 2) 0) = cost zs f e) := rfl
          rw [Hc.out]
          go_wp2_with (at_mapUpdate; refine wpList_mapUpdate_own _ rfl _ _ _ 38 rfl 52 3 keyLaw Try.underlying38 _ w.heap.size cnt _ rfl Hown.out (by unfold maxLen; omega) _ _ _ rfl rfl (key_mk (wf_nat (show f ≤ 1000 by omega)) (wf_nat (show e ≤ 1000 by omega))) _ [] (plainElem_int Try.underlying3 (WalkArith.wf_i64 (by omega))) ?_; intro w1 hown1 hgrow1)
          have hnx1 : Below w.heap.size w w1 := hnx.grown hgrow1 hnx.size (fun j hj => by cases hj; exact Nat.le_refl _)
          go_wp2
          go_roundw
          case rel => exact ⟨e + 1, cnt + 1, _, by omega, by omega, by go_num, hown1, by omega, HP.out, hnx1⟩
          case measure => simp [intOf]; omega
        · obtain rfl : e = n + 1 := by omega
          go_wp2
          go_roundw
          case rel => exact ⟨f + 1, cnt, D, by omega, by go_num, hown, by omega, filled_iff HF'.out (fun f' e' => by unfold Sset; omega), hnx⟩
          case measure => simp [intOf]; omega
    · obtain rfl : f = n := by omega
      go_wp2
      go_ret
      exact ⟨w.heap.size, cnt, D, rfl, Nat.le_refl _, Hown.out, by omega, filled_iff HF'.out (fun f' e' => by unfold Sall Sset; omega), hnx⟩
end Go.Proofs.Ytoohfipicmdohab
