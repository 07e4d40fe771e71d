/-
  withOneGroup, walked: ranging over the map in whatever order.
  Conditions: as each theorem states.
-/
import Derived.Test.YtoohfipicmdohabK6
namespace Go.Proofs.Ytoohfipicmdohab
open Go.ChangeShapes Go.WideShapes Go.ChangeAt Go.RowKit Go.Maps
set_option linter.unusedVariables false

theorem inv_key (key : Value) (kl : Lit) (h : keyOf Try.prog 52 key = some kl) : ∃ p : Int × Int, key = kv p.1 p.2 := by
  obtain ⟨p, hp, _⟩ := key_inv h
  exact ⟨p, hp⟩
theorem inv_val (v : Value) (y : MapD × List MemPlace) (h : plainElem Try.prog 3 v = some y) : ∃ c : Int, v = .int .i64 c := by
  obtain ⟨c, rfl, _⟩ := plainElem_int_inv Try.underlying3 h
  exact ⟨c, rfl⟩
def gone (left : Lit → Bool) (f m : Nat) : Bool := !left (kk f m)
/-- What an entry that has come is. -/
theorem entry_is {zs : List Int} {D : MapD} {n : Nat} (hF : Filled zs D (Sall n)) {x : Int × Int} {c : Int} {kl : Lit} {y : MapD × List MemPlace} {left : Lit → Bool} (hl : ∀ z, left z = true → Maps.has D z = true)
    (hkey : keyOf Try.prog 52 (kv x.1 x.2) = some kl) (hlk : left kl = true) (hv : plainElem Try.prog 3 (.int .i64 c) = some y) (hat : ∀ zd, D.atKey kl zd = y.1) :
    ∃ f e : Nat, f < e ∧ e ≤ n ∧ f ≤ 1000 ∧ e ≤ 1000 ∧ x = ((f : Int), (e : Int)) ∧ c = cost zs f e ∧ kl = kk f e := by
  obtain ⟨f, e, hs, rfl⟩ := hF.2.2 kl (hl kl hlk)
  obtain ⟨h1, h2, h3⟩ := hF.2.1 f e hs
  have hk := key_mk (wf_nat h1) (wf_nat h2)
  have := keyLaw.inj hkey hk
  unfold kv at this
  simp at this
  obtain ⟨c', hc, hy, _⟩ := plainElem_int_inv Try.underlying3 hv
  injection hc with _ hc
  have h4 := hat .nil
  rw [h3 .nil, hy] at h4
  simp at h4
  refine ⟨f, e, hs.1, hs.2, h1, h2, Prod.ext this.1 this.2, by omega, rfl⟩
theorem gone_start {zs : List Int} {D : MapD} {n : Nat} (hF : Filled zs D (Sall n)) : ∀ f m, f < m → m ≤ n → gone (Maps.has D) f m = false := by
  intro f m hf hm
  unfold gone
  rw [has_true_of_atKey (hF.2.1 f m ⟨hf, hm⟩).2.2]; rfl
theorem gone_step {left : Lit → Bool} {f e n : Nat} (hf : f ≤ 1000) (he : e ≤ 1000) (hn : n ≤ 1000) : ∀ f' e', f' < e' → e' ≤ n → gone (fun z => left z && !z.sameKey (kk f e)) f' e' = (gone left f' e' || (f' == f && e' == e)) := by
  intro f' e' h1 h2
  unfold gone
  by_cases h : f' = f ∧ e' = e
  · obtain ⟨rfl, rfl⟩ := h
    dsimp only
    rw [WideAt.sameKey_self (kk_key _ _)]; simp
  · dsimp only
    rw [sameKey_ne (fun hh => h (kk_nat (by omega) (by omega) hf he hh))]
    have : (f' == f && e' == e) = false := by
      rw [Bool.and_eq_false_iff, beq_eq_false_iff_ne, beq_eq_false_iff_ne]; omega
    rw [this]; simp

theorem if_min (a b : Int) : (if b < a then b else a) = min a b := by split <;> omega

set_option maxHeartbeats 1000000 in
theorem withOne_any (b off c n mb n0 : Nat) (zs S : List Int) (D : MapD) (w : World) (hb : b < w.heap.size) (hS : S.length = n + 1) (hn : zs.length = n) (h10 : n ≤ 10) (hbd : InBd zs)
    (hSb : ∀ i, i ≤ n → 0 ≤ S.getD i 0 ∧ S.getD i 0 ≤ 3000000) (hc : ∀ i, i < n + 1 → w.cell? ⟨b, off + i, none⟩ = some (.int .i64 (S.getD i 0)))
    (hown : w.ownsMap Try.prog 52 (plainElem Try.prog 3) mb n0 D) (hF : Filled zs D (Sall n)) :
    Calls Try.prog 41 #[.slice (some ⟨b, off, none⟩) (n + 1) c, .map (some mb)] w (OwnedList w (vrow zs S (fun _ _ => true) n)) := by
  have hmb := hown.lt
  have HF := Lib.hid hF
  have Hn := Lib.hid hn
  have HS := Lib.hid hS
  have Hbd := Lib.hid hbd
  have HSb := Lib.hid hSb
  have Hc := Lib.hid hc
  have Hown := Lib.hid hown
  clear hF hn hS hbd hSb hc hown
  go_enter Try.func41, Try.ntmps41
  go_wp2_with fail
  refine (clone_any b off c (n + 1) S w HS.out (by omega) hb Hc.out).mono ?_
  rintro e w1 ⟨v, rfl, hown1, hnx1⟩
  rw [HS.out] at hown1
  obtain ⟨g, cap, rfl, hg1, hg2⟩ := hown1.form (by omega)
  have hmap1 : w1.ownsMap Try.prog 52 (plainElem Try.prog 3) mb n0 D := by
    obtain ⟨es, clock, h1, h2⟩ := Hown.out
    exact ⟨es, clock, (hnx1.block mb hmb).trans h1, h2⟩
  have Hown1 := Lib.hid hown1
  have Hmap1 := Lib.hid hmap1
  clear hown1 hmap1
  go_wp2_with (at_range; refine wpList_range_own _ rfl _ 38 rfl 52 3 keyLaw Try.underlying38 _ mb n0 D rfl Hmap1.out ?_; intro w2 hrg2 hg2' hs2)
  go_frame
  have hnx2 : Below w.heap.size w w2 := hnx1.grown hg2' hnx1.size (fun j hj => by cases hj)
  have hown2 := Hown1.out.kept hg2' (.inr (by simp [Value.ownBlock]))
  rw [← vrow_start zs S HS.out (gone_start HF.out)] at hown2
  have Hown2 := Lib.hid hown2
  have Hrg2 := Lib.hid hrg2
  clear hown2 hrg2 hs2 hg2' Hmap1 Hown1
  go_loopw [12] (fun _ wr => ∃ (left : Lit → Bool) (cnt : Nat), wr.ranges Try.prog 52 (plainElem Try.prog 3) mb w1.heap.size n0 D left cnt ∧ (∀ z, left z = true → Maps.has D z = true) ∧
      wr.ownsRow w.heap.size 3 1 (.slice (some ⟨g, 0, none⟩) (n + 1) cap) (n + 1) ((vrow zs S (gone left) n).map (Value.int .i64)) ∧ Below w.heap.size w wr) (fun _ wr => wr.rangeLeft mb w1.heap.size)
  case atStart => exact ⟨_, _, Hrg2.out, fun _ h => h, Hown2.out, hnx2⟩
  case round =>
    clear Hrg2 Hown2 hnx2
    obtain ⟨left, cnt, hrg, hleft, hown, hnx⟩ := hrel
    have Hleft := Lib.hid hleft
    have Hown3 := Lib.hid hown
    clear hleft hown
    go_wp2_with (at_next; refine wpList_next_ranges _ rfl _ rfl 52 keyLaw (plainElem Try.prog 3) (fun p : Int × Int => Value.agg #[.int .i64 p.1, .int .i64 p.2]) (Value.int .i64) inv_key inv_val mb w1.heap.size n0 _ _ _ rfl hrg ?_ ?_)
    · intro hc0 hl0
      have hend : vrow zs S (gone left) n = vrow zs S (fun _ _ => true) n := vrow_congr zs S (fun f m _ _ => by unfold gone; rw [hl0]; rfl)
      have hown4 := Hown3.out
      rw [hend] at hown4
      have Hown4 := Lib.hid hown4
      clear hown4 hl0 hend
      go_wp2
      go_ret
      exact ⟨_, rfl, by rw [vrow_length]; exact Hown4.out, hnx⟩
    · intro f0 e0 c0 kl yd yp w3 cnt3 hkey hlk hv hat hrg3 hlt hgr3 hs3 hen
      obtain ⟨f, e, hfe, hen2, hf1, he1, hx, rfl, rfl⟩ := entry_is (x := (f0, e0)) HF.out Hleft.out hkey hlk hv hat
      injection hx with hx1 hx2
      subst hx1 hx2
      clear hkey hv hat
      have hnx3 : Below w.heap.size w w3 := hnx.grown hgr3 hnx.size (fun j hj => by cases hj; exact hnx1.size)
      have hown3 := Hown3.out.kept hgr3 (.inr (by simp [Value.ownBlock]; omega))
      have hce := hown3.cellAt e (by omega)
      have hfe3 := hown3.frozenAt e
      have hgl := vrow_get zs S (gone left) hen2
      have hvb := vm_bd Hbd.out Hn.out (by omega) HSb.out (P := fun f => gone left f e) hen2 (j := e) (Nat.le_refl _)
      rw [← hgl] at hvb
      have hcb := cost_bd (f := f) (e := e) Hbd.out Hn.out hfe hen2 (by omega)
      have hcs : w3.cell? ⟨b, off + f, none⟩ = some (.int .i64 (S.getD f 0)) := (hnx3.cell (p := ⟨b, off + f, none⟩) hb).trans (Hc.out f (by omega))
      have hsb := HSb.out f (by omega)
      have hst := vrow_step zs S (P := gone left) (Q := gone (fun z => left z && !z.sameKey (kk f e))) hfe hen2 (by unfold gone; rw [hlk]; rfl) (gone_step hf1 he1 (by omega))
      clear hs3
      obtain ⟨ct, Hct⟩ : ∃ ct, Hid (cost zs f e = ct) := ⟨_, rfl⟩
      obtain ⟨sf, Hsf⟩ : ∃ sf, Hid (S.getD f 0 = sf) := ⟨_, rfl⟩
      obtain ⟨ve, Hve⟩ : ∃ ve, Hid ((vrow zs S (gone left) n).getD e 0 = ve) := ⟨_, rfl⟩
      rw [Hct.out] at hen hcb hst ⊢
      rw [Hsf.out] at hcs hsb hst
      rw [Hve.out] at hvb hst
      have hce' : w3.cell? ⟨g, e, none⟩ = some (.int .i64 ve) := by
        rw [hce, List.getElem?_map, List.getElem?_eq_getElem (by rw [vrow_length]; omega)]
        have : (vrow zs S (gone left) n)[e]'(by rw [vrow_length]; omega) = ve := by
          rw [← Hve.out]; simp [List.getD, List.getElem?_eq_getElem (show e < (vrow zs S (gone left) n).length by rw [vrow_length]; omega)]
        rw [this]; rfl
      have Hown4 := Lib.hid hown3
      have Hst := Lib.hid hst
      have Hrg3 := Lib.hid hrg3
      clear hown3 hst hce hgl hlk hrg3
      go_wp2
      have hR : w3.heap.size ≠ g := by have := hgr3.size; have := hnx3.size; have := hrg.owns.lt; have := hg2; have := hnx1.size; have := Hown4.out.lt g rfl; omega
      have c4 : (w3.alloc (.cells #[.int .i64 (f : Int), .int .i64 (e : Int)] 52)).cell? ⟨g, e, none⟩ = some (.int .i64 ve) := by
        rw [World.cell?_alloc_lt w3 _ _ (by have := (Hown4.out.lt g rfl).2; exact this)]; exact hce'
      have s4 : (w3.alloc (.cells #[.int .i64 (f : Int), .int .i64 (e : Int)] 52)).cell? ⟨b, off + f, none⟩ = some (.int .i64 sf) := by
        rw [World.cell?_alloc_lt w3 _ _ (by have := hnx3.size; exact Nat.lt_of_lt_of_le hb this)]; exact hcs
      have f4 : (w3.alloc (.cells #[.int .i64 (f : Int), .int .i64 (e : Int)] 52)).frozen? ⟨g, e, none⟩ = false := (Hown4.out.alloc _).frozenAt e
      have a4 : (w3.alloc (.cells #[.int .i64 (f : Int), .int .i64 (e : Int)] 52)).cell? ⟨w3.heap.size, 0, none⟩ = some (.int .i64 (f : Int)) := cell_of_row _ _ 0 _ _ (0, 0) (heap_alloc_new w3 _)
      have b4 : (w3.alloc (.cells #[.int .i64 (f : Int), .int .i64 (e : Int)] 52)).cell? ⟨w3.heap.size, 1, none⟩ = some (.int .i64 (e : Int)) := cell_of_row _ _ 1 _ _ (0, 0) (heap_alloc_new w3 _)
      have hown4 := Hown4.out.alloc (.cells #[.int .i64 (f : Int), .int .i64 (e : Int)] 52)
      have hnx4 : Below w.heap.size w (w3.alloc (.cells #[.int .i64 (f : Int), .int .i64 (e : Int)] 52)) := hnx3.alloc hnx3.size _
      have hrg4 := Hrg3.out.alloc (.cells #[.int .i64 (f : Int), .int .i64 (e : Int)] 52)
      generalize hR4 : w3.heap.size = R at *
      have HR4 := Lib.hid hR4
      clear hR4
      generalize w3.alloc (.cells #[.int .i64 (f : Int), .int .i64 (e : Int)] 52) = w4 at *
      clear hce' hcs hfe3 hen
      have w9 : IntKind.i64.wrap (sf + ct) = sf + ct := IntWalk.i64_in _ (by omega)
      have ie : e < n + 1 := by omega
      have if' : f < n + 1 := by omega
      have Hown5 := Lib.hid hown4
      have Hrg5 := Lib.hid hrg4
      clear hown4 hrg4
      have hst2 := Hown5.out.stored e (.int .i64 (if sf + ct < ve then sf + ct else ve))
      have hown6 : (w4.setCell ⟨g, e, none⟩ (.int .i64 (if sf + ct < ve then sf + ct else ve))).drew.ownsRow w.heap.size 3 1 (.slice (some ⟨g, 0, none⟩) (n + 1) cap) (n + 1) ((vrow zs S (gone (fun z => left z && !z.sameKey (kk f e))) n).map (Value.int .i64)) := by
        rw [Hst.out, List.map_set, ← if_min]
        exact hst2.1
      have hrg6 : (w4.setCell ⟨g, e, none⟩ (.int .i64 (if sf + ct < ve then sf + ct else ve))).drew.ranges Try.prog 52 (plainElem Try.prog 3) mb w1.heap.size n0 D (fun z => left z && !z.sameKey (kk f e)) cnt3 := by
        have h := Hrg5.out.kept (row := some g) hst2.2 (by intro h; injection h; omega) (by intro h; injection h; omega)
        exact h
      have hnx6 : Below w.heap.size w (w4.setCell ⟨g, e, none⟩ (.int .i64 (if sf + ct < ve then sf + ct else ve))).drew := (hnx4.setCell hg1 _).drew
      have Hleft6 : Hid (∀ z, (fun z => left z && !z.sameKey (kk f e)) z = true → Maps.has D z = true) := fun z hz => Hleft.out z (by simp only [Bool.and_eq_true] at hz; exact hz.1)
      have Hown6 := Lib.hid hown6
      have Hrg6 := Lib.hid hrg6
      clear hst2 hown6 hrg6
      go_region
      go_wp2
      go_roundw
      case rel => exact ⟨_, cnt3, Hrg6.out, Hleft6.out, Hown6.out, hnx6⟩
      case measure => rw [Hrg6.out.left_eq, hrg.left_eq]; exact hlt
end Go.Proofs.Ytoohfipicmdohab
