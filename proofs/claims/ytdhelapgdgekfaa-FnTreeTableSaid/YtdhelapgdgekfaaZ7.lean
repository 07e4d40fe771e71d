/-
  ValidNet of the program, walked: the search for a street that is no street of a net.
  Conditions: fewer than 2^60 streets.
  NetTable of the program, walked: street by street until nothing changes.
  Conditions: at most 2^20 streets.
  Slices of streets in the exact laws: how many there may be, their copy, their comparison.
  Conditions: the slice is shorter than 2^20 elements.
  A tree's roads as streets (the laws' streetsOf).
  Conditions: fewer than 2^40 roads.
  The drawn arguments of TreeTable, TreeCover and TreeApart.
  Conditions: none beyond what each theorem states.
-/
import Derived.Test.YtdhelapgdgekfaaZ3
import Derived.Test.YtdhelapgdgekfaaZ6
import Derived.Test.YtdhelapgdgekfaaZ2
import Derived.Test.YtdhelapgdgekfaaZ15
import Derived.Deep.LoopGhost
import Derived.Deep.RegionWith
import Derived.Deep.RegionHeld3
import Derived.Deep.AppendLies
namespace Go.Proofs.Ytdhelapgdgekfaa
open Go.ChangeShapes Go.WideShapes Go.ChangeAt Go.RowKit
set_option linter.unusedVariables false
set_option maxRecDepth 4000

def okS (n x y z : Int) : Bool := decide (OkS n (x, y, z))
theorem netBad_any (n x y z : Int) (pb : Nat) (w : World) (hpb : pb < w.heap.size) (hc : w.cell? ⟨pb, 0, none⟩ = some (.int .i64 n)) :
    Calls Try.prog 99 #[.agg #[.int .i64 x, .int .i64 y, .int .i64 z], .pointer (some ⟨pb, 0, none⟩)] w fun e w' => e = .returned (.bool (!(okS n x y z))) ∧ Below w.heap.size w w' := by
  have hc2 : (w.alloc (.cells #[.int .i64 x, .int .i64 y, .int .i64 z] 75)).cell? ⟨pb, 0, none⟩ = some (.int .i64 n) := by rw [World.cell?_alloc_lt w _ _ hpb]; exact hc
  have HBW := Lib.hid ((Below.refl w.heap.size w).alloc (Nat.le_refl _) (.cells #[.int .i64 x, .int .i64 y, .int .i64 z] 75))
  clear hc hpb
  by_cases hx : 0 ≤ x ∧ x < n
  · have H1 := Lib.hid (fun W => validNode_is n x W (b := true) (by simp [hx.1, hx.2]))
    by_cases hy : 0 ≤ y ∧ y < n
    · have H2 := Lib.hid (fun W => validNode_is n y W (b := true) (by simp [hy.1, hy.2]))
      by_cases hz1 : z < 1
      · have hs : okS n x y z = false := decide_eq_false (fun h => by unfold OkS at h; simp only at h; omega)
        rw [hs]
        go_enter Try.func99, Try.ntmps99
        go_wp2_with fail
        refine (H1.out _).mono ?_
        rintro r w' ⟨rfl, rfl⟩
        go_wp2_with fail
        refine (H2.out _).mono ?_
        rintro r w' ⟨rfl, rfl⟩
        go_wp2
        go_ret
        exact ⟨rfl, HBW.out⟩
      · by_cases hz9 : 9 < z
        · have hs : okS n x y z = false := decide_eq_false (fun h => by unfold OkS at h; simp only at h; omega)
          rw [hs]
          go_enter Try.func99, Try.ntmps99
          go_wp2_with fail
          refine (H1.out _).mono ?_
          rintro r w' ⟨rfl, rfl⟩
          go_wp2_with fail
          refine (H2.out _).mono ?_
          rintro r w' ⟨rfl, rfl⟩
          go_wp2
          go_ret
          exact ⟨ret_bool (by simp), HBW.out⟩
        · have hs : okS n x y z = true := decide_eq_true (by unfold OkS; simp only; omega)
          rw [hs]
          go_enter Try.func99, Try.ntmps99
          go_wp2_with fail
          refine (H1.out _).mono ?_
          rintro r w' ⟨rfl, rfl⟩
          go_wp2_with fail
          refine (H2.out _).mono ?_
          rintro r w' ⟨rfl, rfl⟩
          go_wp2
          go_ret
          exact ⟨ret_bool (by simp; omega), HBW.out⟩
    · have H2 := Lib.hid (fun W => validNode_is n y W (b := false) (by simp; omega))
      have hs : okS n x y z = false := decide_eq_false (fun h => by unfold OkS at h; simp only at h; omega)
      rw [hs]
      go_enter Try.func99, Try.ntmps99
      go_wp2_with fail
      refine (H1.out _).mono ?_
      rintro r w' ⟨rfl, rfl⟩
      go_wp2_with fail
      refine (H2.out _).mono ?_
      rintro r w' ⟨rfl, rfl⟩
      go_wp2
      go_ret
      exact ⟨rfl, HBW.out⟩
  · have H1 := Lib.hid (fun W => validNode_is n x W (b := false) (by simp; omega))
    have hs : okS n x y z = false := decide_eq_false (fun h => by unfold OkS at h; simp only at h; omega)
    rw [hs]
    go_enter Try.func99, Try.ntmps99
    go_wp2_with fail
    refine (H1.out _).mono ?_
    rintro r w' ⟨rfl, rfl⟩
    go_wp2
    go_ret
    exact ⟨rfl, HBW.out⟩
theorem netBad_is (n x y z : Int) (pb : Nat) (w : World) (hpb : pb < w.heap.size) (hc : w.cell? ⟨pb, 0, none⟩ = some (.int .i64 n)) {b : Bool} (h : (!(okS n x y z)) = b) :
    Calls Try.prog 99 #[.agg #[.int .i64 x, .int .i64 y, .int .i64 z], .pointer (some ⟨pb, 0, none⟩)] w fun e w' => e = .returned (.bool b) ∧ Below w.heap.size w w' := by
  subst h; exact netBad_any n x y z pb w hpb hc

/-- All are streets of a net. -/
def okAll (n : Int) (ss : List Str) : Bool := decide (∀ p ∈ ss, OkS n p)
theorem okAll_end {n : Int} {ss : List Str} {k : Nat} (h : OkN n ss k) (hk : ss.length ≤ k) : okAll n ss = true := decide_eq_true fun p hp => by
  obtain ⟨i, hi, e⟩ := mem_getD3 hp
  rw [← e]; exact h i (by omega)
theorem okAll_no {n : Int} {ss : List Str} {k : Nat} {x y z : Int} (hk : k < ss.length) (hx : ss.getD k str0 = (x, y, z)) (h : ¬ OkS n (x, y, z)) : okAll n ss = false := decide_eq_false fun h' => h (by rw [← hx]; exact h' _ (getD_mem3 hk))
def NetIdx (n : Int) (ss : List Str) (w : World) (e : Ending) (w' : World) : Prop := ∃ r : Int, e = .returned (.int .i64 r) ∧ (okAll n ss = true → r = -1) ∧ (okAll n ss = false → 0 ≤ r) ∧ Below w.heap.size w w'
set_option maxHeartbeats 800000 in
theorem indexNet_any (n : Int) (A : Option Addr) (c m : Nat) (ss : List Str) (w : World) (B pb : Nat) (hr : RdS w B A ss) (hB : B ≤ w.heap.size) (hm : ss.length = m) (hb : m ≤ 1152921504606846976) (hpb : pb < w.heap.size) (hc : w.cell? ⟨pb, 0, none⟩ = some (.int .i64 n)) :
    Calls Try.prog 116 #[.slice A m c, .func (.func 99) #[] #[.pointer (some ⟨pb, 0, none⟩)]] w (NetIdx n ss w) := by
  have Hm := Lib.hid hm
  clear hm
  go_enter Try.func116, Try.ntmps116
  go_wp2
  go_loopw [8] (fun i wr => ∃ k : Nat, k ≤ m ∧ i = .int .i64 k ∧ Hid (OkN n ss k) ∧ Below w.heap.size w wr) (fun i _ => m - (intOf i).toNat)
  case atStart => exact ⟨0, by omega, rfl, OkN.zero _ _, Below.refl _ _⟩
  case round =>
    obtain ⟨k, hk, rfl, Ho, hnx⟩ := hrel
    have hc2 : wr.cell? ⟨pb, 0, none⟩ = some (.int .i64 n) := (hnx.cell (p := ⟨pb, 0, none⟩) hpb).trans hc
    by_cases hlt : k < m
    · obtain ⟨b, off, x, y, z, rfl, -, Hx, hcx, hcy, hcz⟩ := (hr.below (hnx.mono hB)).x (k := k) (by rw [Hm.out]; omega)
      by_cases h1 : OkS n (x, y, z)
      · have Hs := Lib.hid (Ho.out.step Hx.out h1.1.1 h1.1.2 h1.2.1.1 h1.2.1.2 h1.2.2.1 h1.2.2.2)
        have Hf := Lib.hid (netBad_is n x y z pb wr (Nat.lt_of_lt_of_le hpb hnx.size) hc2 (b := false) (by unfold okS; rw [decide_eq_true h1]; rfl))
        clear h1 hc2
        go_wp2_with fail
        refine Hf.out.mono ?_
        rintro e w' ⟨rfl, hnx2⟩
        go_wp2
        go_roundw
        case rel => exact ⟨k + 1, by omega, by go_num, Hs, hnx.trans (hnx2.mono hnx.size)⟩
        case measure => simp [intOf]; omega
      · have Hs := Lib.hid (okAll_no (by rw [Hm.out]; exact hlt) Hx.out h1)
        have Hf := Lib.hid (netBad_is n x y z pb wr (Nat.lt_of_lt_of_le hpb hnx.size) hc2 (b := true) (by unfold okS; rw [decide_eq_false h1]; rfl))
        clear h1 hc2
        go_wp2_with fail
        refine Hf.out.mono ?_
        rintro e w' ⟨rfl, hnx2⟩
        go_wp2
        go_ret
        exact ⟨_, rfl, fun h => absurd (Hs.out.symm.trans h) (by decide), fun _ => by omega, hnx.trans (hnx2.mono hnx.size)⟩
    · have Hs := Lib.hid (okAll_end Ho.out (by rw [Hm.out]; omega))
      go_wp2
      go_ret
      exact ⟨_, rfl, fun _ => rfl, fun h => absurd (Hs.out.symm.trans h) (by decide), hnx⟩
theorem containsNet_any (n : Int) (A : Option Addr) (c m : Nat) (ss : List Str) (w : World) (B pb : Nat) (hr : RdS w B A ss) (hB : B ≤ w.heap.size) (hm : ss.length = m) (hb : m ≤ 1152921504606846976) (hpb : pb < w.heap.size) (hc : w.cell? ⟨pb, 0, none⟩ = some (.int .i64 n)) :
    Calls Try.prog 98 #[.slice A m c, .func (.func 99) #[] #[.pointer (some ⟨pb, 0, none⟩)]] w fun e w' => e = .returned (.bool (!(okAll n ss))) ∧ Below w.heap.size w w' := by
  have H := Lib.hid (indexNet_any n A c m ss w B pb hr hB hm hb hpb hc)
  clear hm hr hc
  go_enter Try.func98, Try.ntmps98
  go_wp2_with fail
  refine H.out.mono ?_
  rintro e w' ⟨r, rfl, h1, h2, hnx⟩
  by_cases hf : okAll n ss = true
  · have := h1 hf
    subst this
    have Hf := Lib.hid hf
    clear h1 h2 hf
    go_wp2
    go_ret
    exact ⟨ret_bool (by rw [Hf.out]; rfl), hnx⟩
  · have hf' : okAll n ss = false := by simpa using hf
    have hr0 := h2 hf'
    have Hf := Lib.hid hf'
    clear h1 h2 hf hf'
    go_wp2
    go_ret
    exact ⟨ret_bool (by rw [Hf.out]; simp), hnx⟩
theorem vnet_all {n : Int} {ss : List Str} (h1 : 1 ≤ n) (h7 : n ≤ 7) (h12 : ss.length ≤ 12) : vnet n ss = okAll n ss := by
  unfold vnet okAll
  by_cases h : ∀ p ∈ ss, OkS n p
  · rw [decide_eq_true h, decide_eq_true ⟨⟨h1, h7⟩, h12, h⟩]
  · rw [decide_eq_false h, decide_eq_false (fun h' => h h'.2.2)]
set_option maxHeartbeats 800000 in
theorem iValidNet_in (A : Option Addr) (c m : Nat) (n : Int) (ss : List Str) (w : World) (hr : RdS w w.heap.size A ss) (hm : ss.length = m) (hb : m ≤ 1048576) (hwf : (Lit.int .i64 n).wf = true) :
    Calls Try.prog 60 #[.int .i64 n, .slice A m c] w fun e w' => e = .returned (.bool (vnet n ss)) ∧ Below w.heap.size w w' := by
  have hB0 := (Below.refl w.heap.size w).alloc (Nat.le_refl _) (.cells #[.int .i64 n] 3)
  by_cases h1 : n < 1
  · have Hs := Lib.hid (vnet_no_n (ss := ss) (.inl h1))
    have HB0 := Lib.hid hB0
    clear hm hr hB0
    go_enter Try.func60, Try.ntmps60
    go_wp2
    go_ret
    exact ⟨ret_bool Hs.out.symm, HB0.out⟩
  by_cases h7 : 7 < n
  · have Hs := Lib.hid (vnet_no_n (ss := ss) (.inr h7))
    have HB0 := Lib.hid hB0
    clear hm hr hB0
    go_enter Try.func60, Try.ntmps60
    go_wp2
    go_ret
    exact ⟨ret_bool Hs.out.symm, HB0.out⟩
  by_cases h12 : 12 < m
  · have Hs := Lib.hid (vnet_no_len (n := n) (ss := ss) (by omega))
    have HB0 := Lib.hid hB0
    clear hm hr hB0
    go_enter Try.func60, Try.ntmps60
    go_wp2
    go_ret
    exact ⟨ret_bool Hs.out.symm, HB0.out⟩
  have Hs := Lib.hid (vnet_all (n := n) (ss := ss) (by omega) (by omega) (by omega))
  obtain ⟨W, HW⟩ : ∃ W, Hid (w.alloc (.cells #[.int .i64 n] 3) = W) := ⟨_, rfl⟩
  have hsz : W.heap.size = w.heap.size + 1 := by rw [← HW.out]; show (w.heap.push _).size = _; simp
  have hcc : W.cell? ⟨w.heap.size, 0, none⟩ = some (.int .i64 n) := by rw [← HW.out, cell_of_row _ _ _ _ _ _ (heap_alloc_new w _)]; rfl
  have hnx : Below w.heap.size w W := by rw [← HW.out]; exact hB0
  have Hf := Lib.hid (containsNet_any n A c m ss W w.heap.size w.heap.size (hr.below hnx) (by omega) hm (by omega) (by omega) hcc)
  have HB := Lib.hid hnx
  clear hm hr hB0 hcc hnx hsz
  go_enter Try.func60, Try.ntmps60
  go_wp2_with fail
  rw [HW.out]
  refine Hf.out.mono ?_
  rintro e w' ⟨rfl, hnx2⟩
  go_wp2
  go_ret
  exact ⟨ret_bool (by rw [Hs.out]), HB.out.trans (hnx2.mono HB.out.size)⟩
theorem iValidNet_ok : IBool 60 := fun A c m n ss w h => iValidNet_in A c m n ss w h.rd h.len h.most h.wf
theorem iValidNet_is (A : Option Addr) (c m : Nat) (n : Int) (ss : List Str) (w : World) (h : NetIn w A c m n ss) {b : Bool} (hv : vnet n ss = b) :
    Calls Try.prog 60 #[.int .i64 n, .slice A m c] w fun e w' => e = .returned (.bool b) ∧ Below w.heap.size w w' := by
  subst hv; exact iValidNet_ok A c m n ss w h
end Go.Proofs.Ytdhelapgdgekfaa
namespace Go.Proofs.Ytdhelapgdgekfaa
open Go.ChangeShapes Go.WideShapes Go.ChangeAt Go.RowKit
set_option linter.unusedVariables false
set_option maxRecDepth 4000

set_option maxHeartbeats 1600000 in
theorem iNetTable_ok : IRows 19 := by
  intro A c m n ss w hin
  by_cases hv : vnet n ss = true
  · have H1 := Lib.hid (iValidNet_is A c m n ss w hin hv)
    obtain ⟨k, rfl, hk1, hk7⟩ := vnet_nat hv
    have Hv := Lib.hid hv
    have Hm := Lib.hid hin.len
    have Hr := Lib.hid hin.rd
    have Ht := Lib.hid (fun W => tableW_any k W hk1 hk7)
    clear hv hin
    go_enter Try.func19, Try.ntmps19
    go_wp2
    go_step3
    go_wp2_with fail
    refine H1.out.mono ?_
    rintro e w1 ⟨rfl, hnx1⟩
    go_wp2_with fail
    refine (Ht.out w1).mono ?_
    rintro e w2 ⟨v, VR, rfl, hO, hT, hnx2⟩
    obtain ⟨A', c', rfl, -, -, hA⟩ := own_sliceN hO
    obtain ⟨g, rfl, -, -⟩ := hA (by omega)
    have HO := Lib.hid (show Outer w2 w.heap.size k (.slice (some ⟨g, 0, none⟩) k c') VR from ownG_base hO hnx1.size)
    have HT := Lib.hid (hT.base hnx1.size)
    have HB := Lib.hid (hnx1.trans (hnx2.mono hnx1.size))
    clear hO hT hA hnx2 hnx1
    go_wp2
    go_step3
    go_wp2
    go_loopg [16] (totX ownX k) (fun gk s wr => ∃ X, totX X k ≤ gk ∧ Hid (Rlx ss k X) ∧ Hid (Outer wr w.heap.size k (.slice (some ⟨g, 0, none⟩) k c') VR) ∧ Hid (TT wr w.heap.size k VR (rowX X k)) ∧ Hid (Below w.heap.size w wr))
    case atStart => exact ⟨ownX, Nat.le_refl _, rlx_start ss k, HO, HT, HB⟩
    case round =>
      clear HO HT HB
      obtain ⟨X, hgk, HX, HO, HT, HB⟩ := hrel
      obtain ⟨GK, HGK⟩ : ∃ G, Hid (gk = G) := ⟨_, rfl⟩
      rw [HGK.out] at hgk
      have hm12 : m ≤ 12 := by have := ((vnet_iff _ _).1 Hv.out).2.1; rw [Hm.out] at this; exact this
      go_wp2
      go_loopg [16] m (fun gi s wi => ∃ i : Nat, i ≤ m ∧ m - i ≤ gi ∧ s = .int .i64 i ∧ Hid (∀ q, q < i → ∀ a, a < k → CzS X k ss q a) ∧ Hid (Outer wi w.heap.size k (.slice (some ⟨g, 0, none⟩) k c') VR) ∧ Hid (TT wi w.heap.size k VR (rowX X k)) ∧ Hid (Below w.heap.size w wi))
      case atStart => exact ⟨0, Nat.zero_le _, by omega, rfl, fun q hq => by omega, HO, HT, HB⟩
      case round =>
        clear HO HT HB
        obtain ⟨i, him, hgi, rfl, HC, HO, HT, HB⟩ := hrel
        by_cases hlt : i < m
        · obtain ⟨b, off, x, y, z, rfl, hbw, HP, hcx, hcy, hcz⟩ := (Hr.out.below HB.out).x (k := i) (by rw [Hm.out]; exact hlt)
          have hok := ((vnet_iff _ _).1 Hv.out).2.2 _ (getD_mem3 (k := i) (by rw [Hm.out]; exact hlt))
          rw [HP.out] at hok
          obtain ⟨⟨hx0, hx1⟩, ⟨hy0, hy1⟩, hz1, hz9⟩ := hok
          simp only at hx0 hx1 hy0 hy1 hz1 hz9
          obtain ⟨u, rfl⟩ := Int.eq_ofNat_of_zero_le hx0
          obtain ⟨v, rfl⟩ := Int.eq_ofNat_of_zero_le hy0
          have hbs := (Below.refl wr.heap.size wr).alloc (Nat.le_refl _) (.cells #[.int .i64 u, .int .i64 v, .int .i64 z] 75)
          have hBW := HB.out.alloc HB.out.size (.cells #[.int .i64 u, .int .i64 v, .int .i64 z] 75)
          have Hst := Lib.hid (addStreet_any (wr.alloc (.cells #[.int .i64 u, .int .i64 v, .int .i64 z] 75)) w.heap.size k g c' u v VR ss X z hk7 HX.out (ownN_below HO.out hbs) (HT.out.below hbs) hBW.size (by omega) (by omega) ⟨hz1, hz9⟩ ⟨_, getD_mem3 (by rw [Hm.out]; exact hlt), by rw [HP.out], by rw [HP.out]; exact .inl ⟨rfl, rfl⟩⟩)
          have HBW := Lib.hid hBW
          clear hbs hBW HO HT HB
          go_wp2_with fail
          refine Hst.out.mono ?_
          rintro e w3 ⟨X', t, rfl, hX3, hC3, hO3, hT3, hB3, -⟩
          have HX3 := Lib.hid hX3
          have HO3 := Lib.hid hO3
          have HT3 := Lib.hid hT3
          have HB3 := Lib.hid (HBW.out.trans hB3)
          rcases hC3 with ⟨rfl, hlt3⟩ | ⟨rfl, rfl, hcz3⟩
          · clear hX3 hO3 hT3 hB3
            go_wp2
            go_roundg (totX X' k)
            case measure => have := HGK.out; omega
            case rel => exact ⟨X', Nat.le_refl _, HX3, HO3, HT3, HB3⟩
          · have HC3 : Hid (∀ q, q < i + 1 → ∀ a, a < k → CzS X' k ss q a) := fun q hq a ha => by
              by_cases e : q = i
              · subst e
                intro u' v' h1 h2
                rw [HP.out] at h1 h2 ⊢
                simp only at h1 h2 ⊢
                have e1 : u' = u := by omega
                have e2 : v' = v := by omega
                subst e1 e2
                exact hcz3 a ha
              · exact HC.out q (by omega) a ha
            clear hX3 hO3 hT3 hB3 hcz3
            go_wp2
            go_roundg (m - (i + 1))
            case measure => omega
            case rel => exact ⟨i + 1, by omega, Nat.le_refl _, by go_num, HC3, HO3, HT3, HB3⟩
        · obtain rfl : i = m := by omega
          have hsh := seen_short Hv.out HX.out ⟨fun q hq a ha => HC.out q (by rw [← Hm.out]; exact hq) a ha, fun b hb => by omega, fun u v _ _ => ⟨fun h => by omega, fun h => by omega⟩⟩
          have HTe := Lib.hid (HT.out.congr (ls' := rowX (sht k ss) k) (fun j hj => rowX_congr fun b hb => sht_is Hv.out hsh hj hb))
          clear hsh
          go_wp2
          try rw [Exit.noGoto_ret]
          go_ret
          exact .inr ⟨Hv.out, _, VR, rfl, HO.out, HTe.out, HB.out⟩
  · have hv' : vnet n ss = false := by simpa using hv
    have H1 := Lib.hid (iValidNet_is A c m n ss w hin hv')
    have Hv := Lib.hid hv'
    clear hv hv' hin
    go_enter Try.func19, Try.ntmps19
    go_wp2
    go_step3
    go_wp2_with fail
    refine H1.out.mono ?_
    rintro e w1 ⟨rfl, hnx1⟩
    go_wp2
    go_ret
    exact .inl ⟨Hv.out, rfl, hnx1⟩
end Go.Proofs.Ytdhelapgdgekfaa
namespace Go.Proofs.Ytdhelapgdgekfaa
open Go.ChangeShapes Go.WideShapes Go.ChangeAt Go.RowKit
set_option linter.unusedVariables false

theorem szS_any (A : Option Addr) (c n : Nat) (left : Int) (w : World) (hn : n ≤ 9223372036854775807) (hl : 0 ≤ left ∧ left ≤ 1048576) :
    Calls Try.prog 43 #[.slice A n c, .int .i64 left] w fun e w' => e = .returned (.int .i64 (if left < n then -1 else left - n)) ∧ w = w' := by
  by_cases h : left < n
  · have h' : left - n < 0 := by omega
    rw [if_pos h]
    go_enter Try.func43, Try.ntmps43
    go_wp2
    go_ret
    exact ⟨rfl, rfl⟩
  · have h' : ¬ left - n < 0 := by omega
    rw [if_neg h]
    go_enter Try.func43, Try.ntmps43
    go_wp2
    go_ret
    exact ⟨rfl, rfl⟩

theorem toStr_any (x y z : Int) (w : World) :
    Calls Try.prog 91 #[.agg #[.int .i64 x, .int .i64 y, .int .i64 z]] w fun e w' => e = .returned (.agg #[.int .i64 x, .int .i64 y, .int .i64 z]) ∧ Below w.heap.size w w' := by
  go_enter Try.func91, Try.ntmps91
  go_wp2
  exact bodyPost_ret (v := .agg #[.int .i64 x, .int .i64 y, .int .i64 z]) (by simp [results, Try.results91, go_sem]) rfl ⟨rfl, (((Below.refl _ _).alloc (Nat.le_refl _) _).alloc (by simp [go_sem]) _).alloc (by simp [go_sem]; omega) _⟩

theorem eqStr_any (x y z x' y' z' : Int) (w : World) :
    Calls Try.prog 92 #[.agg #[.int .i64 x, .int .i64 y, .int .i64 z], .agg #[.int .i64 x', .int .i64 y', .int .i64 z']] w fun e w' => e = .returned (.bool (decide (x = x') && (decide (y = y') && decide (z = z')))) ∧ Below w.heap.size w w' := by
  by_cases h1 : x = x' <;> by_cases h2 : y = y' <;> by_cases h3 : z = z'
  all_goals
    have g1 : (x != x') = !(decide (x = x')) := by by_cases h : x = x' <;> simp [h]
    have g2 : (y != y') = !(decide (y = y')) := by by_cases h : y = y' <;> simp [h]
    have g3 : (z != z') = !(decide (z = z')) := by by_cases h : z = z' <;> simp [h]
    simp only [h1, h2, h3, decide_true, decide_false, Bool.not_true, Bool.not_false] at g1 g2 g3
    go_enter Try.func92, Try.ntmps92
    go_wp2
    go_ret
    exact ⟨ret_bool (by simp [h1, h2, h3]), ((Below.refl _ _).alloc (Nat.le_refl _) _).alloc (by simp [go_sem]) _⟩

theorem eqStr_yes (x y z x' y' z' : Int) (w : World) (h1 : x = x') (h2 : y = y') (h3 : z = z') :
    Calls Try.prog 92 #[.agg #[.int .i64 x, .int .i64 y, .int .i64 z], .agg #[.int .i64 x', .int .i64 y', .int .i64 z']] w fun e w' => e = .returned (.bool true) ∧ Below w.heap.size w w' :=
  (eqStr_any x y z x' y' z' w).mono fun _ _ ⟨he, hw⟩ => ⟨by rw [he]; simp [h1, h2, h3], hw⟩
theorem eqStr_no (x y z x' y' z' : Int) (w : World) (h : x ≠ x' ∨ y ≠ y' ∨ z ≠ z') :
    Calls Try.prog 92 #[.agg #[.int .i64 x, .int .i64 y, .int .i64 z], .agg #[.int .i64 x', .int .i64 y', .int .i64 z']] w fun e w' => e = .returned (.bool false) ∧ Below w.heap.size w w' :=
  (eqStr_any x y z x' y' z' w).mono fun _ _ ⟨he, hw⟩ => ⟨by rw [he]; rcases h with h | h | h <;> simp [h], hw⟩
/-- A copy of streets in a new block. -/
def CopiedS (w : World) (ts : List Str) (e : Ending) (w' : World) : Prop :=
  ∃ b, e = .returned (.slice (some ⟨b, 0, none⟩) ts.length ts.length) ∧ w.heap.size ≤ b ∧ RdS w' w'.heap.size (some ⟨b, 0, none⟩) ts ∧ Below w.heap.size w w' ∧ w'.ownsRow w.heap.size 75 3 (.slice (some ⟨b, 0, none⟩) ts.length ts.length) ts.length ((flat3 ts).map (Value.int .i64))
theorem strInfo : (Try.prog.info? 75).map (fun i => (i.zero, i.size, i.bytes)) = some (some (.agg #[.int .i64 0, .int .i64 0, .int .i64 0]), 3, 24) := by kernel_rfl
theorem made_three (n : Nat) : (madeCells (Value.agg #[.int .i64 0, .int .i64 0, .int .i64 0]).cells (n * 3)).toList = List.replicate (n * 3) (Value.int .i64 0) := by
  apply List.ext_getElem?
  intro j
  by_cases hj : j < n * 3
  · have h3 : j % 3 = 0 ∨ j % 3 = 1 ∨ j % 3 = 2 := by omega
    rcases h3 with h3 | h3 | h3 <;> simp [madeCells, Value.cells, hj, h3]
  · simp [madeCells, hj]
set_option maxHeartbeats 400000 in
theorem toS_any (A : Option Addr) (c : Nat) (n : Nat) (ts : List Str) (w : World) (hr : RdS w w.heap.size A ts) (hn : ts.length = n) (hb : n ≤ 1048576) :
    Calls Try.prog 45 #[.slice A n c] w (CopiedS w ts) := by
  obtain ⟨i0, hi0, hz0, hz1, hz2⟩ := info_parts strInfo
  have Hn := Lib.hid hn
  have HL := Lib.hid (show (flat3 ts).length = n * 3 by rw [flat3_len, hn])
  clear hn
  go_enter Try.func45, Try.ntmps45
  go_wp2_with (at_make; refine wpList_make_full _ rfl _ _ 29 rfl w.heap.size 75 i0 _ 3 Try.underlying29 hi0 hz0 hz1 _ _ _ _ n rfl rfl rfl rfl (by rw [hz2]; omega) (by unfold maxLen; omega) (Nat.le_refl _) ?_; intro w1 hown1 hg1)
  have hs1 : w.heap.size < w1.heap.size := (hown1.lt w.heap.size rfl).2
  have hnx1 : Below w.heap.size w w1 := (Below.refl _ _).grown hg1 (Nat.le_refl _) (fun j hj => by cases hj)
  rw [made_three] at hown1
  go_loopw [4] (fun i wr => ∃ k : Nat, k ≤ n ∧ i = .int .i64 k ∧ wr.ownsRow w.heap.size 75 3 (.slice (some ⟨w.heap.size, 0, none⟩) n n) n (fillL (flat3 ts) (k * 3)) ∧ Below w.heap.size w wr)
    (fun i _ => n - (intOf i).toNat)
  case atStart => exact ⟨0, Nat.zero_le _, rfl, by simpa [fillL, HL.out] using hown1, hnx1⟩
  case round =>
    obtain ⟨k, hk, rfl, hown, hnx⟩ := hrel
    by_cases hlt : k < n
    · obtain ⟨b, off, x, y, z, rfl, hbw, Hx, hcx, hcy, hcz⟩ := (hr.below hnx).x (k := k) (by rw [Hn.out]; exact hlt)
      go_wp2_with fail
      refine (toStr_any x y z wr).mono ?_
      rintro e wr2 ⟨rfl, hnx2⟩
      have hnx3 := hnx.trans (hnx2.mono hnx.size)
      have hown2 : wr2.ownsRow w.heap.size 75 3 (.slice (some ⟨w.heap.size, 0, none⟩) n n) n (fillL (flat3 ts) (k * 3)) := ownN_below hown hnx2
      obtain ⟨v1, hv1⟩ := own_cell hown2 (j := k * 3) (by omega) (by rw [fillL_len _ (by rw [HL.out]; omega)]; exact HL.out)
      obtain ⟨v2, hv2⟩ := own_cell hown2 (j := k * 3 + 1) (by omega) (by rw [fillL_len _ (by rw [HL.out]; omega)]; exact HL.out)
      obtain ⟨v3, hv3⟩ := own_cell hown2 (j := k * 3 + 2) (by omega) (by rw [fillL_len _ (by rw [HL.out]; omega)]; exact HL.out)
      have hf1 := hown2.frozenAt (k * 3)
      have hf2 := hown2.frozenAt (k * 3 + 1)
      have hf3 := hown2.frozenAt (k * 3 + 2)
      have HS := Lib.hid (fill_step (by rw [HL.out]; omega) (fill_step (by rw [HL.out]; omega) (fill_step (by rw [HL.out]; omega) hown2)))
      have HB := Lib.hid hnx3
      clear hown2 hnx3 hnx2 hown hnx hcx hcy hcz
      go_wp2
      go_roundw
      case rel => exact ⟨k + 1, by omega, by go_num, by have h := HS.out; rw [flat3_0 _ _ (by rw [Hn.out]; omega), flat3_1 _ _ (by rw [Hn.out]; omega), flat3_2 _ _ (by rw [Hn.out]; omega), Hx.out] at h; rw [show (k + 1) * 3 = k * 3 + 1 + 1 + 1 by omega]; exact h, ((HB.out.setCell (Nat.le_refl _) _).setCell (Nat.le_refl _) _).setCell (Nat.le_refl _) _⟩
      case measure => simp [intOf]; omega
    · have HO := Lib.hid hown
      clear hown
      go_wp2
      go_ret
      have hkn : k = n := by omega
      subst hkn
      have ho := HO.out
      rw [fillL_all _ (by rw [HL.out]; omega)] at ho
      have hn := Hn.out
      subst hn
      exact ⟨w.heap.size, rfl, Nat.le_refl _, rdI_of_ownN ho HL.out, hnx, ho⟩

theorem eqSt_no {k : Nat} {ts ts' : List Str} (e : ¬ ts.getD k str0 = ts'.getD k str0) : (ts == ts') = false := by
  rw [beq_eq_false_iff_ne]
  rintro rfl
  exact e rfl
theorem eqSt_end {n k : Nat} {ts ts' : List Str} (h : ∀ i, i < k → ts.getD i str0 = ts'.getD i str0) (hn : ts.length = n) (hn' : ts'.length = n) (hk : n ≤ k) : (ts == ts') = true := by
  have e : ts = ts' := by
    apply List.ext_getElem (by omega)
    intro i h1 h2
    have := h i (by omega)
    simpa [List.getD, List.getElem?_eq_getElem h1, List.getElem?_eq_getElem h2] using this
  rw [e]; simp

set_option maxHeartbeats 800000 in
theorem eqS_any (A A' : Option Addr) (c c' n n' : Nat) (ts ts' : List Str) (w : World) (B B' : Nat) (hr : RdS w B A ts) (hn : ts.length = n) (hr' : RdS w B' A' ts') (hn' : ts'.length = n') (hb : n ≤ 1048576) (hB : B ≤ w.heap.size) (hB' : B' ≤ w.heap.size) :
    Calls Try.prog 46 #[.slice A n c, .slice A' n' c'] w fun e w' => e = .returned (.bool (ts == ts')) ∧ Below w.heap.size w w' := by
  by_cases hnn : n = n'
  · subst hnn
    have Hn := Lib.hid hn
    have Hn' := Lib.hid hn'
    clear hn hn'
    go_enter Try.func46, Try.ntmps46
    go_wp2
    go_loopw [5] (fun i wr => ∃ k : Nat, k ≤ n ∧ Hid (∀ i, i < k → ts.getD i str0 = ts'.getD i str0) ∧ i = .int .i64 k ∧ Below w.heap.size w wr) (fun i wr => n - (intOf i).toNat)
    case atStart => exact ⟨0, Nat.zero_le _, fun i hi => by omega, rfl, Below.refl _ _⟩
    case round =>
      obtain ⟨k, hk, Hk, rfl, hnx⟩ := hrel
      by_cases hlt : k < n
      · obtain ⟨b, off, x, y, z, rfl, hbw, Hx, hcx, hcy, hcz⟩ := (hr.below (hnx.mono hB)).x (k := k) (by rw [Hn.out]; exact hlt)
        obtain ⟨b', off', x', y', z', rfl, hbw', Hy, hcx', hcy', hcz'⟩ := (hr'.below (hnx.mono hB')).x (k := k) (by rw [Hn'.out]; exact hlt)
        go_wp2_with fail
        by_cases he : x = x' ∧ y = y' ∧ z = z'
        · have Hs := Lib.hid (show ∀ i, i < k + 1 → ts.getD i str0 = ts'.getD i str0 from fun i hi => by
            by_cases e : i = k
            · rw [e, Hx.out, Hy.out, he.1, he.2.1, he.2.2]
            · exact Hk.out i (by omega))
          obtain ⟨rfl, rfl, rfl⟩ := he
          go_region_with (go_at_call 92; refine (eqStr_yes x y z x y z _ rfl rfl rfl).mono ?_; rintro e wr2 ⟨rfl, hnx2⟩)
          all_goals
            have hnx3 := hnx.trans ((belowd hnx2).mono hnx.size)
            go_wp2
            go_roundw
            case rel => exact ⟨k + 1, by omega, Hs, by go_num, hnx3⟩
            case measure => simp [intOf]; omega
        · have Hs := Lib.hid (eqSt_no (ts := ts) (ts' := ts') (k := k) (by rw [Hx.out, Hy.out]; intro h; exact he ⟨congrArg Prod.fst h, congrArg (fun p => p.2.1) h, congrArg (fun p => p.2.2) h⟩))
          have he' := Lib.hid (show x ≠ x' ∨ y ≠ y' ∨ z ≠ z' by omega)
          clear he
          go_region_with (go_at_call 92; refine (eqStr_no x y z x' y' z' _ he'.out).mono ?_; rintro e wr2 ⟨rfl, hnx2⟩)
          all_goals
            have hnx3 := hnx.trans ((belowd hnx2).mono hnx.size)
            go_wp2
            go_ret
            exact ⟨ret_bool Hs.out.symm, hnx3⟩
      · have hs := eqSt_end Hk.out Hn.out Hn'.out (by omega)
        have Hs := Lib.hid hs
        clear hs
        go_wp2
        go_ret
        exact ⟨ret_bool Hs.out.symm, hnx⟩
  · have hs : (ts == ts') = false := by
      rw [beq_eq_false_iff_ne]
      rintro rfl
      omega
    have hb1 : ((n : Int) != (n' : Int)) = true := by rw [bne_iff_ne]; omega
    have Hs := Lib.hid hs
    clear hs hn hn' hnn
    go_enter Try.func46, Try.ntmps46
    go_wp2
    go_ret
    exact ⟨ret_bool Hs.out.symm, Below.refl _ _⟩
theorem eqS_same (A A' : Option Addr) (c c' n n' : Nat) (ts : List Str) (w : World) (B B' : Nat) (hr : RdS w B A ts) (hn : ts.length = n) (hr' : RdS w B' A' ts) (hn' : ts.length = n') (hb : n ≤ 1048576) (hB : B ≤ w.heap.size) (hB' : B' ≤ w.heap.size) :
    Calls Try.prog 46 #[.slice A n c, .slice A' n' c'] w fun e w' => e = .returned (.bool true) ∧ Below w.heap.size w w' :=
  (eqS_any A A' c c' n n' ts ts w B B' hr hn hr' hn' hb hB hB').mono fun _ _ ⟨he, hw⟩ => ⟨by rw [he]; simp, hw⟩
theorem szS_big (A : Option Addr) (c n : Nat) (w : World) (hn : n ≤ 9223372036854775807) (h : 1048576 < n) :
    Calls Try.prog 43 #[.slice A n c, .int .i64 1048576] w fun e w' => e = .returned (.int .i64 (-1)) ∧ w = w' :=
  (szS_any A c n 1048576 w hn (by omega)).mono fun _ _ ⟨he, hw⟩ => ⟨by rw [he, if_pos (by omega)], hw⟩
theorem szS_fits (A : Option Addr) (c n : Nat) (w : World) (h : n ≤ 1048576) :
    Calls Try.prog 43 #[.slice A n c, .int .i64 1048576] w fun e w' => ∃ q : Int, 0 ≤ q ∧ e = .returned (.int .i64 q) ∧ w = w' :=
  (szS_any A c n 1048576 w (by omega) (by omega)).mono fun _ _ ⟨he, hw⟩ => ⟨1048576 - n, by omega, by rw [he, if_neg (by omega)], hw⟩

theorem rdS_own {w : World} {B n : Nat} {v : Value} {ss : List Str} (h : w.ownsRow B 75 3 v n ((flat3 ss).map (Value.int .i64))) (hn : ss.length = n) :
    ∃ A c, v = .slice A n c ∧ n ≤ c ∧ c ≤ 9223372036854775807 ∧ RdS w w.heap.size A ss := by
  have h0 := h
  rcases h.2 with ⟨rfl, rfl⟩ | ⟨g, cap, cur, rfl, _, _, hnc, hmx, _⟩
  · refine ⟨none, 0, rfl, Nat.le_refl _, by omega, fun hp => ?_⟩
    rw [flat3_len] at hp; omega
  · exact ⟨_, cap, rfl, hnc, hmx, rdI_of_ownN h0 (by rw [flat3_len, hn])⟩
end Go.Proofs.Ytdhelapgdgekfaa
namespace Go.Proofs.Ytdhelapgdgekfaa
open Go.ChangeShapes Go.WideShapes Go.ChangeAt Go.RowKit
set_option linter.unusedVariables false
set_option maxRecDepth 4000

set_option maxHeartbeats 1600000 in
theorem streetsOf_any (A : Option Addr) (c n : Nat) (ts : List (Int × Int)) (w : World) (hr : RdR w w.heap.size A ts) (hn : ts.length = n) (hb : n ≤ 1099511627776) :
    Calls Try.prog 20 #[.slice A n c] w fun e w' => ∃ A' c', e = .returned (.slice A' (n - 1) c') ∧ n - 1 ≤ c' ∧ c' ≤ 9223372036854775807 ∧ RdS w' w'.heap.size A' (strOf ts) ∧ Below w.heap.size w w' := by
  obtain ⟨i0, hi0, hz0, hz1, hz2⟩ := info_parts strInfo
  have Hn := Lib.hid hn
  have Hr := Lib.hid hr
  have HO0 : Hid ((w.alloc (.cells #[] 75)).ownsRow w.heap.size 75 3 (.slice (some ⟨w.heap.size, 0, none⟩) 0 0) (strOf (ts.take 1)).length ((flat3 (strOf (ts.take 1))).map (Value.int .i64))) := by
    show World.ownsRow _ _ _ _ _ _ _
    have h0 : strOf (ts.take 1) = [] := by apply List.eq_nil_of_length_eq_zero; rw [strOf_len, List.length_take]; omega
    rw [h0]
    exact World.ownsRow_lit w #[] 0 (Nat.le_refl _) (by decide) rfl
  have HB0 := Lib.hid ((Below.refl w.heap.size w).alloc (Nat.le_refl _) (.cells #[] 75))
  clear hn hr
  go_enter Try.func20, Try.ntmps20
  go_wp2
  go_loopw [3, 4] (fun o i wr => ∃ k : Nat, 1 ≤ k ∧ k ≤ n + 1 ∧ i = .int .i64 k ∧ Hid (wr.ownsRow w.heap.size 75 3 o (strOf (ts.take k)).length ((flat3 (strOf (ts.take k))).map (Value.int .i64))) ∧ Hid (Below w.heap.size w wr)) (fun _ i _ => n + 1 - (intOf i).toNat)
  case atStart => exact ⟨1, Nat.le_refl _, by omega, rfl, HO0, HB0⟩
  case round =>
    clear HO0 HB0
    obtain ⟨k, hk1, hkn, rfl, HO, HB⟩ := hrel
    by_cases hlt : k < n
    · have hsl : (strOf (ts.take k)).length = k - 1 := by rw [strOf_len, List.length_take, Hn.out]; omega
      have Hsl := Lib.hid hsl
      have HOs := HO
      rw [hsl] at HOs
      obtain ⟨A', c', rfl, hc1, hc2, -⟩ := own_sliceN HOs.out
      obtain ⟨b, off, x, y, rfl, hbw, Hx, hcx, hcy⟩ := (Hr.out.below HB.out).x (k := k) (by rw [Hn.out]; exact hlt)
      have hstep := strOf_step hk1 (by rw [Hn.out]; exact hlt : k < ts.length)
      rw [Hx.out] at hstep
      have Hstep := Lib.hid hstep
      have hws := HB.out.size
      have hsz : k - 1 + 1 ≤ maxLen := by unfold maxLen; omega
      have hsz2 : (k - 1 + 1) * 24 ≤ 140737488355328 := by omega
      have hsz3 : w.heap.size ≤ (wr.alloc (.cells #[.int .i64 k, .int .i64 x, .int .i64 y] 75)).drew.heap.size := by show w.heap.size ≤ (wr.alloc (.cells #[.int .i64 k, .int .i64 x, .int .i64 y] 75)).heap.size; rw [size_alloc1]; omega
      have hne : (Value.slice A' (k - 1) c').ownBlock ≠ some b := fun e => by have := (HOs.out.lt b e).1; omega
      have hbr : b < wr.heap.size := by omega
      clear hsl hstep HO
      go_wp2_with fail
      go_region_held3 (fun w' => w'.cell? ⟨b, off + k * 2, none⟩ = some (.int .i64 x) ∧ w'.cell? ⟨b, off + k * 2 + 1, none⟩ = some (.int .i64 y))
        (first
          | go_keep
          | (go_split_ands
             refine ⟨?_, ?_⟩
             · (rw [hgrow.cell_far _ (by simp; omega) (Ne.symm hne)]; assumption)
             · (rw [hgrow.cell_far _ (by simp; omega) (Ne.symm hne)]; assumption)))
        ((refine step_append_lies _ (by rfl) _ _ _ (by rfl) w.heap.size 75 i0 _ 3 24 Try.underlying29 hi0 hz0 hz1 hz2 rfl (by decide) (.slice A' (k - 1) c') (k - 1) _ (by rfl) ((HOs.out.alloc _).drew)
            ⟨wr.heap.size, 0, none⟩ 1 1 [.int .i64 k, .int .i64 x, .int .i64 y] (by rfl) (by rfl) (World.news_of_block (cs := #[.int .i64 k, .int .i64 x, .int .i64 y]) (t := 75) (fr := (0, 0)) (heap_alloc_new wr _)) (by simp [Value.oneCell'])
            (by omega) hsz hsz2 hsz3 (wr.heap.size + 1) (by simp) ?_; intro gg cap w3 hown' hgrow hat hlt'))
      have HB3 := Lib.hid (((HB.out.alloc HB.out.size _).drew).grown hgrow hsz3 (fun g h => (HOs.out.lt g h).1))
      have HO3 : Hid (w3.ownsRow w.heap.size 75 3 (.slice (some ⟨gg, 0, none⟩) (k - 1 + 1) cap) (strOf (ts.take (k + 1))).length ((flat3 (strOf (ts.take (k + 1)))).map (Value.int .i64))) := by
        show World.ownsRow _ _ _ _ _ _ _
        rw [Hstep.out, List.length_append, Hsl.out, flat3_append, List.map_append]
        exact hown'
      rw [show k - 1 + 1 = k by omega] at HO3
      clear hown' hgrow HOs hsz hsz2 hsz3 hws hcx hcy hne hbr hat hlt'
      go_wp2
      go_roundw
      case rel => exact ⟨k + 1, by omega, by omega, by go_num, HO3, HB3⟩
      case measure => simp [intOf]; omega
    · have ht : ts.take k = ts := List.take_of_length_le (by rw [Hn.out]; omega)
      have hsl : (strOf ts).length = n - 1 := by rw [strOf_len, Hn.out]
      rw [ht, hsl] at HO
      obtain ⟨A', c', rfl, hc1, hc2, hrd⟩ := rdS_own HO.out hsl
      have Hrd := Lib.hid hrd
      clear ht hsl HO hrd
      go_wp2
      go_ret
      exact ⟨A', c', rfl, hc1, hc2, Hrd.out, HB.out⟩
end Go.Proofs.Ytdhelapgdgekfaa
namespace Go.Proofs.Ytdhelapgdgekfaa
open Go.ChangeShapes Go.WideShapes Go.ChangeAt Go.RowKit
set_option linter.unusedVariables false
set_option maxRecDepth 4000

theorem drawTreeTable_any (A : Option Addr) (c n : Nat) (bs : List Int) (w : World) (hr : RdB w w.heap.size A bs) (hn : bs.length = n) (hc : n ≤ c) (hm : c ≤ 9223372036854775807) :
    Calls Try.prog 15 #[.slice A n c] w (DrawnTree w) := by
  have H := Lib.hid (newReader_any A c n bs w hr hn hc hm)
  clear hn
  go_enter Try.func15, Try.ntmps15
  go_wp2_with fail
  refine H.out.mono ?_
  rintro e w1 ⟨rfl, hg1, hnx1⟩
  go_wp2_with fail
  refine (someTree_any w.heap.size w.heap.size 0 w1 hg1 (by omega)).mono ?_
  rintro e w2 ⟨v, ts, rfl, hl, hown, hg2, hgb2⟩
  obtain ⟨A', c', rfl, hc1, hc2, hrd⟩ := rdR_own hown rfl
  go_wp2
  go_ret
  exact ⟨A', c', ts, rfl, hl, hc1, hc2, hrd, hnx1.trans (gb_below hgb2 (Nat.le_refl _) hnx1.size)⟩
def DrawnTreeK (w : World) (e : Ending) (w' : World) : Prop :=
  ∃ A c, ∃ ts : List (Int × Int), ∃ k : Int, e = .returned (.tuple #[.slice A ts.length c, .int .i64 k]) ∧ -1 ≤ k ∧ k ≤ 51 ∧ ts.length ≤ 7 ∧ ts.length ≤ c ∧ c ≤ 9223372036854775807 ∧ RdR w' w'.heap.size A ts ∧ Below w.heap.size w w'
theorem drawTreeCover_any (A : Option Addr) (c n : Nat) (bs : List Int) (w : World) (hr : RdB w w.heap.size A bs) (hn : bs.length = n) (hc : n ≤ c) (hm : c ≤ 9223372036854775807) :
    Calls Try.prog 21 #[.slice A n c] w (DrawnTreeK w) := by
  have H := Lib.hid (newReader_any A c n bs w hr hn hc hm)
  clear hn
  go_enter Try.func21, Try.ntmps21
  go_wp2_with fail
  refine H.out.mono ?_
  rintro e w1 ⟨rfl, hg1, hnx1⟩
  go_wp2_with fail
  refine (someTree_any w.heap.size w.heap.size 0 w1 hg1 (by omega)).mono ?_
  rintro e w2 ⟨v, ts, rfl, hl, hown, hg2, hgb2⟩
  have Hwo := Lib.hid hown.lt
  have Hown := Lib.hid hown
  clear hown
  go_wp2_with fail
  refine (aFar_any w.heap.size w.heap.size (0 + 40) w2 hg2 (by omega)).mono ?_
  rintro e w3 ⟨k, rfl, hk1, hk2, hg3, hgb3⟩
  have hown3 := Hown.out.kept hgb3 (.inr (fun e => by have := (Hwo.out _ e).1; have := hg1.lt; omega))
  obtain ⟨A', c', rfl, hc1, hc2, hrd⟩ := rdR_own hown3 rfl
  go_wp2
  go_ret2
  exact ⟨A', c', ts, k, rfl, by omega, by omega, hl, hc1, hc2, hrd, hnx1.trans (gb_below (gb_trans hgb2 hgb3 (.inl rfl)) (Nat.le_refl _) hnx1.size)⟩
end Go.Proofs.Ytdhelapgdgekfaa
