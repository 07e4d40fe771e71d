/-
  NetTable of the program, walked: street by street until nothing changes.
  Conditions: at most 2^20 streets.
-/
import Derived.Test.YtiblcmeoneolcaaAT
import Derived.Test.YtiblcmeoneolcaaTW
import Derived.Test.YtiblcmeoneolcaaVN
import Derived.Deep.LoopGhost
namespace Go.Proofs.Ytiblcmeoneolcaa
open Go.ChangeShapes Go.WideShapes Go.ChangeAt Go.RowKit
set_option linter.unusedVariables false
set_option maxRecDepth 4000

set_option maxHeartbeats 1600000 in
theorem iNetTable_ok : IRows 24 := by
  intro A c m n ss w hin
  by_cases hv : vnet n ss = true
  · have H1 := Lib.hid (iValidNet_is A c m n ss w hin hv)
    obtain ⟨k, rfl, hk1, hk7⟩ := vnet_nat hv
    have Hv := Lib.hid hv
    have Hm := Lib.hid hin.len
    have Hr := Lib.hid hin.rd
    have Ht := Lib.hid (fun W => tableW_any k W hk1 hk7)
    clear hv hin
    go_enter Try.func24, Try.ntmps24
    go_wp2
    go_step3
    go_wp2_with fail
    refine H1.out.mono ?_
    rintro e w1 ⟨rfl, hnx1⟩
    go_wp2_with fail
    refine (Ht.out w1).mono ?_
    rintro e w2 ⟨v, VR, rfl, hO, hT, hnx2⟩
    obtain ⟨A', c', rfl, -, -, hA⟩ := own_sliceN hO
    obtain ⟨g, rfl, -, -⟩ := hA (by omega)
    have HO := Lib.hid (show Outer w2 w.heap.size k (.slice (some ⟨g, 0, none⟩) k c') VR from ownG_base hO hnx1.size)
    have HT := Lib.hid (hT.base hnx1.size)
    have HB := Lib.hid (hnx1.trans (hnx2.mono hnx1.size))
    clear hO hT hA hnx2 hnx1
    go_wp2
    go_step3
    go_wp2
    go_loopg [16] (totX ownX k) (fun gk s wr => ∃ X, totX X k ≤ gk ∧ Hid (Rlx ss k X) ∧ Hid (Outer wr w.heap.size k (.slice (some ⟨g, 0, none⟩) k c') VR) ∧ Hid (TT wr w.heap.size k VR (rowX X k)) ∧ Hid (Below w.heap.size w wr))
    case atStart => exact ⟨ownX, Nat.le_refl _, rlx_start ss k, HO, HT, HB⟩
    case round =>
      clear HO HT HB
      obtain ⟨X, hgk, HX, HO, HT, HB⟩ := hrel
      obtain ⟨GK, HGK⟩ : ∃ G, Hid (gk = G) := ⟨_, rfl⟩
      rw [HGK.out] at hgk
      have hm12 : m ≤ 12 := by have := ((vnet_iff _ _).1 Hv.out).2.1; rw [Hm.out] at this; exact this
      go_wp2
      go_loopg [16] m (fun gi s wi => ∃ i : Nat, i ≤ m ∧ m - i ≤ gi ∧ s = .int .i64 i ∧ Hid (∀ q, q < i → ∀ a, a < k → CzS X k ss q a) ∧ Hid (Outer wi w.heap.size k (.slice (some ⟨g, 0, none⟩) k c') VR) ∧ Hid (TT wi w.heap.size k VR (rowX X k)) ∧ Hid (Below w.heap.size w wi))
      case atStart => exact ⟨0, Nat.zero_le _, by omega, rfl, fun q hq => by omega, HO, HT, HB⟩
      case round =>
        clear HO HT HB
        obtain ⟨i, him, hgi, rfl, HC, HO, HT, HB⟩ := hrel
        by_cases hlt : i < m
        · obtain ⟨b, off, x, y, z, rfl, hbw, HP, hcx, hcy, hcz⟩ := (Hr.out.below HB.out).x (k := i) (by rw [Hm.out]; exact hlt)
          have hok := ((vnet_iff _ _).1 Hv.out).2.2 _ (getD_mem3 (k := i) (by rw [Hm.out]; exact hlt))
          rw [HP.out] at hok
          obtain ⟨⟨hx0, hx1⟩, ⟨hy0, hy1⟩, hz1, hz9⟩ := hok
          simp only at hx0 hx1 hy0 hy1 hz1 hz9
          obtain ⟨u, rfl⟩ := Int.eq_ofNat_of_zero_le hx0
          obtain ⟨v, rfl⟩ := Int.eq_ofNat_of_zero_le hy0
          have hbs := (Below.refl wr.heap.size wr).alloc (Nat.le_refl _) (.cells #[.int .i64 u, .int .i64 v, .int .i64 z] 45)
          have hBW := HB.out.alloc HB.out.size (.cells #[.int .i64 u, .int .i64 v, .int .i64 z] 45)
          have Hst := Lib.hid (addStreet_any (wr.alloc (.cells #[.int .i64 u, .int .i64 v, .int .i64 z] 45)) w.heap.size k g c' u v VR ss X z hk7 HX.out (ownN_below HO.out hbs) (HT.out.below hbs) hBW.size (by omega) (by omega) ⟨hz1, hz9⟩ ⟨_, getD_mem3 (by rw [Hm.out]; exact hlt), by rw [HP.out], by rw [HP.out]; exact .inl ⟨rfl, rfl⟩⟩)
          have HBW := Lib.hid hBW
          clear hbs hBW HO HT HB
          go_wp2_with fail
          refine Hst.out.mono ?_
          rintro e w3 ⟨X', t, rfl, hX3, hC3, hO3, hT3, hB3, -⟩
          have HX3 := Lib.hid hX3
          have HO3 := Lib.hid hO3
          have HT3 := Lib.hid hT3
          have HB3 := Lib.hid (HBW.out.trans hB3)
          rcases hC3 with ⟨rfl, hlt3⟩ | ⟨rfl, rfl, hcz3⟩
          · clear hX3 hO3 hT3 hB3
            go_wp2
            go_roundg (totX X' k)
            case measure => have := HGK.out; omega
            case rel => exact ⟨X', Nat.le_refl _, HX3, HO3, HT3, HB3⟩
          · have HC3 : Hid (∀ q, q < i + 1 → ∀ a, a < k → CzS X' k ss q a) := fun q hq a ha => by
              by_cases e : q = i
              · subst e
                intro u' v' h1 h2
                rw [HP.out] at h1 h2 ⊢
                simp only at h1 h2 ⊢
                have e1 : u' = u := by omega
                have e2 : v' = v := by omega
                subst e1 e2
                exact hcz3 a ha
              · exact HC.out q (by omega) a ha
            clear hX3 hO3 hT3 hB3 hcz3
            go_wp2
            go_roundg (m - (i + 1))
            case measure => omega
            case rel => exact ⟨i + 1, by omega, Nat.le_refl _, by go_num, HC3, HO3, HT3, HB3⟩
        · obtain rfl : i = m := by omega
          have hsh := seen_short Hv.out HX.out ⟨fun q hq a ha => HC.out q (by rw [← Hm.out]; exact hq) a ha, fun b hb => by omega, fun u v _ _ => ⟨fun h => by omega, fun h => by omega⟩⟩
          have HTe := Lib.hid (HT.out.congr (ls' := rowX (sht k ss) k) (fun j hj => rowX_congr fun b hb => sht_is Hv.out hsh hj hb))
          clear hsh
          go_wp2
          try rw [Exit.noGoto_ret]
          go_ret
          exact .inr ⟨Hv.out, _, VR, rfl, HO.out, HTe.out, HB.out⟩
  · have hv' : vnet n ss = false := by simpa using hv
    have H1 := Lib.hid (iValidNet_is A c m n ss w hin hv')
    have Hv := Lib.hid hv'
    clear hv hv' hin
    go_enter Try.func24, Try.ntmps24
    go_wp2
    go_step3
    go_wp2_with fail
    refine H1.out.mono ?_
    rintro e w1 ⟨rfl, hnx1⟩
    go_wp2
    go_ret
    exact .inl ⟨Hv.out, rfl, hnx1⟩
end Go.Proofs.Ytiblcmeoneolcaa
