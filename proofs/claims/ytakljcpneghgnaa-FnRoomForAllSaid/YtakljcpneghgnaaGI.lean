/-
  give of the program, walked: a call is given to a helper, others moved on if need be.
  Conditions: the lists are those of helpers with room.
-/
import Derived.Test.YtakljcpneghgnaaMR
namespace Go.Proofs.Ytakljcpneghgnaa
open Go.ChangeShapes Go.WideShapes Go.ChangeAt Go.RowKit Go.Maps
set_option linter.unusedVariables false
set_option maxRecDepth 4000

theorem andM_all : ∀ m : Fin 16, ∀ k : Fin 4, (bits BinOp.and IntKind.u64 (m.val : Int) ((2 ^ k.val : Nat) : Int) == 0) = !m.val.testBit k.val := by decide +kernel
theorem grown_setH (w : World) (a : Addr) (u : Value) : w.grownBy (w.setCell a u) (some a.block) :=
  ⟨rfl, rfl, rfl, by simp [World.setCell], fun i hi hne => Below.heap_setCell w _ _ i (by rintro rfl; exact hne rfl)⟩
theorem Gv.drew {room : List Int} {B H n tb mb : Nat} {w w' : World} {M' : Nat → Int} {s' : Nat → Bool} (h : Gv room B H n tb mb w w' M' s') : Gv room B H n tb mb w w'.drew M' s' :=
  ⟨World.ownsRow.drew h.tk, by obtain ⟨m, hm, D, hD, h1, h2⟩ := h.ask; exact ⟨m, hm, D, hD.drew, h1, h2⟩, h.fr.drew⟩
set_option maxHeartbeats 6400000 in
theorem give_step (room : List Int) (wish : List (List Int)) (B H n S hb cb tb mb f : Nat) (hv : vroom room wish = true) (hH : room.length = H) (hn : wish.length = n) (IH : ∀ f', f' < f → GiveAt room wish B H n S hb cb tb mb f') : GiveAt room wish B H n S hb cb tb mb f := by
  intro c m M sn w hS hT hA hm hc hu hg hp
  obtain ⟨h4, h7, hR, -⟩ := (vroom_iff _ _).1 hv
  rw [hH] at h4 hR
  rw [hn] at h7
  have hmc : mS wish c < 16 := mS_lt hv (by rw [hn]; exact hc)
  have Hmay : Hid (∀ h, (mS wish c).testBit h = true ↔ mayW wish c h) := fun h => mS_may hv (by rw [hn]; exact hc) h
  have Hmlt : Hid (∀ h, mayW wish c h → h < H) := fun h hm => by rw [← hH]; exact mayW_lt hv c h (by rw [hn]; exact hc) hm
  have HRb : Hid (∀ h, h < H → 0 ≤ rR room h ∧ rR room h ≤ 7) := fun h hh => hR h hh
  have HRw : Hid (∀ h, h < H → (Lit.int .i64 (rR room h)).wf = true) := fun h hh => by
    have := hR h hh
    exact WalkArith.wf_i64 (by unfold rR; omega)
  have HIH := Lib.hid IH
  have Hv := Lib.hid hv
  have HHH := Lib.hid hH
  have Hn := Lib.hid hn
  have htl := (World.ownsRow.lt hT tb rfl).2
  have hml := hA.lt
  obtain ⟨n1, n2, n3, n4, n5, n6, n7⟩ := hS.ne
  obtain ⟨mc, Hmc⟩ : ∃ mc, Hid (mS wish c = mc) := ⟨_, rfl⟩
  rw [Hmc.out] at hmc Hmay
  have hb0 := (Below.refl w.heap.size w).alloc (Nat.le_refl _) (.cells #[.int .i64 c, .int .u64 (mc : Nat)] 55)
  have hs0 := size_alloc1 w (.cells #[.int .i64 c, .int .u64 (mc : Nat)] 55)
  have hh0 := heap_alloc_new w (.cells #[.int .i64 c, .int .u64 (mc : Nat)] 55)
  have HF0 : Hid (Fr w (w.alloc (.cells #[.int .i64 c, .int .u64 (mc : Nat)] 55)) tb mb) := .of_below hb0
  have hS0 := hS.fr HF0.out
  obtain ⟨e0, -, -⟩ := hS0.cells
  have HV0 : Hid (Gv room B H n tb mb (w.alloc (.cells #[.int .i64 c, .int .u64 (mc : Nat)] 55)) (w.alloc (.cells #[.int .i64 c, .int .u64 (mc : Nat)] 55)) M sn) := ⟨hT.below hb0, ⟨m, hm, hA.below hb0⟩, .refl _ _ _⟩
  have HS0 := Lib.hid hS0
  have Hh0 := Lib.hid hh0
  have Hg := Lib.hid hg
  have Hp := Lib.hid hp
  have Hu := Lib.hid hu
  rw [Hmc.out]
  clear IH hv hH hn hR hS hT hA hg hp hb0 hS0 hh0 hu
  go_enter Try.func52, Try.ntmps52
  go_wp2
  obtain ⟨W0, HW0⟩ : ∃ W0, Hid (w.alloc (.cells #[.int .i64 c, .int .u64 (mc : Nat)] 55) = W0) := ⟨_, rfl⟩
  rw [HW0.out] at HV0 HS0 Hh0 HF0 hs0 e0 ⊢
  go_loopw [14] (fun i wr => ∃ k : Nat, ∃ s, k ≤ H ∧ i = .int .i64 k ∧ Hid (Gv room B H n tb mb W0 wr M s) ∧ Hid (PuNo (rR room) (mayW wish) H n M sn s ∧ ∀ x, x < k → mayW wish c x → s x = true)) (fun i _ => H - (intOf i).toNat)
  case atStart => exact ⟨0, sn, Nat.zero_le _, rfl, HV0, PuNo.refl _ _ _ _ _ _, fun x hx => by omega⟩
  case round =>
    clear HV0 e0
    obtain ⟨k, s, hk, rfl, HV, HP⟩ := hrel
    by_cases hlk : k < H
    · have hfr := HV.out.fr
      have hSr := HS0.out.fr hfr
      have hh1 : wr.heap[w.heap.size]? = some (.cells #[.int .i64 c, .int .u64 (mc : Nat)] 55 (0, 0)) := (hfr.block _ (by omega) (by omega) (by omega)).trans Hh0.out
      obtain ⟨h0, h1⟩ := hSr.h.2 k hlk
      have hrb := HRb.out k hlk
      obtain ⟨x, Hx⟩ : ∃ x, Hid (rR room k = x) := ⟨_, rfl⟩
      obtain ⟨p, Hpp⟩ : ∃ p : Int, Hid (((2 ^ k : Nat) : Int) = p) := ⟨_, rfl⟩
      have hand := andM_all ⟨mc, hmc⟩ ⟨k, by omega⟩
      simp only at hand
      rw [Hx.out] at h1 hrb
      rw [Hpp.out] at h0 hand
      -- the helper's box
      have hb1 := (Below.refl wr.heap.size wr).alloc (Nat.le_refl _) (.cells #[.int .u64 p, .int .i64 x] 75)
      have hs1 := size_alloc1 wr (.cells #[.int .u64 p, .int .i64 x] 75)
      have hk1 := heap_alloc_new wr (.cells #[.int .u64 p, .int .i64 x] 75)
      have hf1 : Fr W0 (wr.alloc (.cells #[.int .u64 p, .int .i64 x] 75)) tb mb := hfr.trans (.of_below hb1)
      have hbx : (wr.alloc (.cells #[.int .u64 p, .int .i64 x] 75)).heap[w.heap.size]? = some (.cells #[.int .i64 c, .int .u64 (mc : Nat)] 55 (0, 0)) := (hf1.block _ (by omega) (by omega) (by omega)).trans Hh0.out
      have d1 : (wr.alloc (.cells #[.int .u64 p, .int .i64 x] 75)).cell? ⟨w.heap.size, 1, none⟩ = some (.int .u64 (mc : Nat)) := by rw [cell_of_row _ _ _ _ _ _ hbx]; rfl
      obtain ⟨m1, hm1, hA1⟩ := HV.out.ask
      have hA2 := hA1.below hb1
      have HV1 : Hid (Gv room B H n tb mb W0 (wr.alloc (.cells #[.int .u64 p, .int .i64 x] 75)) M s) := ⟨HV.out.tk.below hb1, ⟨m1, hm1, hA2⟩, hf1⟩
      have hlook := hA2.look hlk h4 (HRw.out k hlk)
      unfold kvH at hlook
      rw [Hx.out, Hpp.out] at hlook
      by_cases hbit : mc.testBit k = true
      · rw [hbit] at hand
        have hand2 : (bits BinOp.and IntKind.u64 (mc : Int) p == 0) = false := hand
        by_cases hsk : s k = true
        · rw [hsk] at hlook
          have HP2 : Hid (PuNo (rR room) (mayW wish) H n M sn s ∧ ∀ x, x < k + 1 → mayW wish c x → s x = true) := ⟨HP.out.1, fun y hy hm => by
            by_cases e : y = k
            · subst e; exact hsk
            · exact HP.out.2 y (by omega) hm⟩
          clear hsk hbit hand hfr hSr hh1 hb1 hs1 hk1 hf1 hbx hA1 hA2
          go_wp2
          go_roundw
          case rel => exact ⟨k + 1, s, by omega, by go_num, HV1, HP2⟩
          case measure => simp [intOf]; omega
        · have hsf : s k = false := by simpa using hsk
          rw [hsf] at hlook
          have HmayK := Lib.hid ((Hmay.out k).1 hbit)
          have hkey : keyOf Try.prog 75 (.agg #[.int .u64 p, .int .i64 x]) = some (kkH p x) := by
            rw [← Hpp.out, ← Hx.out]
            exact keyH_mk (wfU k (by omega)) (HRw.out k hlk)
          have HR1 := Lib.hid hsk
          have huM := unS_mark (s := s) (h := k) hsk hlk
          have huS := unS_mono HP.out.1.grow H
          have hlf : unS (upB s k) H < f := by have := Hu.out; omega
          have hmb1 : m1 + 1 + unS (upB s k) H ≤ 4 := by omega
          have hmx : m1 < maxLen := by unfold maxLen; omega
          obtain ⟨D, hD, hDm, hDat⟩ := hA2
          have HD := Lib.hid hD
          have HDm := Lib.hid hDm
          have HDat := Lib.hid hDat
          have Hf1 := Lib.hid hf1
          have HT1 := Lib.hid HV1.out.tk
          have Hk1 := Lib.hid hk1
          have HS1 := Lib.hid (HS0.out.fr hf1)
          clear hsk hsf hbit hand hfr hSr hh1 hb1 hf1 hbx hA1 hD hDm hDat hk1 huM huS HV1
          go_wp2_with (
            at_mapUpdate
            refine wpList_mapUpdate_own _ rfl _ _ _ 57 rfl 75 4 kLawH Try.underlying57 _ mb m1 D rfl HD.out hmx _ _ (kkH p x) rfl rfl hkey _ [] (plainElem_bool Try.underlying4 true) ?_
            intro w3 hown3 hgrow3
            have hf3 : Fr (wr.alloc (.cells #[.int .u64 p, .int .i64 x] 75)) w3 tb mb := .of_grown hgrow3 (.inr (.inl rfl))
            have HF3 := Lib.hid (Hf1.out.trans hf3)
            have HS3 := Lib.hid (HS1.out.fr hf3)
            have HT3 : Hid (Tk w3 B room n tb M) := World.ownsRow.kept HT1.out hgrow3 (.inr (fun e => n7 (by injection e)))
            have HA3 : Hid (Ask w3 room H mb (m1 + 1) (upB s k)) := Ask.mark (w := w3) HDm.out HDat.out hlk h4 HRw.out (by rw [Hpp.out, Hx.out]; exact hown3)
            have hwr0 := HV.out.fr.size
            have hkh3 : w3.heap[wr.heap.size]? = some (.cells #[.int .u64 p, .int .i64 x] 75 (0, 0)) := (hgrow3.block _ (by omega) (fun e => by injection e with e; omega)).trans Hk1.out
            have hk3s : wr.heap.size < w3.heap.size := (Array.getElem?_eq_some_iff.1 hkh3).1
            have HKH3 := Lib.hid hkh3
            have hmk := makeRoom_any room wish B H n S hb cb tb mb _ k (m1 + 1) M (upB s k) w3 (HIH.out _ hlf) Hv.out HHH.out Hn.out HS3.out HT3.out HA3.out hmb1 (Nat.le_refl _) Hg.out hlk (upB_at s k)
            rw [Hpp.out, Hx.out] at hmk
            have Hmk := Lib.hid hmk
            have k0 : w3.cell? ⟨wr.heap.size, 0, none⟩ = some (.int .u64 p) := by rw [cell_of_row _ _ _ _ _ _ hkh3]; rfl
            have k1 : w3.cell? ⟨wr.heap.size, 1, none⟩ = some (.int .i64 x) := by rw [cell_of_row _ _ _ _ _ _ hkh3]; rfl
            clear hown3 hgrow3 hf3 hkh3 hmk HD HDm HDat Hf1 HT1 Hk1 HS1 hlook hkey)
          refine Hmk.out.mono ?_
          rintro e w4 ⟨b, M', s', rfl, hv4, hcase⟩
          have HF4 := Lib.hid (HF3.out.trans hv4.out.fr)
          have HV4 := Lib.hid (hv4.out.from HF3.out)
          cases b with
          | true =>
            have Hok : Hid (PuOk (rR room) (mayW wish) H n M (upM M' c k) c sn) := by
              rcases hcase.out with ⟨-, ⟨hlt, hMM⟩ | ⟨i, s1, hi, hMi, hgr, hok⟩⟩ | ⟨h', -⟩
              · rw [hMM]
                exact puOk_base Hg.out hc hlk HmayK.out hlt
              · exact puOk_move Hg.out hc hi hlk HmayK.out (fun e => HR1.out (HP.out.1.grow k e)) (fun y hy => hgr y (upB_grow s k y (HP.out.1.grow y hy))) Hp.out hMi hok
              · cases h'
            obtain ⟨-, -, e2⟩ := (HS3.out.fr hv4.out.fr).cells
            have hbx4 : w4.heap[w.heap.size]? = some (.cells #[.int .i64 c, .int .u64 (mc : Nat)] 55 (0, 0)) := (HF4.out.block _ (by omega) (by omega) (by omega)).trans Hh0.out
            have hkh4 : w4.heap[wr.heap.size]? = some (.cells #[.int .u64 p, .int .i64 x] 75 (0, 0)) := (hv4.out.fr.block _ hk3s (by omega) (by omega)).trans HKH3.out
            have b0 : w4.cell? ⟨w.heap.size, 0, none⟩ = some (.int .i64 c) := by rw [cell_of_row _ _ _ _ _ _ hbx4]; rfl
            have q0 : w4.cell? ⟨wr.heap.size, 0, none⟩ = some (.int .u64 p) := by rw [cell_of_row _ _ _ _ _ _ hkh4]; rfl
            have q1 : w4.cell? ⟨wr.heap.size, 1, none⟩ = some (.int .i64 x) := by rw [cell_of_row _ _ _ _ _ _ hkh4]; rfl
            obtain ⟨t0, t1, f0, f1⟩ := hv4.out.tk.cells hc
            obtain ⟨m5, hm5, hA5⟩ := hv4.out.ask
            have hgv := hv4.out.tk.give (h := k) hc
            rw [Hpp.out, Hx.out] at hgv
            have HV5 : Hid (Gv room B H n tb mb w ((w4.setCell ⟨tb, c * 2, none⟩ (.int .u64 p)).setCell ⟨tb, c * 2 + 1, none⟩ (.int .i64 x)) (upM M' c k) s') :=
              ⟨hgv, ⟨m5, hm5, (hA5.fr (grown_setH _ _ _) (fun e => n7 (by injection e with e; exact e.symm))).fr (grown_setH _ _ _) (fun e => n7 (by injection e with e; exact e.symm))⟩, ((HF0.out.trans HF4.out).set _).set _⟩
            clear hv4 hcase HV4 HF4 HS3 HT3 HA3 HF3 hbx4 hkh4 hA5 hgv k0 k1
            go_wp2
            go_region
            go_wp2
            go_ret
            exact ⟨true, _, s', rfl, HV5.out.drew, .inl ⟨rfl, Hok.out⟩⟩
          | false =>
            have Hno : Hid (M' = M ∧ PuNo (rR room) (mayW wish) H n M sn s' ∧ ∀ y, y < k + 1 → mayW wish c y → s' y = true) := by
              rcases hcase.out with ⟨h', -⟩ | ⟨-, hfull, hMM, hno, hall⟩
              · cases h'
              · have h1 := puNo_mark Hg.out hfull hno hall
                refine ⟨hMM, HP.out.1.trans h1, fun y hy hm => ?_⟩
                by_cases e : y = k
                · subst e; exact hno.grow y (upB_at s y)
                · exact h1.grow y (HP.out.2 y (by omega) hm)
            have HV5 : Hid (Gv room B H n tb mb W0 w4 M s') := by have := HV4.out; rw [Hno.out.1] at this; exact this
            clear hv4 hcase HV4 HF4 HS3 HT3 HA3 HF3 k0 k1
            go_wp2
            go_roundw
            case rel => exact ⟨k + 1, s', by omega, by go_num, HV5, Hno.out.2⟩
            case measure => simp [intOf]; omega
      · have hbit2 : mc.testBit k = false := by simpa using hbit
        rw [hbit2] at hand
        have hand2 : (bits BinOp.and IntKind.u64 (mc : Int) p == 0) = true := hand
        have HP2 : Hid (PuNo (rR room) (mayW wish) H n M sn s ∧ ∀ x, x < k + 1 → mayW wish c x → s x = true) := ⟨HP.out.1, fun y hy hm => by
          by_cases e : y = k
          · subst e; exact absurd ((Hmay.out y).2 hm) hbit
          · exact HP.out.2 y (by omega) hm⟩
        clear hbit hbit2 hand hfr hSr hh1 hb1 hs1 hk1 hf1 hbx hA1 hA2 hlook
        go_wp2
        go_roundw
        case rel => exact ⟨k + 1, s, by omega, by go_num, HV1, HP2⟩
        case measure => simp [intOf]; omega
    · obtain rfl : k = H := by omega
      have HVe := Lib.hid (HV.out.from HF0.out)
      have HE : Hid (∀ x, mayW wish c x → s x = true) := fun x hx => HP.out.2 x (Hmlt.out x hx) hx
      go_wp2
      go_ret
      exact ⟨false, M, s, rfl, HVe, .inr ⟨rfl, rfl, HP.out.1, HE.out⟩⟩
theorem give_all {room : List Int} {wish : List (List Int)} {B H n S hb cb tb mb : Nat} (hv : vroom room wish = true) (hH : room.length = H) (hn : wish.length = n) (f : Nat) : GiveAt room wish B H n S hb cb tb mb f := by
  induction f using Nat.strongRecOn with
  | ind f ih => exact give_step room wish B H n S hb cb tb mb f hv hH hn ih
end Go.Proofs.Ytakljcpneghgnaa
