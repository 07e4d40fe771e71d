/-
  MostTaken of the program, walked.
  Conditions: as the theorem states.
-/
import Derived.Test.YtakljcpneghgnaaGI
import Derived.Deep.RegionWith
import Derived.Deep.CutBlock
import Derived.Deep.CutRange
namespace Go.Proofs.Ytakljcpneghgnaa
open Go.ChangeShapes Go.WideShapes Go.ChangeAt Go.RowKit Go.Maps
set_option linter.unusedVariables false
set_option maxRecDepth 4000

theorem belowA {B : Nat} {a w : World} (h : Below B a w) (hB : B ≤ a.heap.size) (o : Obj) : Below B a (w.alloc o) := h.alloc (Nat.le_trans hB h.size) o
/-- Sharing at its start: nobody takes a call. -/
def Set0 (w wx : World) (room : List Int) (wish : List (List Int)) (H n S hb cb tb : Nat) : Prop :=
  wx.heap[S]? = some (.cells #[.slice (some ⟨hb, 0, none⟩) H H, .slice (some ⟨cb, 0, none⟩) n n, .slice (some ⟨tb, 0, none⟩) n n] 52 (0, 0)) ∧ RdH wx hb H room ∧ RdC wx cb n (fun i => (i : Int)) (mS wish) ∧
    Tk wx w.heap.size room n tb (fun _ => -1) ∧ S ≠ tb ∧ hb ≠ tb ∧ cb ≠ tb ∧ Below w.heap.size w wx
theorem tk_zero {w : World} {B n tb : Nat} {room : List Int} {Z : Array Value} (hB : B ≤ tb) (hn : n ≤ 7) (hz : Z.toList = row2 (fun _ => .int .u64 0) (fun _ => .int .i64 0) n) (hc : w.heap[tb]? = some (.cells Z 75 (0, 0))) : Tk w B room n tb (fun _ => -1) := by
  refine ⟨by rw [row2_len], .inr ⟨tb, n, Z, rfl, hB, hc, Nat.le_refl _, by unfold maxLen; omega, ?_, ?_⟩⟩
  · have := congrArg List.length hz
    rw [row2_len, Array.length_toList] at this
    exact this
  · rw [hz, List.take_of_length_le (by rw [row2_len]; omega)]
    exact row2_congr fun i hi => by simp [tP, tQ, tA, tR]
theorem heap_at (w : World) (o : Obj) (b : Nat) (hb : b = w.heap.size) : (w.alloc o).heap[b]? = some o := by subst hb; exact heap_alloc_new w o
theorem heap_drewH (w : World) (b : Nat) : w.drew.heap[b]? = w.heap[b]? := rfl
/-- All but one block is as it was. -/
structure Ext (w w' : World) (S : Nat) : Prop where
  os : w'.os = w.os
  tape : w'.tape = w.tape
  output : w'.output = w.output
  size : w.heap.size ≤ w'.heap.size
  block : ∀ b, b < w.heap.size → b ≠ S → w'.heap[b]? = w.heap[b]?
theorem Ext.refl (w : World) (S : Nat) : Ext w w S := ⟨rfl, rfl, rfl, Nat.le_refl _, fun _ _ _ => rfl⟩
theorem Ext.alloc {w w' : World} {S : Nat} (h : Ext w w' S) (o : Obj) : Ext w (w'.alloc o) S :=
  ⟨h.os, h.tape, h.output, by rw [size_alloc1]; exact Nat.le_succ_of_le h.size, fun b hb hs => (Below.heap_alloc _ _ _ (Nat.lt_of_lt_of_le hb h.size)).trans (h.block b hb hs)⟩
theorem Ext.set {w w' : World} {S : Nat} (h : Ext w w' S) (j : Nat) (v : Value) : Ext w (w'.setCell ⟨S, j, none⟩ v) S :=
  ⟨h.os, h.tape, h.output, by have := h.size; simpa [World.setCell] using this, fun b hb hs => (Below.heap_setCell _ _ _ _ hs).trans (h.block b hb hs)⟩
theorem Ext.drew {w w' : World} {S : Nat} (h : Ext w w' S) : Ext w w'.drew S := ⟨h.os, h.tape, h.output, h.size, h.block⟩
theorem set_three (w : World) (S : Nat) (x y z a b c : Value) (t : TypeId) (h : w.heap[S]? = some (.cells #[x, y, z] t (0, 0))) : (((w.setCell ⟨S, 0, none⟩ a).setCell ⟨S, 1, none⟩ b).setCell ⟨S, 2, none⟩ c).heap[S]? = some (.cells #[a, b, c] t (0, 0)) := by
  simp [World.setCell, Array.getElem?_modify, h]
theorem set0_of {w1 wh wc wx : World} {room : List Int} {wish : List (List Int)} {H n S hb cb tb : Nat} {Z : Array Value} (hn : n ≤ 7) (hZ : Z.toList = row2 (fun _ => .int .u64 0) (fun _ => .int .i64 0) n)
    (hx : Ext wc wx S) (hS : wx.heap[S]? = some (.cells #[.slice (some ⟨hb, 0, none⟩) H H, .slice (some ⟨cb, 0, none⟩) n n, .slice (some ⟨tb, 0, none⟩) n n] 52 (0, 0)))
    (hT : wx.heap[tb]? = some (.cells Z 75 (0, 0))) (hrh : RdH wh hb H room) (hc : Below wh.heap.size wh wc) (hh : Below w1.heap.size w1 wh) (hcR : RdC wc cb n (fun i => (i : Int)) (mS wish))
    (l1 : w1.heap.size ≤ S) (l2 : w1.heap.size ≤ tb) (n1 : S ≠ tb) (n2 : hb ≠ tb) (n3 : cb ≠ tb) (n4 : S ≠ hb) (n5 : S ≠ cb) : Set0 w1 wx room wish H n S hb cb tb := by
  have hbl := hrh.1
  have hbw : hb < wc.heap.size := Nat.lt_of_lt_of_le hbl hc.size
  have k1 : ∀ j, wx.cell? ⟨hb, j, none⟩ = wh.cell? ⟨hb, j, none⟩ := fun j => (World.cell?_of_block (hx.block hb hbw (Ne.symm n4))).trans (World.cell?_of_block (hc.block hb hbl))
  have k2 : ∀ j, wx.cell? ⟨cb, j, none⟩ = wc.cell? ⟨cb, j, none⟩ := fun j => World.cell?_of_block (hx.block cb hcR.1 (Ne.symm n5))
  refine ⟨hS, ⟨Nat.lt_of_lt_of_le hbw hx.size, fun i hi => ⟨(k1 _).trans (hrh.2 i hi).1, (k1 _).trans (hrh.2 i hi).2⟩⟩, ⟨Nat.lt_of_lt_of_le hcR.1 hx.size, fun i hi => ⟨(k2 _).trans (hcR.2 i hi).1, (k2 _).trans (hcR.2 i hi).2⟩⟩, tk_zero l2 hn hZ hT, n1, n2, n3, ?_⟩
  have hs1 := hh.size
  have hs2 := hc.size
  exact ⟨hx.os.trans (hc.os.trans hh.os), hx.tape.trans (hc.tape.trans hh.tape), hx.output.trans (hc.output.trans hh.output), Nat.le_trans (Nat.le_trans hs1 hs2) hx.size, fun i hi => (hx.block i (by omega) (by omega)).trans ((hc.block i (by omega)).trans (hh.block i hi))⟩
theorem unS_none : ∀ H, unS (fun _ => false) H = H
  | 0 => rfl
  | h + 1 => by simp only [unS]; rw [unS_none h]; rfl
theorem tkn_none : ∀ n, tknM (fun _ => -1) n = 0
  | 0 => rfl
  | n + 1 => by simp only [tknM]; rw [tkn_none n]; rfl
theorem tkn_len (M : Nat → Int) : ∀ n, tknM M n ≤ n
  | 0 => Nat.le_refl _
  | n + 1 => by have := tkn_len M n; simp only [tknM]; split <;> omega
set_option maxHeartbeats 6400000 in
theorem iMostTaken_ok : RNum 21 blv := by
  intro A A' c c' H n room wish w h
  obtain ⟨i0, hi0, hz0, hz1, hz2⟩ := info_parts helperInfo
  have H1 := Lib.hid (iValidRoom_ok A A' c c' H n room wish w h)
  by_cases hv : vroom room wish = true
  · obtain ⟨h4, h7, hR, hW⟩ := (vroom_iff _ _).1 hv
    rw [h.len] at h4 hR
    rw [h.lenw] at h7
    rw [hv] at H1
    have HIn := Lib.hid h
    have Hv := Lib.hid hv
    obtain ⟨Z, HZ⟩ : ∃ Z, Hid (madeCells (Value.agg #[.int .u64 0, .int .i64 0]).cells (n * 2) = Z) := ⟨_, rfl⟩
    have HZl : Hid (Z.toList = row2 (fun _ => .int .u64 0) (fun _ => .int .i64 0) n) := by
      show _ = _; rw [← HZ.out]; exact row2_made (.int .u64 0) (.int .i64 0) n (Value.agg #[.int .u64 0, .int .i64 0]).cells rfl
    have hmake : ∀ W : World, (Instr.makeSlice 47 (.int .i64 (n : Int)) (.int .i64 (n : Int))).run Try.prog W = .ok (.slice (some ⟨W.heap.size, 0, none⟩) n n) (W.alloc (.cells Z 75)) := fun W => by
      have hr := run_make (P := Try.prog) W 47 75 i0 _ Try.underlying47 hi0 hz0 .i64 .i64 n n (by omega) (Int.le_refl _) (by rw [hz2]; omega) (by omega)
      simp only [Int.toNat_natCast, hz1] at hr
      rw [HZ.out] at hr
      exact hr
    have Hyes := Lib.hid (fun (i : Nat) (M M' : Nat → Int) (s : Nat → Bool) (hk : Kpt (rR room) (mayW wish) (oW wish) H n i M) (hi : i < n) (p : PuOk (rR room) (mayW wish) H n M M' i s) => kpt_yes (fun T j hj => by rw [← h.lenw] at hj; exact oW_iff hv T j hj) hk hi p)
    have Hnot := Lib.hid (fun (i : Nat) (M : Nat → Int) (s s' : Nat → Bool) (hk : Kpt (rR room) (mayW wish) (oW wish) H n i M) (hi : i < n) (h0 : ∀ x, ¬ s x = true) (p : PuNo (rR room) (mayW wish) H n M s s') (hx : ∀ x, mayW wish i x → s' x = true) => kpt_no (fun T j hj => by rw [← h.lenw] at hj; exact oW_iff hv T j hj) (fun j x hj hm => by rw [← h.lenw] at hj; rw [← h.len]; exact mayW_lt hv j x hj hm) hk hi h0 p hx)
    have Hend := Lib.hid (fun (M : Nat → Int) (hk : Kpt (rR room) (mayW wish) (oW wish) H n n M) => show blv room wish = ((tknM M n : Nat) : Int) by
      rw [kpt_end (fun T j hj => by rw [← h.lenw] at hj; exact oW_iff hv T j hj) hk]
      unfold blv; rw [if_pos hv, h.len, h.lenw])
    have HRm : Hid (∀ k, k < H → 0 ≤ rR room k ∧ rR room k ≤ 7) := fun k hk => hR k hk
    clear h hv hR hW
    go_enter Try.func21, Try.ntmps21
    go_wp2_with fail
    refine H1.out.mono ?_
    rintro e w1 ⟨rfl, hq1⟩
    have HIn1 := Lib.hid (HIn.out.later hq1)
    have HB1 := Lib.hid hq1
    have HH := Lib.hid (fun (W : World) (hb : Below w1.heap.size w1 W) => helpersWith_any A c H room W _ (HIn1.out.rd.below hb) hb.size HIn1.out.len h4)
    have HC := Lib.hid (fun (W : World) (hb : Below w1.heap.size w1 W) => callsOf_any A' c' n room wish W _ (HIn1.out.rdw.below hb) hb.size HIn1.out.lenw Hv.out)
    clear hq1
    go_upto_region 3 with fail
    go_cut [5, 19] from 13 to 20 (fun sv tv wx => ∃ S hb cb tb : Nat, sv = .pointer (some ⟨S, 0, none⟩) ∧ tv = .slice (some ⟨tb, 0, none⟩) n n ∧ Hid (Set0 w1 wx room wish H n S hb cb tb))
    case first =>
      go_region_with (first
        | (go_at_call 50
           refine (HH.out _ (by repeat (first | exact Below.refl _ _ | refine belowA ?_ (Nat.le_refl _) _ | refine Below.drew ?_))).mono ?_
           rintro e wh ⟨hb, rfl, hhb, hrh, hbh⟩
           have hbh' := hbh.out
           have q1 := hrh.out.1
           have q2 := hhb
           try simp at q2
           have hch : ∀ b j, b < _ → wh.cell? ⟨b, j, none⟩ = _ := fun b j hb => hbh'.cell (p := ⟨b, j, none⟩) hb
           have hfh : ∀ b j, b < _ → wh.frozen? ⟨b, j, none⟩ = _ := fun b j hb => hbh'.frozen (p := ⟨b, j, none⟩) hb
           have HBh : Hid (Below w1.heap.size w1 wh) := Below.trans (by repeat (first | exact Below.refl _ _ | refine belowA ?_ (Nat.le_refl _) _ | refine Below.drew ?_)) (hbh'.mono (by first | omega | (simp; done) | (simp; omega)))
           try (have hl1 : w1.heap.size < wh.heap.size := by have h9 := hbh'.size; (try simp at h9); omega)
           try (have hl2 : w1.heap.size + 1 < wh.heap.size := by have h9 := hbh'.size; (try simp at h9); omega))
        | (go_at_call 51
           refine (HC.out _ (by repeat (first | exact HBh.out | refine belowA ?_ (Nat.le_refl _) _ | refine Below.drew ?_))).mono ?_
           rintro e wc ⟨cb, rfl, hcb, hoc, hbc⟩
           have hbc' := hbc.out
           have q3 := (hoc.out.lt cb rfl).2
           have q4 := hcb
           try simp at q4
           have q5 := hbh'.size
           try simp at q5
           have q6 := hbc'.size
           try simp at q6
           have HcR := Lib.hid (rdC_own (N := fun i => (i : Int)) (M := mS wish) hoc.out)
           have hcc : ∀ b j, b < _ → wc.cell? ⟨b, j, none⟩ = _ := fun b j hb => hbc'.cell (p := ⟨b, j, none⟩) hb
           have hfc : ∀ b j, b < _ → wc.frozen? ⟨b, j, none⟩ = _ := fun b j hb => hbc'.frozen (p := ⟨b, j, none⟩) hb
           have HBc : Hid (Below wh.heap.size wh wc) := Below.trans (by repeat (first | exact Below.refl _ _ | refine belowA ?_ (Nat.le_refl _) _ | refine Below.drew ?_)) (hbc'.mono (by first | omega | (simp; done) | (simp; omega)))
           try (have hl3 : wh.heap.size < wc.heap.size := by have h9 := hbc'.size; (try simp at h9); omega)
           try (have hl4 : wh.heap.size + 1 < wc.heap.size := by have h9 := hbc'.size; (try simp at h9); omega)
           try (have hl5 : w1.heap.size < wc.heap.size := by have h9 := hbc'.size; (try simp at h9); omega)
           try (have hl6 : w1.heap.size + 1 < wc.heap.size := by have h9 := hbc'.size; (try simp at h9); omega)))
      all_goals
        clear hch hfh hcc hfc
        go_wp2_with fail
        go_meet
        refine ⟨_, hb, cb, _, rfl, rfl, ?_⟩
        refine set0_of (wh := wh) (wc := wc) (Z := Z) h7 HZl.out ?_ ?_ ?_ hrh.out HBc.out HBh.out HcR.out ?_ ?_ ?_ ?_ ?_ ?_ ?_
        · (repeat (first | with_reducible exact Ext.refl _ _ | with_reducible refine Ext.drew ?_ | with_reducible refine Ext.alloc ?_ _ | with_reducible refine Ext.set ?_ _ _))
        · (repeat (first | with_reducible refine (heap_drewH _ _).trans ?_ | with_reducible exact heap_at _ _ _ (by first | rfl | omega | (simp; done) | (simp; omega)) | with_reducible refine (Below.heap_alloc _ _ _ (by first | omega | (simp; done) | (simp; omega))).trans ?_ | with_reducible refine set_three _ _ (.slice none 0 0) (.slice none 0 0) (.slice none 0 0) _ _ _ _ ?_ | with_reducible refine (hbc'.block _ (by first | omega | (simp; done) | (simp; omega))).trans ?_ | with_reducible refine (hbh'.block _ (by first | omega | (simp; done) | (simp; omega))).trans ?_))
        · (repeat (first | with_reducible refine (heap_drewH _ _).trans ?_ | with_reducible exact heap_at _ _ _ (by first | rfl | omega | (simp; done) | (simp; omega)) | with_reducible refine (Below.heap_alloc _ _ _ (by first | omega | (simp; done) | (simp; omega))).trans ?_ | with_reducible refine (Below.heap_setCell _ _ _ _ (by first | omega | (simp; done) | (simp; omega))).trans ?_ | with_reducible refine (hbc'.block _ (by first | omega | (simp; done) | (simp; omega))).trans ?_ | with_reducible refine (hbh'.block _ (by first | omega | (simp; done) | (simp; omega))).trans ?_))
        all_goals first | omega | (simp; omega)
    case rest =>
      obtain ⟨S, hb, cb, tb, rfl, rfl, HSet⟩ := hcut
      obtain ⟨hS, hH, hC, hT, n1, n2, n3, hB⟩ := HSet.out
      have HS := Lib.hid hS
      have HHr := Lib.hid hH
      have HCr := Lib.hid hC
      have HTk := Lib.hid hT
      have HBx := Lib.hid hB
      have c1 : wc.cell? ⟨S, 1, none⟩ = some (.slice (some ⟨cb, 0, none⟩) n n) := by rw [cell_of_row _ _ _ _ _ _ hS]; rfl
      have hSl : S < wc.heap.size := (Array.getElem?_eq_some_iff.1 hS).1
      have hhl := hH.1
      have hcl := hC.1
      have htl := (World.ownsRow.lt hT tb rfl).2
      have hsz := hB.size
      clear HSet hS hH hC hT hB
      have Hkz : Hid (Kpt (rR room) (mayW wish) (oW wish) H n 0 (fun _ => -1)) := kpt_zero fun h hh => (HRm.out h hh).1
      have HT0 : Hid (tknM (fun _ => -1) n = 0) := tkn_none n
      have HF0 : Hid (Fr wc wc tb tb) := .refl _ _ _
      have hmm := @run_makeMap Try.prog
      go_wp2
      go_loopw [6, 24] (fun a i wr => ∃ k t : Nat, ∃ M, k ≤ n ∧ t ≤ n ∧ i = .int .i64 k ∧ a = .int .i64 t ∧ Hid (tknM M n = t) ∧ Hid (Kpt (rR room) (mayW wish) (oW wish) H n k M) ∧ Hid (Tk wr w1.heap.size room n tb M) ∧ Hid (Fr wc wr tb tb)) (fun _ i _ => n - (intOf i).toNat)
      case atStart => exact ⟨0, 0, _, Nat.zero_le _, Nat.zero_le _, rfl, rfl, HT0, Hkz, HTk, HF0⟩
      case round =>
        clear HT0 Hkz HTk HF0
        obtain ⟨k, t, M, hk, ht, rfl, rfl, Ht, HK, HT, HF⟩ := hrel
        by_cases hlk : k < n
        · have hfs := HF.out.size
          have hr0 := HCr.out.2 k hlk
          have d0 : wr.cell? ⟨cb, k * 2, none⟩ = some (.int .i64 (k : Int)) := (HF.out.cell hcl n3 n3).trans hr0.1
          have d1 : wr.cell? ⟨cb, k * 2 + 1, none⟩ = some (.int .u64 (mS wish k : Nat)) := (HF.out.cell hcl n3 n3).trans hr0.2
          have hb1 := (Below.refl wr.heap.size wr).alloc (Nat.le_refl _) (.cells #[.int .i64 (k : Int), .int .u64 (mS wish k : Nat)] 55)
          have hb2 := hb1.alloc hb1.size (.map #[] 0)
          have hs1 := size_alloc1 wr (.cells #[.int .i64 (k : Int), .int .u64 (mS wish k : Nat)] 55)
          have hs2 := size_alloc1 (wr.alloc (.cells #[.int .i64 (k : Int), .int .u64 (mS wish k : Nat)] 55)) (.map #[] 0)
          have hA : Ask ((wr.alloc (.cells #[.int .i64 (k : Int), .int .u64 (mS wish k : Nat)] 55)).alloc (.map #[] 0)) room H (wr.heap.size + 1) 0 (fun _ => false) := by
            have h0 := World.ownsMap_made (H := Unit) (wr.alloc (.cells #[.int .i64 (k : Int), .int .u64 (mS wish k : Nat)] 55)) Try.prog 75 (plainElem Try.prog 4)
            rw [hs1] at h0
            exact ⟨_, h0, isMap_empty, fun h hh => rfl⟩
          have hTw := HT.out.below hb2
          have htw : w1.heap.size ≤ tb ∧ tb < wr.heap.size := World.ownsRow.lt HT.out tb rfl
          have hfw : Fr wc ((wr.alloc (.cells #[.int .i64 (k : Int), .int .u64 (mS wish k : Nat)] 55)).alloc (.map #[] 0)) tb tb := HF.out.trans (.of_below hb2)
          have hSh : Sh ((wr.alloc (.cells #[.int .i64 (k : Int), .int .u64 (mS wish k : Nat)] 55)).alloc (.map #[] 0)) room wish H n S hb cb tb (wr.heap.size + 1) := by
            refine ⟨(hfw.block S hSl n1 n1).trans HS.out, ⟨Nat.lt_of_lt_of_le hhl hfw.size, fun i hi => ⟨(hfw.cell hhl n2 n2).trans (HHr.out.2 i hi).1, (hfw.cell hhl n2 n2).trans (HHr.out.2 i hi).2⟩⟩, ⟨Nat.lt_of_lt_of_le hcl hfw.size, fun i hi => ⟨(hfw.cell hcl n3 n3).trans (HCr.out.2 i hi).1, (hfw.cell hcl n3 n3).trans (HCr.out.2 i hi).2⟩⟩, n1, ?_, n2, ?_, n3, ?_, ?_⟩ <;> omega
          have hun : 0 + unS (fun _ => false) H ≤ 4 := by rw [unS_none]; omega
          have Hgv := Lib.hid (give_all (B := w1.heap.size) (S := S) (hb := hb) (cb := cb) (tb := tb) (mb := wr.heap.size + 1) Hv.out HIn.out.len HIn.out.lenw (unS (fun _ => false) H) k 0 M (fun _ => false) _ hSh hTw hA hun hlk (Nat.le_refl _) HK.out.giv (.inl (HK.out.rest k hlk (Nat.le_refl _))))
          have Hb2 := Lib.hid hb2
          have HMk := Lib.hid (HK.out.rest k hlk (Nat.le_refl _))
          clear hr0 hb1 hb2 hA hTw hfw hSh hun
          go_wp2_with fail
          refine Hgv.out.mono ?_
          rintro e w5 ⟨b, M', s', rfl, hv5, hcase⟩
          have HF5 : Hid (Fr wc w5 tb tb) := ⟨hv5.out.fr.os.trans (Hb2.out.os.trans HF.out.os), hv5.out.fr.tape.trans (Hb2.out.tape.trans HF.out.tape), hv5.out.fr.output.trans (Hb2.out.output.trans HF.out.output), Nat.le_trans (Nat.le_trans HF.out.size Hb2.out.size) hv5.out.fr.size, fun i hi h1 _ => (hv5.out.fr.block i (by omega) h1 (by omega)).trans ((Hb2.out.block i (by omega)).trans (HF.out.block i hi h1 h1))⟩
          have HT5 := Lib.hid hv5.out.tk
          cases b with
          | true =>
            have Hok : Hid (Kpt (rR room) (mayW wish) (oW wish) H n (k + 1) M' ∧ tknM M' n = t + 1) := by
              rcases hcase.out with ⟨-, hok⟩ | ⟨h', -⟩
              · refine ⟨Hyes.out k M M' _ HK.out hlk hok, ?_⟩
                rw [tkn_keep (n := n) hok.new (by rw [HMk.out]; omega) hok.keep, if_pos hlk, Ht.out]
              · cases h'
            have htk : t + 1 ≤ n := by rw [← Hok.out.2]; exact tkn_len _ _
            clear hv5 hcase d0 d1
            go_wp2
            go_roundw
            case rel => exact ⟨k + 1, t + 1, M', by omega, htk, by go_num, by go_num, Hok.out.2, Hok.out.1, HT5, HF5⟩
            case measure => simp [intOf]; omega
          | false =>
            have Hno : Hid (M' = M ∧ Kpt (rR room) (mayW wish) (oW wish) H n (k + 1) M) := by
              rcases hcase.out with ⟨h', -⟩ | ⟨-, h1, h2, h3⟩
              · cases h'
              · exact ⟨h1, Hnot.out k M _ s' HK.out hlk (fun x h => by cases h) h2 h3⟩
            have HT6 : Hid (Tk w5 w1.heap.size room n tb M) := by have := HT5.out; rw [Hno.out.1] at this; exact this
            clear hv5 hcase d0 d1
            go_wp2
            go_roundw
            case rel => exact ⟨k + 1, t, M, by omega, ht, by go_num, rfl, Ht, Hno.out.2, HT6, HF5⟩
            case measure => simp [intOf]; omega
        · obtain rfl : k = n := by omega
          have HE : Hid (((t : Nat) : Int) = blv room wish) := by
            show _ = _
            rw [Hend.out M HK.out, Ht.out]
          have htw : w1.heap.size ≤ tb := (World.ownsRow.lt HT.out tb rfl).1
          have HBf : Hid (Below w.heap.size w wr) := HB1.out.trans ((HBx.out.trans (HF.out.below htw htw hsz)).mono HB1.out.size)
          go_wp2
          go_ret
          exact ⟨ret_int HE.out, HBf.out⟩
  · have hv' : vroom room wish = false := by simpa using hv
    have Hs : Hid (blv room wish = -1) := by show _ = _; unfold blv; rw [if_neg hv]
    rw [hv'] at H1
    clear hv hv' h
    go_enter Try.func21, Try.ntmps21
    go_wp2_with fail
    refine H1.out.mono ?_
    rintro e w1 ⟨rfl, hq⟩
    go_wp2
    go_ret
    exact ⟨ret_int Hs.out.symm, hq⟩
end Go.Proofs.Ytakljcpneghgnaa
