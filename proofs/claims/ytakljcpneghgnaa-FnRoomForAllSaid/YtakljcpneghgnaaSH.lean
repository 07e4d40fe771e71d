/-
  Sharing: who may take calls and who takes them, in memory; what stays while calls are given.
  Conditions: as each theorem states.
-/
import Derived.Test.YtakljcpneghgnaaCW
import Derived.Test.YtakljcpneghgnaaKH
namespace Go.Proofs.Ytakljcpneghgnaa
open Go.ChangeShapes Go.WideShapes Go.ChangeAt Go.RowKit Go.Maps
set_option linter.unusedVariables false
set_option maxRecDepth 4000

/-- Nothing of before is written but two blocks. -/
structure Fr (w w' : World) (tb mb : Nat) : Prop where
  os : w'.os = w.os
  tape : w'.tape = w.tape
  output : w'.output = w.output
  size : w.heap.size ≤ w'.heap.size
  block : ∀ i, i < w.heap.size → i ≠ tb → i ≠ mb → w'.heap[i]? = w.heap[i]?
theorem Fr.refl (w : World) (tb mb : Nat) : Fr w w tb mb := ⟨rfl, rfl, rfl, Nat.le_refl _, fun _ _ _ _ => rfl⟩
theorem Fr.trans {a b c : World} {tb mb : Nat} (h : Fr a b tb mb) (k : Fr b c tb mb) : Fr a c tb mb :=
  ⟨k.os.trans h.os, k.tape.trans h.tape, k.output.trans h.output, Nat.le_trans h.size k.size, fun i hi h1 h2 => (k.block i (Nat.lt_of_lt_of_le hi h.size) h1 h2).trans (h.block i hi h1 h2)⟩
theorem Fr.of_below {w w' : World} {tb mb : Nat} (h : Below w.heap.size w w') : Fr w w' tb mb := ⟨h.os, h.tape, h.output, h.size, fun i hi _ _ => h.block i hi⟩
theorem Fr.of_grown {w w' : World} {tb mb : Nat} {row : Option Nat} (h : w.grownBy w' row) (hr : row = some tb ∨ row = some mb ∨ row = none) : Fr w w' tb mb :=
  ⟨h.os, h.tape, h.output, h.size, fun i hi h1 h2 => h.block i hi (fun e => by
    rcases hr with hr | hr | hr
    · rw [hr] at e; injection e with e; exact h1 e
    · rw [hr] at e; injection e with e; exact h2 e
    · rw [hr] at e; cases e)⟩
theorem Fr.alloc {w w' : World} {tb mb : Nat} (h : Fr w w' tb mb) (o : Obj) : Fr w (w'.alloc o) tb mb := h.trans (.of_below ((Below.refl _ _).alloc (Nat.le_refl _) o))
theorem Fr.drew {w w' : World} {tb mb : Nat} (h : Fr w w' tb mb) : Fr w w'.drew tb mb := h.trans (.of_below (Below.refl _ _).drew)
theorem Fr.set {w w' : World} {tb mb j : Nat} (h : Fr w w' tb mb) (v : Value) : Fr w (w'.setCell ⟨tb, j, none⟩ v) tb mb :=
  h.trans ⟨rfl, rfl, rfl, by simp [World.setCell], fun i _ h1 _ => Below.heap_setCell w' _ _ i h1⟩
theorem Fr.cell {w w' : World} {tb mb : Nat} (h : Fr w w' tb mb) {p : Addr} (hp : p.block < w.heap.size) (h1 : p.block ≠ tb) (h2 : p.block ≠ mb) : w'.cell? p = w.cell? p := World.cell?_of_block (h.block p.block hp h1 h2)
theorem Fr.below {w w' : World} {tb mb B : Nat} (h : Fr w w' tb mb) (h1 : B ≤ tb) (h2 : B ≤ mb) (hB : B ≤ w.heap.size) : Below B w w' := ⟨h.os, h.tape, h.output, h.size, fun i hi => h.block i (by omega) (by omega) (by omega)⟩

/-- The helpers, as they are read. -/
def RdH (w : World) (b H : Nat) (room : List Int) : Prop :=
  b < w.heap.size ∧ ∀ i, i < H → w.cell? ⟨b, i * 2, none⟩ = some (.int .u64 ((2 ^ i : Nat) : Int)) ∧ w.cell? ⟨b, i * 2 + 1, none⟩ = some (.int .i64 (rR room i))
/-- What does not change while calls are given. -/
structure Sh (w : World) (room : List Int) (wish : List (List Int)) (H n S hb cb tb mb : Nat) : Prop where
  s : w.heap[S]? = some (.cells #[.slice (some ⟨hb, 0, none⟩) H H, .slice (some ⟨cb, 0, none⟩) n n, .slice (some ⟨tb, 0, none⟩) n n] 52 (0, 0))
  h : RdH w hb H room
  c : RdC w cb n (fun i => (i : Int)) (mS wish)
  ne : S ≠ tb ∧ S ≠ mb ∧ hb ≠ tb ∧ hb ≠ mb ∧ cb ≠ tb ∧ cb ≠ mb ∧ tb ≠ mb
theorem Sh.lt {w : World} {room : List Int} {wish : List (List Int)} {H n S hb cb tb mb : Nat} (h : Sh w room wish H n S hb cb tb mb) : S < w.heap.size := (Array.getElem?_eq_some_iff.1 h.s).1
theorem Sh.fr {w w' : World} {room : List Int} {wish : List (List Int)} {H n S hb cb tb mb : Nat} (h : Sh w room wish H n S hb cb tb mb) (f : Fr w w' tb mb) : Sh w' room wish H n S hb cb tb mb := by
  obtain ⟨n1, n2, n3, n4, n5, n6, n7⟩ := h.ne
  refine ⟨(f.block S h.lt n1 n2).trans h.s, ⟨Nat.lt_of_lt_of_le h.h.1 f.size, fun i hi => ⟨(f.cell h.h.1 n3 n4).trans (h.h.2 i hi).1, (f.cell h.h.1 n3 n4).trans (h.h.2 i hi).2⟩⟩, ⟨Nat.lt_of_lt_of_le h.c.1 f.size, fun i hi => ⟨(f.cell h.c.1 n5 n6).trans (h.c.2 i hi).1, (f.cell h.c.1 n5 n6).trans (h.c.2 i hi).2⟩⟩, h.ne⟩
theorem Sh.cells {w : World} {room : List Int} {wish : List (List Int)} {H n S hb cb tb mb : Nat} (h : Sh w room wish H n S hb cb tb mb) : w.cell? ⟨S, 0, none⟩ = some (.slice (some ⟨hb, 0, none⟩) H H) ∧ w.cell? ⟨S, 1, none⟩ = some (.slice (some ⟨cb, 0, none⟩) n n) ∧ w.cell? ⟨S, 2, none⟩ = some (.slice (some ⟨tb, 0, none⟩) n n) :=
  ⟨by rw [cell_of_row _ _ _ _ _ _ h.s]; rfl, by rw [cell_of_row _ _ _ _ _ _ h.s]; rfl, by rw [cell_of_row _ _ _ _ _ _ h.s]; rfl⟩
/-- Who takes the calls. -/
def tA (M : Nat → Int) (i : Nat) : Nat := if M i = -1 then 0 else 2 ^ (M i).toNat
def tR (room : List Int) (M : Nat → Int) (i : Nat) : Int := if M i = -1 then 0 else rR room (M i).toNat
def tP (M : Nat → Int) (i : Nat) : Value := .int .u64 (tA M i : Nat)
def tQ (room : List Int) (M : Nat → Int) (i : Nat) : Value := .int .i64 (tR room M i)
def Tk (w : World) (B : Nat) (room : List Int) (n tb : Nat) (M : Nat → Int) : Prop := w.ownsRow B 75 2 (.slice (some ⟨tb, 0, none⟩) n n) n (row2 (tP M) (tQ room M) n)
theorem Tk.cells {w : World} {B n tb i : Nat} {room : List Int} {M : Nat → Int} (h : Tk w B room n tb M) (hi : i < n) : w.cell? ⟨tb, i * 2, none⟩ = some (.int .u64 (tA M i : Nat)) ∧ w.cell? ⟨tb, i * 2 + 1, none⟩ = some (.int .i64 (tR room M i)) ∧ w.frozen? ⟨tb, i * 2, none⟩ = false ∧ w.frozen? ⟨tb, i * 2 + 1, none⟩ = false :=
  ⟨(World.ownsRow.cellAt h (i * 2) (by omega)).trans (row2_get0 hi), (World.ownsRow.cellAt h (i * 2 + 1) (by omega)).trans (row2_get1 hi), World.ownsRow.frozenAt h _, World.ownsRow.frozenAt h _⟩
theorem Tk.below {w w' : World} {B n tb : Nat} {room : List Int} {M : Nat → Int} (h : Tk w B room n tb M) (hb : Below w.heap.size w w') : Tk w' B room n tb M := ownN_below h hb
/-- A call gets a helper. -/
theorem Tk.give {w : World} {B n tb c h : Nat} {room : List Int} {M : Nat → Int} (hk : Tk w B room n tb M) (hc : c < n) : Tk ((w.setCell ⟨tb, c * 2, none⟩ (.int .u64 ((2 ^ h : Nat) : Int))).setCell ⟨tb, c * 2 + 1, none⟩ (.int .i64 (rR room h))) B room n tb (upM M c h) := by
  have h1 := (World.ownsRow.stored hk (c * 2) (.int .u64 ((2 ^ h : Nat) : Int))).1
  have h2 := (World.ownsRow.stored h1 (c * 2 + 1) (.int .i64 (rR room h))).1
  rw [row2_set0 _ hc, row2_set1 _ hc] at h2
  unfold Tk
  have hne : ¬ ((h : Nat) : Int) = -1 := by omega
  rw [row2_congr (P' := upd (tP M) c (.int .u64 ((2 ^ h : Nat) : Int))) (Q' := upd (tQ room M) c (.int .i64 (rR room h))) fun i hi => by
    by_cases e : i = c
    · subst e
      rw [upd_at, upd_at]
      simp only [tP, tQ, tA, tR]
      rw [upM_at, if_neg hne, if_neg hne]
      exact ⟨rfl, rfl⟩
    · rw [upd_other _ _ e, upd_other _ _ e]
      simp only [tP, tQ, tA, tR]
      rw [upM_other _ _ e]
      exact ⟨rfl, rfl⟩]
  exact h2
theorem tA_lt {M : Nat → Int} {H i : Nat} (h4 : H ≤ 4) (h : M i = -1 ∨ ∃ h : Nat, h < H ∧ M i = h) : tA M i < 16 := by
  unfold tA
  split
  · omega
  · rcases h with e | ⟨h, hh, e⟩
    · contradiction
    · rw [e]
      exact (Nat.pow_lt_pow_right (by omega) (by show ((h : Nat) : Int).toNat < 4; omega) : 2 ^ ((h : Nat) : Int).toNat < 2 ^ 4)
/-- A call's taker is a helper exactly if the call has this helper. -/
theorem tak_eq {M : Nat → Int} {H i h : Nat} {room : List Int} (h4 : H ≤ 4) (hh : h < H) (hm : M i = -1 ∨ ∃ h : Nat, h < H ∧ M i = h) : (((tA M i : Nat) : Int) = ((2 ^ h : Nat) : Int) ∧ tR room M i = rR room h) ↔ M i = h := by
  unfold tA tR
  constructor
  · rintro ⟨h1, -⟩
    rcases hm with e | ⟨x, hx, e⟩
    · rw [if_pos e] at h1
      have := Nat.two_pow_pos h
      omega
    · have hne : ¬ M i = -1 := by omega
      rw [if_neg hne, e] at h1
      have h2 : 2 ^ ((x : Nat) : Int).toNat = 2 ^ h := by exact_mod_cast h1
      have h3 : ((x : Nat) : Int).toNat = x := by omega
      rw [h3] at h2
      have := pow_inj4 ⟨x, by omega⟩ ⟨h, by omega⟩ h2
      simp only at this
      omega
  · intro e
    have hne : ¬ M i = -1 := by omega
    rw [if_neg hne, if_neg hne, e]
    have h3 : ((h : Nat) : Int).toNat = h := by omega
    rw [h3]
    exact ⟨rfl, rfl⟩
theorem Ask.fr {w w' : World} {room : List Int} {H mb m : Nat} {s : Nat → Bool} {row : Option Nat} (h : Ask w room H mb m s) (hg : w.grownBy w' row) (hne : some mb ≠ row) : Ask w' room H mb m s := by
  obtain ⟨D, hD, h1, h2⟩ := h
  exact ⟨D, hD.kept hg hne, h1, h2⟩
theorem below_grown {w w' : World} (h : Below w.heap.size w w') : w.grownBy w' none := ⟨h.os, h.tape, h.output, h.size, fun i hi _ => h.block i hi⟩
theorem Ask.below {w w' : World} {room : List Int} {H mb m : Nat} {s : Nat → Bool} (h : Ask w room H mb m s) (hb : Below w.heap.size w w') : Ask w' room H mb m s := h.fr (below_grown hb) (by simp)

/-- helpersWith. -/
def MadeHelpers (room : List Int) (H : Nat) (w : World) (e : Ending) (w' : World) : Prop :=
  ∃ b, e = .returned (.slice (some ⟨b, 0, none⟩) H H) ∧ w.heap.size ≤ b ∧ Hid (RdH w' b H room) ∧ Hid (Below w.heap.size w w')
set_option maxHeartbeats 1600000 in
theorem helpersWith_any (A : Option Addr) (c H : Nat) (room : List Int) (w : World) (B : Nat) (hr : RdI w B A room) (hB : B ≤ w.heap.size) (hH : room.length = H) (h4 : H ≤ 4) :
    Calls Try.prog 50 #[.slice A H c] w (MadeHelpers room H w) := by
  obtain ⟨i0, hi0, hz0, hz1, hz2⟩ := info_parts helperInfo
  have HH := Lib.hid hH
  clear hH
  go_enter Try.func50, Try.ntmps50
  go_wp2_with (at_make; refine wpList_make_full _ rfl _ _ 47 rfl w.heap.size 75 i0 _ 2 Try.underlying47 hi0 hz0 hz1 _ _ _ _ H rfl rfl rfl rfl (by rw [hz2]; omega) (by unfold maxLen; omega) (Nat.le_refl _) ?_; intro w1 hown1 hg1)
  have hnx1 : Below w.heap.size w w1 := (Below.refl _ _).grown hg1 (Nat.le_refl _) (fun j hj => by cases hj)
  rw [row2_made (.int .u64 0) (.int .i64 0) H (Value.agg #[.int .u64 0, .int .i64 0]).cells rfl] at hown1
  have HO1 := Lib.hid hown1
  have HB1 := Lib.hid hnx1
  clear hown1 hg1 hnx1
  go_loopw [11] (fun i wr => ∃ k : Nat, ∃ P Q, k ≤ H ∧ i = .int .i64 k ∧ Hid (∀ i, i < k → P i = .int .u64 ((2 ^ i : Nat) : Int) ∧ Q i = .int .i64 (rR room i)) ∧ Hid (wr.ownsRow w.heap.size 75 2 (.slice (some ⟨w.heap.size, 0, none⟩) H H) H (row2 P Q H)) ∧ Hid (Below w.heap.size w wr)) (fun i _ => H - (intOf i).toNat)
  case atStart => exact ⟨0, _, _, Nat.zero_le _, rfl, fun i hi => by omega, HO1, HB1⟩
  case round =>
    clear HO1 HB1
    obtain ⟨k, P, Q, hk, rfl, HM, HO, HB⟩ := hrel
    by_cases hlt : k < H
    · obtain ⟨b, off, x, rfl, hbb, Hx, hcx0⟩ := hr.x (k := k) (by rw [HH.out]; exact hlt)
      have hcx : wr.cell? ⟨b, off + k, none⟩ = some (.int .i64 x) := ((HB.out.mono hB).cell hbb).trans hcx0
      have hxr : rR room k = x := Hx.out
      have hpw := powM_all ⟨k, by omega⟩
      simp only at hpw
      have c0 : wr.cell? ⟨w.heap.size, k * 2, none⟩ = some (P k) := (HO.out.cellAt (k * 2) (by omega)).trans (row2_get0 hlt)
      have c1 : wr.cell? ⟨w.heap.size, k * 2 + 1, none⟩ = some (Q k) := (HO.out.cellAt (k * 2 + 1) (by omega)).trans (row2_get1 hlt)
      have f0 := HO.out.frozenAt (k * 2)
      have f1 := HO.out.frozenAt (k * 2 + 1)
      have h1 := (HO.out.stored (k * 2) (.int .u64 ((2 ^ k : Nat) : Int))).1
      have h2 := (h1.stored (k * 2 + 1) (.int .i64 x)).1
      rw [row2_set0 _ hlt, row2_set1 _ hlt] at h2
      have HN := Lib.hid h2
      have HB2 := Lib.hid ((HB.out.setCell (p := ⟨w.heap.size, k * 2, none⟩) (Nat.le_refl _) (.int .u64 ((2 ^ k : Nat) : Int))).setCell (p := ⟨w.heap.size, k * 2 + 1, none⟩) (Nat.le_refl _) (.int .i64 x))
      have HM2 : Hid (∀ i, i < k + 1 → upd P k (.int .u64 ((2 ^ k : Nat) : Int)) i = .int .u64 ((2 ^ i : Nat) : Int) ∧ upd Q k (.int .i64 x) i = .int .i64 (rR room i)) := fun i hi => by
        by_cases e : i = k
        · subst e; rw [upd_at, upd_at, hxr]; exact ⟨rfl, rfl⟩
        · rw [upd_other _ _ e, upd_other _ _ e]; exact HM.out i (by omega)
      clear h1 h2 hxr hcx0 HO HB
      go_wp2
      go_roundw
      case rel => exact ⟨k + 1, _, _, by omega, by go_num, HM2, HN, HB2⟩
      case measure => simp [intOf]; omega
    · obtain rfl : k = H := by omega
      have HE : Hid (RdH wr w.heap.size k room) := ⟨(HO.out.lt w.heap.size rfl).2, fun i hi => ⟨(HO.out.cellAt (i * 2) (by omega)).trans (by rw [row2_get0 hi, (HM.out i hi).1]), (HO.out.cellAt (i * 2 + 1) (by omega)).trans (by rw [row2_get1 hi, (HM.out i hi).2])⟩⟩
      go_wp2
      go_ret
      exact ⟨_, rfl, Nat.le_refl _, HE, HB⟩
end Go.Proofs.Ytakljcpneghgnaa
