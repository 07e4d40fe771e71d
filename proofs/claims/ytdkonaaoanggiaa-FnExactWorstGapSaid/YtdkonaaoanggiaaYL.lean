/-
  The model's gapsOf and worst, walked.
  Conditions: ascending times below the round's length, of at most 20; at most 8 spots.
-/
import Derived.Test.YtdkonaaoanggiaaYK
import Derived.Test.YtdkonaaoanggiaaYF
namespace Go.Proofs.Ytdkonaaoanggiaa
open Go.ChangeShapes Go.WideShapes Go.ChangeAt Go.RowKit
set_option linter.unusedVariables false
set_option maxRecDepth 4000

/-- Rows of times as gapsOf is given them. -/
def TimesIn (w : World) (B : Nat) (A : Option Addr) (n : Nat) (T : Nat → List Nat) : Prop :=
  ∀ s, s < n → ∃ g a c', A = some ⟨g, 0, none⟩ ∧ (B ≤ g ∧ g < w.heap.size) ∧ (B ≤ a ∧ a < w.heap.size) ∧ w.cell? ⟨g, s, none⟩ = some (.slice (some ⟨a, 0, none⟩) (T s).length c') ∧ ∀ i, i < (T s).length → w.cell? ⟨a, i, none⟩ = some (.int .i64 ((T s).getD i 0 : Nat))
theorem TimesIn.mid {w w' : World} {B : Nat} {A : Option Addr} {n : Nat} {T : Nat → List Nat} (h : TimesIn w B A n T) (hk : ∀ b, B ≤ b → b < w.heap.size → w'.heap[b]? = w.heap[b]?) (hs : w.heap.size ≤ w'.heap.size) : TimesIn w' B A n T := fun s hsn => by
  obtain ⟨g, a, c', e, ⟨hg0, hg⟩, ⟨ha0, ha⟩, h1, h2⟩ := h s hsn
  exact ⟨g, a, c', e, ⟨hg0, Nat.lt_of_lt_of_le hg hs⟩, ⟨ha0, Nat.lt_of_lt_of_le ha hs⟩, (World.cell?_of_block (hk g hg0 hg)).trans h1, fun i hi => (World.cell?_of_block (hk a ha0 ha)).trans (h2 i hi)⟩
theorem TimesIn.later {w w' : World} {B : Nat} {A : Option Addr} {n : Nat} {T : Nat → List Nat} (h : TimesIn w B A n T) (hb : Below w.heap.size w w') : TimesIn w' B A n T := h.mid (fun b _ hb2 => hb.block b hb2) hb.size
theorem timesIn_of {W w : World} {A : Option Addr} {n c l : Nat} {zs : List Int} {vs : List Value} (h : KeptY W w (.slice A n c) (tsY n zs l) vs) : TimesIn w W.heap.size A n (fun (s : Nat) => tmY zs l (s : Int) zs.length) := by
  intro s hs
  have ho := h.own
  rw [tsY_len] at ho
  obtain ⟨g, cap, he, hg1, hg2⟩ := ho.form (by omega)
  injection he with he1 he2 he3
  subst he1 he3
  have hL : (tsY n zs l)[s]? = some (tmI zs l (s : Int) zs.length) := by simp [tsY, hs]
  obtain ⟨A', c', hv, hc, b, cs, rfl, hb, hcs⟩ := h.rd.2 s _ hL
  have hlen : (tmI zs l (s : Int) zs.length).length = (tmY zs l (s : Int) zs.length).length := by simp [tmI]
  have hlo : W.heap.size ≤ b := by
    obtain ⟨b', n', c'', he, hle⟩ := h.lo _ (List.mem_of_getElem? hv)
    injection he with he
    injection he with he
    injection he with he
    rw [he]; exact hle
  refine ⟨g, b, c', rfl, ⟨hg1, hg2⟩, ⟨hlo, (Array.getElem?_eq_some_iff.1 hb).1⟩, ?_, fun i hi => ?_⟩
  · rw [ho.cellAt s (by omega), hv, hlen]
  · rw [cell_of_row _ _ _ _ _ _ hb, hcs i (by rw [hlen]; exact hi)]
    simp [tmI, List.getElem?_eq_getElem hi]
def lsY (T : Nat → List Nat) (m k : Nat) : List Int := (List.range k).map fun (s : Nat) => lgY m (T s)
theorem lsY_len (T : Nat → List Nat) (m k : Nat) : (lsY T m k).length = k := by simp [lsY]
theorem lsY_succ (T : Nat → List Nat) (m k : Nat) : lsY T m (k + 1) = lsY T m k ++ [lgY m (T k)] := by simp [lsY, List.range_succ]
theorem own_drewN {w : World} {B s n : Nat} {e : TypeId} {v : Value} {xs : List Value} (h : w.ownsRow B e s v n xs) (q : Nat) : (w.drewN q).ownsRow B e s v n xs := h
/-- The longest gap of the first times, -1 ahead of them. -/
def msY (m : Nat) (ts : List Nat) (i : Nat) : Int := if i = 0 then -1 else (mxG m ts i : Int)
def GpRel (n m : Nat) (T : Nat → List Nat) (w : World) (o i : Value) (wr : World) : Prop :=
  ∃ s g c : Nat, s ≤ n ∧ o = .slice (some ⟨g, 0, none⟩) s c ∧ i = .int .i64 s ∧ Hid (OwnY wr w.heap.size g c s (lsY T m s)) ∧ Hid (Below w.heap.size w wr)
def MsRel (m K : Nat) (ts : List Nat) (W : World) (v i : Value) (wr : World) : Prop :=
  ∃ k q : Nat, ∃ x : Int, k ≤ K ∧ v = .int .i64 x ∧ i = .int .i64 k ∧ Hid (msY m ts k = x) ∧ (-1 ≤ x ∧ x ≤ 20) ∧ wr = W.drewN q
theorem ms_step {m : Nat} {ts : List Nat} {k : Nat} {x : Int} (h : msY m ts k = x) : msY m ts (k + 1) = if x < (dG m ts k : Int) then (dG m ts k : Int) else x := by
  unfold msY at h ⊢
  rw [if_neg (by omega)]
  simp only [mxG]
  by_cases e : k = 0
  · subst e
    rw [if_pos rfl] at h
    simp only [mxG]
    split <;> omega
  · rw [if_neg e] at h
    split <;> omega
theorem ms_end {m : Nat} {ts : List Nat} : msY m ts ts.length = lgY m ts := rfl

set_option maxHeartbeats 3200000 in
theorem gapsOf_any (A : Option Addr) (c m n : Nat) (T : Nat → List Nat) (w : World) (B0 : Nat) (hT : TimesIn w B0 A n T) (hA : ∀ s, Asc (T s) m) (hm : m ≤ 20) (h8 : n ≤ 8) :
    Calls Try.prog 51 #[.int .i64 n, .slice A n c, .int .i64 m] w (RowIs (lsY T m n) w) := by
  obtain ⟨i0, hi0, hz0, hz1, hz2⟩ := info_parts intInfo
  have HT := Lib.hid hT
  have HA := Lib.hid hA
  have HO0 : Hid (OwnY (w.alloc (.cells #[] 3)) w.heap.size w.heap.size 0 0 (lsY T m 0)) := ⟨rfl, World.ownsRow_lit w #[] 0 (Nat.le_refl _) (by decide) rfl⟩
  have HB0 : Hid (Below w.heap.size w (w.alloc (.cells #[] 3))) := (Below.refl _ _).alloc (Nat.le_refl _) _
  clear hT hA
  go_enter Try.func51, Try.ntmps51
  go_wp2
  go_loopw [7, 8] (fun o i wr => GpRel n m T w o i wr) (fun _ i _ => n - (intOf i).toNat)
  case atStart => exact ⟨0, _, _, by omega, rfl, rfl, HO0, HB0⟩
  case round =>
    clear HO0 HB0
    obtain ⟨s, g, c2, hs, rfl, rfl, HO, HB⟩ := hrel
    by_cases hsn : s < n
    · obtain ⟨W, hW⟩ : ∃ W, W = wr := ⟨_, rfl⟩
      subst hW
      obtain ⟨gt, at', ct, rfl, hg, ha, hct, hcs⟩ := HT.out.later HB.out s hsn
      obtain ⟨ts, Hts⟩ : ∃ ts, Hid (T s = ts) := ⟨_, rfl⟩
      rw [Hts.out] at hct hcs
      have Hasc : Hid (Asc ts m) := by have := HA.out s; rw [Hts.out] at this; exact this
      obtain ⟨K, HK⟩ : ∃ K, Hid (ts.length = K) := ⟨_, rfl⟩
      rw [HK.out] at hct
      have Hcs := Lib.hid hcs
      have HM0 : Hid (msY m ts 0 = -1) := rfl
      clear hcs
      go_wp2
      go_loopw [9, 10] (fun v i wr => MsRel m K ts W v i wr) (fun _ i _ => K - (intOf i).toNat)
      case atStart => exact ⟨0, 0, -1, by omega, rfl, rfl, HM0, by omega, rfl⟩
      case round =>
        clear HM0
        obtain ⟨k, q, v, hk, rfl, rfl, HM, hv, rfl⟩ := hrel
        by_cases hkK : k < K
        · obtain ⟨i2, Hi2⟩ : ∃ i2, Hid ((k + 1) % K = i2) := ⟨_, rfl⟩
          have hi2 : i2 < K := by rw [← Hi2.out]; exact Nat.mod_lt _ (by omega)
          have t1 : ((k : Int) + 1).tmod (K : Int) = (i2 : Int) := by rw [← Hi2.out, show (k : Int) + 1 = ((k + 1 : Nat) : Int) by omega]; exact (Int.ofNat_tmod _ K).symm
          have hK20 : K ≤ 9223372036854775806 := by
            have hz := HK.out
            have h0 := Hasc.out.2
            have hinc : ∀ i, i < K → i ≤ ts.getD i 0 := by
              intro i
              induction i with
              | zero => intro _; omega
              | succ i ih => intro hi; have := ih (by omega); have := Hasc.out.1 i (i + 1) (by omega) (by omega); omega
            have := hinc (K - 1) (by omega)
            have := h0 (K - 1) (by omega)
            omega
          obtain ⟨x, Hx⟩ : ∃ x : Nat, Hid (ts.getD k 0 = x) := ⟨_, rfl⟩
          obtain ⟨y, Hy⟩ : ∃ y : Nat, Hid (ts.getD i2 0 = y) := ⟨_, rfl⟩
          have hcx : W.cell? ⟨at', k, none⟩ = some (.int .i64 x) := by rw [← Hx.out]; exact Hcs.out k (by rw [HK.out]; exact hkK)
          have hcy : W.cell? ⟨at', i2, none⟩ = some (.int .i64 y) := by rw [← Hy.out]; exact Hcs.out i2 (by rw [HK.out]; exact hi2)
          have hxm : x < m := by rw [← Hx.out]; exact Hasc.out.2 k (by rw [HK.out]; exact hkK)
          have hym : y < m := by rw [← Hy.out]; exact Hasc.out.2 i2 (by rw [HK.out]; exact hi2)
          have Hst := Lib.hid (ms_step HM.out)
          have hdp := dG_pos Hasc.out (i := k) (by rw [HK.out]; exact hkK)
          obtain ⟨d, Hd⟩ : ∃ d, Hid (dG m ts k = d) := ⟨_, rfl⟩
          rw [Hd.out] at Hst hdp
          by_cases hlast : k + 1 < K
          · have Hdd : Hid ((y : Int) - (x : Int) = (d : Int)) := by
              show _ = _
              have e : i2 = k + 1 := by rw [← Hi2.out]; exact Nat.mod_eq_of_lt hlast
              have h1 := Hasc.out.1 k (k + 1) (by omega) (by rw [HK.out]; exact hlast)
              have h2 := Hd.out
              unfold dG at h2
              rw [if_pos (by rw [HK.out]; exact hlast)] at h2
              have h3 := Hy.out
              rw [e] at h3
              have h4 := Hx.out
              omega
            have hdd := Hdd.out
            go_wp2
            go_quiet (fail)
            go_wp2
            all_goals
              go_roundw
              case rel => exact ⟨k + 1, _, _, by omega, rfl, by go_num, by show _ = _; rw [Hst.out]; try (split <;> omega), by omega, rfl⟩
              case measure => simp [intOf]; omega
          · have Hdd : Hid ((y : Int) - (x : Int) + (m : Int) = (d : Int)) := by
              show _ = _
              have e : i2 = 0 := by rw [← Hi2.out, show k + 1 = K by omega, Nat.mod_self]
              have h2 := Hd.out
              unfold dG at h2
              rw [if_neg (by rw [HK.out]; exact hlast)] at h2
              have h3 := Hy.out
              rw [e] at h3
              have h4 := Hx.out
              omega
            have hle : (y : Int) - (x : Int) ≤ 0 := by have := Hdd.out; omega
            have hdd := Hdd.out
            go_wp2
            go_quiet (fail)
            go_wp2
            all_goals
              go_roundw
              case rel => exact ⟨k + 1, _, _, by omega, rfl, by go_num, by show _ = _; rw [Hst.out]; try (split <;> omega), by omega, rfl⟩
              case measure => simp [intOf]; omega
        · obtain rfl : k = K := by omega
          have Hend : Hid (lgY m (T s) = v) := by show _ = _; rw [Hts.out, ← ms_end, HK.out]; exact HM.out
          have Hlen := Lib.hid HO.out.1
          have Hown := Lib.hid (own_drewN HO.out.2 q)
          have HBq := Lib.hid (below_drewN HB.out q)
          clear HO HB HM Hcs
          go_upto_region 14 with fail
          clear hct
          generalize W.drewN q = W3 at Hown HBq ⊢
          have hsz : s + 1 ≤ maxLen := by unfold maxLen; omega
          have hsz2 : (s + 1) * 8 ≤ 140737488355328 := by omega
          have hsz3 : w.heap.size ≤ (W3.alloc (.cells #[.int .i64 v] 3)).heap.size := by rw [size_alloc1]; have := HBq.out.size; omega
          go_wp2_with (at_builtin; refine wpList_append_lies _ rfl _ _ 23 rfl w.heap.size 3 i0 _ 1 8 Try.underlying23 hi0 hz0 hz1 hz2 rfl (by decide) _ _ _ rfl (Hown.out.alloc _) ⟨W3.heap.size, 0, none⟩ 1 1 [.int .i64 v] rfl rfl (cell_one_new _ _ _) (by intro u hu; simp at hu; subst hu; rfl) (by decide) hsz hsz2 hsz3 _ rfl ?_; intro g3 c4 w3 hown3 hgrow3 hat3 hlt3)
          have HO3 : Hid (OwnY w3 w.heap.size g3 c4 (s + 1) (lsY T m (s + 1))) := by show OwnY _ _ _ _ _ _; rw [lsY_succ, Hend.out]; exact ownY_push Hlen.out hown3
          have HB3 : Hid (Below w.heap.size w w3) := (HBq.out.alloc HBq.out.size _).grown hgrow3 hsz3 (fun q hq => (Hown.out.lt q hq).1)
          clear hown3 hgrow3 hat3 hlt3 Hown HBq hsz hsz2 hsz3
          go_wp2
          go_roundw
          case rel => exact ⟨s + 1, g3, c4, by omega, rfl, by go_num, HO3, HB3⟩
          case measure => simp [intOf]; omega
    · obtain rfl : s = n := by omega
      have HE : Hid (RowIs (lsY T m s) w (.returned (.slice (some ⟨g, 0, none⟩) s c2)) wr) := ⟨_, _, by rw [lsY_len], by rw [lsY_len]; exact HO.out.2, HB⟩
      clear HO HB
      go_wp2
      go_ret
      exact HE.out

set_option maxHeartbeats 800000 in
theorem worst_any (A : Option Addr) (c n : Nat) (gs : List Int) (w : World) (B : Nat) (hr : RdI w B A gs) (hn : gs.length = n) (hb : n ≤ 1048576) (h0 : ∀ i, i < n → gs.getD i 0 = -1 ∨ 0 ≤ gs.getD i 0) :
    Calls Try.prog 53 #[.slice A n c] w fun e w' => e = .returned (.int .i64 (wrY gs)) ∧ w = w' := by
  have Hn := Lib.hid hn
  have HR := Lib.hid hr
  have H0 := Lib.hid h0
  have HG0 : Hid (∀ i, i < 0 → 0 ≤ gs.getD i 0) := fun i hi => by omega
  clear hn hr h0
  go_enter Try.func53, Try.ntmps53
  go_wp2
  go_loop [3, 4] (fun a i => ∃ k : Nat, ∃ g : Int, k ≤ n ∧ a = .int .i64 g ∧ Hid (mxI gs k = g) ∧ i = .int .i64 k ∧ Hid (∀ i, i < k → 0 ≤ gs.getD i 0)) (fun _ i => n - (intOf i).toNat)
  case atStart => exact ⟨0, 0, by omega, rfl, rfl, rfl, HG0⟩
  case round =>
    clear HG0
    obtain ⟨k, g, hk, rfl, Hg, rfl, HG⟩ := hrel
    by_cases hlt : k < n
    · obtain ⟨b, off, y, rfl, -, Hy, hcy⟩ := HR.out.x (k := k) (by rw [Hn.out]; exact hlt)
      by_cases hneg : y < 0
      · have HE : Hid (wrY gs = -1) := wrY_no (by
          have h := H0.out k hlt
          rw [Hy.out] at h
          have hy : y = -1 := by omega
          have := Hy.out
          rw [hy] at this
          rw [← this]
          simp [List.getD, List.getElem?_eq_getElem (show k < gs.length by rw [Hn.out]; exact hlt)])
        go_wp2
        go_ret
        exact ⟨ret_int HE.out.symm, rfl⟩
      · have Hs : Hid (mxI gs (k + 1) = if g < y then y else g) := by show _ = _; simp only [mxI]; rw [Hg.out, Hy.out]; split <;> omega
        have HG2 : Hid (∀ i, i < k + 1 → 0 ≤ gs.getD i 0) := fun i hi => by
          by_cases e : i = k
          · subst e; rw [Hy.out]; omega
          · exact HG.out i (by omega)
        go_wp2
        all_goals
          go_round
          case rel => exact ⟨k + 1, _, by omega, rfl, by show _ = _; rw [Hs.out]; try (split <;> omega), by go_num, HG2⟩
          case measure => simp [intOf]; omega
    · obtain rfl : k = n := by omega
      have HE : Hid (wrY gs = g) := by
        show _ = _
        rw [wrY_yes, Hn.out]
        · exact Hg.out
        · intro hmem
          obtain ⟨i, hi, e⟩ := List.getElem_of_mem hmem
          have h := HG.out i (by rw [← Hn.out]; exact hi)
          simp only [List.getD, List.getElem?_eq_getElem hi, Option.getD_some] at h
          omega
      go_wp2
      go_ret
      exact ⟨ret_int HE.out.symm, rfl⟩
end Go.Proofs.Ytdkonaaoanggiaa
