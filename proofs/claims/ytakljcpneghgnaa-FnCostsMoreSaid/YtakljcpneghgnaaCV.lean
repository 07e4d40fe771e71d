/-
  ValidCosts of the program and of the model, walked.
  Conditions: fewer than 2^20 rows and numbers in a row.
-/
import Derived.Test.YtakljcpneghgnaaRV
import Derived.Test.YtakljcpneghgnaaCA
namespace Go.Proofs.Ytakljcpneghgnaa
open Go.ChangeShapes Go.WideShapes Go.ChangeAt Go.RowKit
set_option linter.unusedVariables false
set_option maxRecDepth 4000

/-- The cost of a call with a helper. -/
def clC (cost : List (List Int)) (i h : Nat) : Int := (cost.getD i []).getD h 0
/-- The first k numbers of a row are costs. -/
def OkN4 (l : List Int) (k : Nat) : Prop := ∀ j, j < k → 0 ≤ l.getD j 0 ∧ l.getD j 0 ≤ 50
instance (l : List Int) (k : Nat) : Decidable (OkN4 l k) := by unfold OkN4; infer_instance
theorem OkN4.step {l : List Int} {k : Nat} {x : Int} (h : OkN4 l k) (hx : l.getD k 0 = x) (h0 : 0 ≤ x) (h1 : x ≤ 50) : OkN4 l (k + 1) := fun i hi => by
  by_cases e : i = k
  · subst e; rw [hx]; exact ⟨h0, h1⟩
  · exact h i (by omega)
/-- A row of costs. -/
def OkL (n : Nat) (l : List Int) : Prop := l.length = n ∧ OkN4 l l.length
instance (n : Nat) (l : List Int) : Decidable (OkL n l) := by unfold OkL; infer_instance
def OkC (n : Nat) (cost : List (List Int)) (k : Nat) : Prop := ∀ i, i < k → OkL n (cost.getD i [])
instance (n : Nat) (cost : List (List Int)) (k : Nat) : Decidable (OkC n cost k) := by unfold OkC; infer_instance
theorem OkC.step {n : Nat} {cost : List (List Int)} {k : Nat} {l : List Int} (h : OkC n cost k) (hl : cost.getD k [] = l) (ha : OkL n l) : OkC n cost (k + 1) := fun i hi => by
  by_cases e : i = k
  · subst e; rw [hl]; exact ha
  · exact h i (by omega)
/-- ValidCosts. -/
def vcost (cost : List (List Int)) : Bool := decide (cost.length ≤ 6 ∧ OkC cost.length cost cost.length)
theorem vcost_iff (cost : List (List Int)) : vcost cost = true ↔ cost.length ≤ 6 ∧ OkC cost.length cost cost.length := by unfold vcost; rw [decide_eq_true_iff]
theorem vcost_no {cost : List (List Int)} (h : ¬ (cost.length ≤ 6 ∧ OkC cost.length cost cost.length)) : vcost cost = false := decide_eq_false h
theorem vcost_row {cost : List (List Int)} {k : Nat} {l : List Int} (hk : k < cost.length) (hl : cost.getD k [] = l) (h : ¬ OkL cost.length l) : vcost cost = false := vcost_no fun h' => h (by rw [← hl]; exact h'.2 k hk)
theorem vcost_bd {cost : List (List Int)} (h : vcost cost = true) : BdC (clC cost) cost.length := fun i j hi hj => by
  obtain ⟨h1, h2⟩ := ((vcost_iff _).1 h).2 i hi
  exact h2 j (by rw [h1]; exact hj)
theorem vcost_len {cost : List (List Int)} (h : vcost cost = true) {i : Nat} (hi : i < cost.length) : (cost.getD i []).length = cost.length := (((vcost_iff _).1 h).2 i hi).1

set_option maxHeartbeats 800000 in
theorem indexCost_any (P : Int → Bool) (HF : ∀ (x : Int) (w : World), Calls Try.prog 61 #[.int .i64 x] w fun e w' => e = .returned (.bool (P x)) ∧ w = w') (A : Option Addr) (c n : Nat) (zs : List Int) (w : World) (B : Nat) (hr : RdI w B A zs) (hn : zs.length = n) (hb : n ≤ 1152921504606846976) :
    Calls Try.prog 70 #[.slice A n c, .func (.func 61) #[] #[]] w (IntIdx P zs w) := by
  have Hn := Lib.hid hn
  have HF' : Hid (∀ (x : Int) (w : World) (b : Bool), P x = b → Calls Try.prog 61 #[.int .i64 x] w fun e w' => e = .returned (.bool b) ∧ w = w') := fun x w b h => h ▸ HF x w
  clear hn HF
  go_enter Try.func70, Try.ntmps70
  go_wp2
  go_loop [8] (fun i => ∃ k : Nat, k ≤ n ∧ i = .int .i64 k ∧ Hid (∀ i, i < k → P (zs.getD i 0) = false)) (fun i => n - (intOf i).toNat)
  case atStart => exact ⟨0, by omega, rfl, fun i hi => by omega⟩
  case round =>
    obtain ⟨k, hk, rfl, Ho⟩ := hrel
    by_cases hlt : k < n
    · obtain ⟨b, off, x, rfl, -, Hx, hcx⟩ := hr.x (k := k) (by rw [Hn.out]; omega)
      by_cases h1 : P x = true
      · have Hs := Lib.hid (any_yes (by rw [Hn.out]; exact hlt) Hx.out h1)
        have Hf := Lib.hid (HF'.out x w true h1)
        clear h1
        go_wp2_with fail
        refine Hf.out.mono ?_
        rintro e w' ⟨rfl, rfl⟩
        go_wp2
        go_ret
        exact ⟨_, rfl, fun h => absurd (Hs.out.symm.trans h) (by decide), fun _ => by omega, rfl⟩
      · have h2 : P x = false := by simpa using h1
        have Hs : Hid (∀ i, i < k + 1 → P (zs.getD i 0) = false) := fun i hi => by
          by_cases e : i = k
          · subst e; rw [Hx.out]; exact h2
          · exact Ho.out i (by omega)
        have Hf := Lib.hid (HF'.out x w false h2)
        clear h1 h2
        go_wp2_with fail
        refine Hf.out.mono ?_
        rintro e w' ⟨rfl, rfl⟩
        go_wp2
        go_round
        case rel => exact ⟨k + 1, by omega, by go_num, Hs⟩
        case measure => simp [intOf]; omega
    · have Hs := Lib.hid (any_no Ho.out (by rw [Hn.out]; omega))
      go_wp2
      go_ret
      exact ⟨_, rfl, fun _ => rfl, fun h => absurd (Hs.out.symm.trans h) (by decide), rfl⟩
theorem containsCost_any (P : Int → Bool) (HF : ∀ (x : Int) (w : World), Calls Try.prog 61 #[.int .i64 x] w fun e w' => e = .returned (.bool (P x)) ∧ w = w') (A : Option Addr) (c n : Nat) (zs : List Int) (w : World) (B : Nat) (hr : RdI w B A zs) (hn : zs.length = n) (hb : n ≤ 1152921504606846976) :
    Calls Try.prog 47 #[.slice A n c, .func (.func 61) #[] #[]] w fun e w' => e = .returned (.bool (zs.any P)) ∧ w = w' := by
  have H := Lib.hid (indexCost_any P HF A c n zs w B hr hn hb)
  clear hn hr HF
  go_enter Try.func47, Try.ntmps47
  go_wp2_with fail
  refine H.out.mono ?_
  rintro e w' ⟨r, rfl, h1, h2, rfl⟩
  by_cases hf : zs.any P = true
  · have hr0 := h2 hf
    have Hf := Lib.hid hf
    clear h1 h2 hf
    go_wp2
    go_ret
    exact ⟨ret_bool (by rw [Hf.out]), rfl⟩
  · have hf' : zs.any P = false := by simpa using hf
    have := h1 hf'
    subst this
    have Hf := Lib.hid hf'
    clear h1 h2 hf hf'
    go_wp2
    go_ret
    exact ⟨ret_bool (by rw [Hf.out]), rfl⟩

def noCost (x : Int) : Bool := decide (x < 0) || decide (50 < x)
theorem noCost_any (x : Int) (w : World) : Calls Try.prog 61 #[.int .i64 x] w fun e w' => e = .returned (.bool (noCost x)) ∧ w = w' := by
  by_cases h1 : x < 0 <;> by_cases h2 : 50 < x
  all_goals
    go_enter Try.func61, Try.ntmps61
    go_wp2
    go_ret
    exact ⟨ret_bool (by simp [noCost, h1, h2]), rfl⟩
theorem noCost_all {row : List Int} : row.any noCost = false ↔ OkN4 row row.length := by
  rw [List.any_eq_false]
  constructor
  · intro h i hi
    have := h (row.getD i 0) (by simp [List.getD, List.getElem?_eq_getElem hi])
    unfold noCost at this
    rw [Bool.or_eq_true, decide_eq_true_eq, decide_eq_true_eq] at this
    omega
  · intro h x hx
    obtain ⟨i, hi, rfl⟩ := List.getElem_of_mem hx
    have := h i hi
    simp only [List.getD, List.getElem?_eq_getElem hi, Option.getD_some] at this
    simp [noCost]
    omega


/-- One row: the search's question. -/
theorem noRow_any (n : Nat) (Ac : Option Addr) (cc : Nat) (A : Option Addr) (c m : Nat) (l : List Int) (pb : Nat) (w : World) (hc : w.cell? ⟨pb, 0, none⟩ = some (.slice Ac n cc)) (B : Nat) (hr : RdI w B A l) (hm : l.length = m) (hb : m ≤ 1152921504606846976) (hn : n ≤ 1152921504606846976) {b : Bool} (h : (!(decide (OkL n l))) = b) :
    Calls Try.prog 60 #[.slice A m c, .pointer (some ⟨pb, 0, none⟩)] w fun e w' => e = .returned (.bool b) ∧ w = w' := by
  by_cases hmn : m = n
  · have H1 := Lib.hid (containsCost_any noCost noCost_any A c m l w B hr hm hb)
    have hq : l.any noCost = b := by
      rw [← h]
      by_cases ho : OkN4 l l.length
      · rw [noCost_all.2 ho, decide_eq_true (show OkL n l from ⟨by omega, ho⟩)]; rfl
      · rw [decide_eq_false (show ¬ OkL n l from fun h' => ho h'.2)]
        have := mt noCost_all.1 ho
        simpa using this
    have Hb := Lib.hid hq
    have hb1 : ((m : Int) != (n : Int)) = false := by rw [bne_eq_false_iff_eq]; omega
    clear hr hm h hq hmn
    go_enter Try.func60, Try.ntmps60
    go_wp2_with fail
    refine H1.out.mono ?_
    rintro e w' ⟨rfl, rfl⟩
    go_wp2
    go_ret
    exact ⟨ret_bool Hb.out, rfl⟩
  · have Hb : Hid (true = b) := by show _ = _; rw [← h, decide_eq_false (show ¬ OkL n l from fun h' => hmn (by rw [← hm]; exact h'.1))]; rfl
    have hb1 : ((m : Int) != (n : Int)) = true := by rw [bne_iff_ne]; omega
    clear hr hm h hmn
    go_enter Try.func60, Try.ntmps60
    go_wp2
    go_ret
    exact ⟨ret_bool Hb.out, rfl⟩

def CostIdx (n : Nat) (cost : List (List Int)) (w : World) (e : Ending) (w' : World) : Prop := ∃ r : Int, e = .returned (.int .i64 r) ∧ (OkC n cost cost.length → r = -1) ∧ (¬ OkC n cost cost.length → 0 ≤ r) ∧ w = w'
set_option maxHeartbeats 800000 in
theorem indexCosts_any (H : Nat) (Ar : Option Addr) (cr : Nat) (A : Option Addr) (c n : Nat) (cost : List (List Int)) (w : World) (B pb : Nat) (hr : RdV w B A cost) (hs : Small cost) (hm : cost.length = n) (hc : w.cell? ⟨pb, 0, none⟩ = some (.slice Ar H cr)) (hH : H ≤ 1152921504606846976) :
    Calls Try.prog 71 #[.slice A n c, .func (.func 60) #[] #[.pointer (some ⟨pb, 0, none⟩)]] w (CostIdx H cost w) := by
  have Hn := Lib.hid hm
  have Hs := Lib.hid hs
  have hn20 : n ≤ 1048576 := by rw [← hm]; exact hs.1
  clear hm hs
  go_enter Try.func71, Try.ntmps71
  go_wp2
  go_loop [8] (fun i => ∃ k : Nat, k ≤ n ∧ i = .int .i64 k ∧ Hid (OkC H cost k)) (fun i => n - (intOf i).toNat)
  case atStart => exact ⟨0, by omega, rfl, fun i hi => by omega⟩
  case round =>
    obtain ⟨k, hk, rfl, Ho⟩ := hrel
    by_cases hlt : k < n
    · obtain ⟨b, off, a, ca, ls, rfl, -, Hl, hcl, hca, hcm, hrl⟩ := hr.x (k := k) (by rw [Hn.out]; omega)
      obtain ⟨t, Ht⟩ : ∃ t, Hid (ls.length = t) := ⟨_, rfl⟩
      have ht20 : t ≤ 1048576 := by have := Hs.out.2 k (by rw [Hn.out]; exact hlt); rw [Hl.out, Ht.out] at this; exact this
      rw [Ht.out] at hcl hca
      by_cases h1 : OkL H ls
      · have Ho2 : Hid (OkC H cost (k + 1)) := Ho.out.step Hl.out h1
        have Hf := Lib.hid (noRow_any H Ar cr a ca t ls pb w hc B hrl Ht.out (by omega) hH (b := false) (by rw [decide_eq_true h1]; rfl))
        clear h1 hrl
        go_wp2_with fail
        refine Hf.out.mono ?_
        rintro e w' ⟨rfl, rfl⟩
        go_wp2
        go_round
        case rel => exact ⟨k + 1, by omega, by go_num, Ho2⟩
        case measure => simp [intOf]; omega
      · have Hno : Hid (¬ OkC H cost cost.length) := fun h' => by
          have := h' k (by rw [Hn.out]; exact hlt)
          rw [Hl.out] at this
          exact h1 this
        have Hf := Lib.hid (noRow_any H Ar cr a ca t ls pb w hc B hrl Ht.out (by omega) hH (b := true) (by rw [decide_eq_false h1]; rfl))
        clear h1 hrl
        go_wp2_with fail
        refine Hf.out.mono ?_
        rintro e w' ⟨rfl, rfl⟩
        go_wp2
        go_ret
        exact ⟨_, rfl, fun h => absurd h Hno.out, fun _ => by omega, rfl⟩
    · obtain rfl : k = n := by omega
      have Hyes : Hid (OkC H cost cost.length) := by show OkC _ _ _; rw [Hn.out]; exact Ho.out
      go_wp2
      go_ret
      exact ⟨_, rfl, fun _ => rfl, fun h => absurd Hyes.out h, rfl⟩
theorem containsCosts_any (H : Nat) (Ar : Option Addr) (cr : Nat) (A : Option Addr) (c n : Nat) (cost : List (List Int)) (w : World) (B pb : Nat) (hr : RdV w B A cost) (hs : Small cost) (hm : cost.length = n) (hc : w.cell? ⟨pb, 0, none⟩ = some (.slice Ar H cr)) (hH : H ≤ 1152921504606846976) :
    Calls Try.prog 48 #[.slice A n c, .func (.func 60) #[] #[.pointer (some ⟨pb, 0, none⟩)]] w fun e w' => e = .returned (.bool (!(decide (OkC H cost cost.length)))) ∧ w = w' := by
  have H1 := Lib.hid (indexCosts_any H Ar cr A c n cost w B pb hr hs hm hc hH)
  clear hr hs hm hc
  go_enter Try.func48, Try.ntmps48
  go_wp2_with fail
  refine H1.out.mono ?_
  rintro e w' ⟨r, rfl, h1, h2, rfl⟩
  by_cases hf : OkC H cost cost.length
  · have := h1 hf
    subst this
    have Hf := Lib.hid (decide_eq_true hf)
    clear h1 h2 hf
    go_wp2
    go_ret
    exact ⟨ret_bool (by rw [Hf.out]; rfl), rfl⟩
  · have hr0 := h2 hf
    have Hf := Lib.hid (decide_eq_false hf)
    clear h1 h2 hf
    go_wp2
    go_ret
    exact ⟨ret_bool (by rw [Hf.out]; simp), rfl⟩

/-- Rows as a function is given them. -/
structure CostIn (w : World) (A : Option Addr) (c n : Nat) (cost : List (List Int)) : Prop where
  rd : RdV w w.heap.size A cost
  len : cost.length = n
  cap : n ≤ c ∧ c ≤ 9223372036854775807
  small : Small cost
theorem CostIn.most {w : World} {A : Option Addr} {c n : Nat} {cost : List (List Int)} (h : CostIn w A c n cost) : n ≤ 1048576 := by rw [← h.len]; exact h.small.1
theorem CostIn.later {w w' : World} {A : Option Addr} {c n : Nat} {cost : List (List Int)} (h : CostIn w A c n cost) (hb : Below w.heap.size w w') : CostIn w' A c n cost :=
  ⟨(h.rd.below hb).more hb.size, h.len, h.cap, h.small⟩
def CNum (F : Nat) (ans : List (List Int) → Int) : Prop := ∀ (A : Option Addr) (c n : Nat) (cost : List (List Int)) (w : World), CostIn w A c n cost →
  Calls Try.prog F #[.slice A n c] w fun e w' => e = .returned (.int .i64 (ans cost)) ∧ Below w.heap.size w w'
def CBool (F : Nat) : Prop := ∀ (A : Option Addr) (c n : Nat) (cost : List (List Int)) (w : World), CostIn w A c n cost →
  Calls Try.prog F #[.slice A n c] w fun e w' => e = .returned (.bool (vcost cost)) ∧ Below w.heap.size w w'
set_option maxHeartbeats 800000 in
theorem iValidCosts_ok : CBool 28 := by
  intro A c n cost w h
  have Hin := Lib.hid h
  have hn20 := h.most
  have HBW := Lib.hid ((Below.refl w.heap.size w).alloc (Nat.le_refl _) (.cells #[.slice A n c] 24))
  have hcell : (w.alloc (.cells #[.slice A n c] 24)).cell? ⟨w.heap.size, 0, none⟩ = some (.slice A n c) := by rw [World.cell?_alloc_new]; rfl
  have Hcell := Lib.hid hcell
  clear h hcell
  by_cases h6 : 6 < n
  · have Hs : Hid (vcost cost = false) := vcost_no fun h' => by have := h'.1; rw [Hin.out.len] at this; omega
    go_enter Try.func28, Try.ntmps28
    go_wp2
    go_ret
    exact ⟨ret_bool Hs.out.symm, HBW.out⟩
  have H2 := Lib.hid (containsCosts_any n A c A c n cost (w.alloc (.cells #[.slice A n c] 24)) w.heap.size w.heap.size (Hin.out.rd.below HBW.out) Hin.out.small Hin.out.len Hcell.out (by omega))
  have hcell2 := Hcell.out
  by_cases h2 : OkC n cost cost.length
  · have Hs : Hid (vcost cost = true) := (vcost_iff _).2 ⟨by rw [Hin.out.len]; omega, by rw [Hin.out.len] at h2 ⊢; exact h2⟩
    rw [decide_eq_true h2] at H2
    clear h2
    go_enter Try.func28, Try.ntmps28
    go_wp2_with fail
    refine H2.out.mono ?_
    rintro e w1 ⟨rfl, rfl⟩
    go_wp2
    go_ret
    exact ⟨ret_bool Hs.out.symm, HBW.out⟩
  · have Hs : Hid (vcost cost = false) := vcost_no fun h' => h2 (by have := h'.2; rw [Hin.out.len] at this ⊢; exact this)
    rw [decide_eq_false h2] at H2
    clear h2
    go_enter Try.func28, Try.ntmps28
    go_wp2_with fail
    refine H2.out.mono ?_
    rintro e w1 ⟨rfl, rfl⟩
    go_wp2
    go_ret
    exact ⟨ret_bool Hs.out.symm, HBW.out⟩
set_option maxHeartbeats 800000 in
theorem sValid_in (A : Option Addr) (c n : Nat) (cost : List (List Int)) (w : World) (B : Nat) (hw : RdV w B A cost) (hn : cost.length = n) (hs : Small cost) :
    Calls Try.prog 62 #[.slice A n c] w fun e w' => e = .returned (.bool (vcost cost)) ∧ ∃ q, w' = w.drewN q := by
  have Hn := Lib.hid hn
  have Hs := Lib.hid hs
  have hn20 : n ≤ 1048576 := by rw [← hn]; exact hs.1
  clear hn hs
  go_enter Try.func62, Try.ntmps62
  go_wp2
  go_loopw [3] (fun i wr => ∃ j q : Nat, j ≤ n ∧ i = .int .i64 j ∧ Hid (OkC n cost j) ∧ wr = w.drewN q) (fun i _ => n - (intOf i).toNat)
  case atStart => exact ⟨0, 0, by omega, rfl, fun i hi => by omega, rfl⟩
  case round =>
    obtain ⟨j, q, hj, rfl, HW, rfl⟩ := hrel
    by_cases hltj : j < n
    · obtain ⟨bw, ow, a, ca, ls, rfl, hbw, Hl, hcl, hca, hcm, hrl⟩ := hw.x (k := j) (by rw [Hn.out]; exact hltj)
      obtain ⟨m, Hm⟩ : ∃ m, Hid (ls.length = m) := ⟨_, rfl⟩
      rw [Hm.out] at hcl hca
      have hm20 : m ≤ 1048576 := by have := Hs.out.2 j (by rw [Hn.out]; exact hltj); rw [Hl.out, Hm.out] at this; exact this
      by_cases hmn : m = n
      · have hb1 : ((m : Int) != (n : Int)) = false := by rw [bne_eq_false_iff_eq]; omega
        have Hmn := Lib.hid hmn
        clear hmn
        go_wp2
        go_loopw [4] (fun i wr => ∃ t q : Nat, t ≤ m ∧ i = .int .i64 t ∧ Hid (OkN4 ls t) ∧ wr = w.drewN q) (fun i _ => m - (intOf i).toNat)
        case atStart => exact ⟨0, q, by omega, rfl, fun i hi => by omega, rfl⟩
        case round =>
          obtain ⟨t, q, ht, rfl, HA, rfl⟩ := hrel
          by_cases hltt : t < m
          · obtain ⟨b, off, x, rfl, -, Hx, hcx⟩ := hrl.x (k := t) (by rw [Hm.out]; exact hltt)
            by_cases h1 : x < 0 ∨ 50 < x
            · have Hf : Hid (vcost cost = false) := vcost_row (by rw [Hn.out]; exact hltj) Hl.out (fun h' => by
                have := h'.2 t (by rw [Hm.out]; exact hltt)
                rw [Hx.out] at this; omega)
              go_wp2_with fail
              refine (inRange_no _ _ _ _ h1).mono ?_
              rintro e w' ⟨rfl, rfl⟩
              go_wp2
              go_ret
              exact ⟨ret_bool Hf.out.symm, _, rfl⟩
            · have Hf := Lib.hid (HA.out.step Hx.out (by omega) (by omega))
              go_wp2_with fail
              refine (inRange_yes _ _ _ _ (by omega) (by omega)).mono ?_
              rintro e w' ⟨rfl, rfl⟩
              go_wp2
              go_roundw
              case rel => exact ⟨t + 1, _, by omega, by go_num, Hf, rfl⟩
              case measure => simp [intOf]; omega
          · have Hf : Hid (OkC n cost (j + 1)) := HW.out.step Hl.out ⟨by rw [Hm.out]; exact Hmn.out, by rw [Hm.out, show m = t by omega]; exact HA.out⟩
            go_wp2
            go_roundw
            case rel => exact ⟨j + 1, _, by omega, by go_num, Hf, rfl⟩
            case measure => simp [intOf]; omega
      · have hb1 : ((m : Int) != (n : Int)) = true := by rw [bne_iff_ne]; omega
        have Hf : Hid (vcost cost = false) := vcost_row (by rw [Hn.out]; exact hltj) Hl.out (fun h' => hmn (by rw [← Hm.out, ← Hn.out]; exact h'.1))
        clear hmn
        go_wp2
        go_ret
        exact ⟨ret_bool Hf.out.symm, _, rfl⟩
    · obtain rfl : j = n := by omega
      by_cases h6 : 6 < j
      · have Hf : Hid (vcost cost = false) := vcost_no fun h' => by have := h'.1; rw [Hn.out] at this; omega
        go_wp2
        go_ret
        exact ⟨ret_bool (by rw [Hf.out]; exact decide_eq_false (by omega)), _, rfl⟩
      · have Hf : Hid (vcost cost = true) := (vcost_iff _).2 ⟨by rw [Hn.out]; omega, by rw [Hn.out]; exact HW.out⟩
        go_wp2
        go_ret
        exact ⟨ret_bool (by rw [Hf.out]; exact decide_eq_true (by omega)), _, rfl⟩
theorem sValidCosts_ok : CBool 29 := by
  intro A c n cost w h
  have H1 := Lib.hid (sValid_in A c n cost w _ h.rd h.len h.small)
  clear h
  go_enter Try.func29, Try.ntmps29
  go_wp2_with fail
  refine H1.out.mono ?_
  rintro e w1 ⟨rfl, q, rfl⟩
  go_wp2
  go_ret
  exact ⟨rfl, below_drewN (Below.refl _ _) q⟩
end Go.Proofs.Ytakljcpneghgnaa
