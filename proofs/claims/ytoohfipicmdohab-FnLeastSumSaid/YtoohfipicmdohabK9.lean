/-
  LeastSum of the model: sumCut, which calls itself.
  Conditions: as each theorem states.
-/
import Derived.Test.YtoohfipicmdohabK8
namespace Go.Proofs.Ytoohfipicmdohab
open Go.ChangeShapes Go.WideShapes Go.ChangeAt Go.RowKit Go.Maps
set_option linter.unusedVariables false

theorem RdI.take' {w : World} {B : Nat} {A : Option Addr} {zs : List Int} (h : RdI w B A zs) (k : Nat) : RdI w B A (zs.take k) := fun hp => by
  have hl : (zs.take k).length ≤ zs.length := by rw [List.length_take]; omega
  obtain ⟨b, off, e, hb, hc⟩ := h (by omega)
  refine ⟨b, off, e, hb, fun i hi => ?_⟩
  have hik : i < k := by rw [List.length_take] at hi; omega
  rw [hc i (by omega)]
  simp [hik]
def sfold (prev : Nat → Int) (zs : List Int) (n : Nat) : Nat → Int
  | 0 => prev n
  | j + 1 => if j = 0 then prev n else min (sfold prev zs n j) (prev j + cost zs j n)
def scut (zs : List Int) : Nat → Nat → Int
  | 0, _ => 0
  | k + 1, n => if n ≤ k + 1 then 0 else if k = 0 then cost zs 0 n else sfold (scut zs k) zs n n
theorem cost_bd' {zs : List Int} {f e : Nat} (h : InBd zs) (he : e ≤ zs.length) (hf : f < e) (h10 : e ≤ 1000) : 0 ≤ cost zs f e ∧ cost zs f e ≤ 2000000 := by
    have hl := seg_length (zs := zs) rfl (Nat.le_of_lt hf) he
    have hp := (seg_bd h f e).get (k := (e - f) / 2) (by rw [hl]; omega) rfl
    have := sumNear_bd (l := seg zs f e) (p := (seg zs f e).getD ((e - f) / 2) 0) (M := 1000) (seg_bd h f e) hp.1 hp.2
    rw [hl] at this
    unfold cost
    omega
theorem sfold_bd {prev : Nat → Int} {zs : List Int} {n : Nat} (hz : InBd zs) (hn : n ≤ zs.length) (h10 : n ≤ 1000) (hp : ∀ m, m ≤ n → 0 ≤ prev m ∧ prev m ≤ 2000000) : ∀ j, j ≤ n → 0 ≤ sfold prev zs n j ∧ sfold prev zs n j ≤ 2000000
  | 0, _ => hp n (Nat.le_refl _)
  | j + 1, h => by
    have ih := sfold_bd hz hn h10 hp j (by omega)
    have h1 := hp j (by omega)
    simp only [sfold]
    split
    · exact hp n (Nat.le_refl _)
    · have hc := cost_bd' (f := j) (e := n) hz hn (by omega) h10
      omega
theorem scut_bd {zs : List Int} (hz : InBd zs) : ∀ k n, n ≤ zs.length → n ≤ 1000 → 0 ≤ scut zs k n ∧ scut zs k n ≤ 2000000
  | 0, n, _, _ => by simp [scut]
  | k + 1, n, h1, h2 => by
    simp only [scut]
    split
    · omega
    · split
      · exact cost_bd' hz h1 (by omega) h2
      · exact sfold_bd hz h1 h2 (fun m hm => scut_bd hz k m (by omega) (by omega)) n (Nat.le_refl _)
theorem sfold_one (prev : Nat → Int) (zs : List Int) (n : Nat) : sfold prev zs n 1 = prev n := by simp [sfold]
theorem sfold_next {prev : Nat → Int} {zs : List Int} {n j : Nat} {a b c : Int} (hj : 1 ≤ j) (ha : sfold prev zs n j = a) (hb : prev j = b) (hc : cost zs j n = c) : sfold prev zs n (j + 1) = min a (b + c) := by
  simp only [sfold]
  rw [if_neg (by omega), ha, hb, hc]
/-- The middle of a group, counted from the first home. -/
theorem cost_eq {zs : List Int} {f n m : Nat} {p : Int} (hf : f < n) (hn : n ≤ zs.length) (hm : (f + n) / 2 = m) (hp : zs.getD m 0 = p) : cost zs f n = sumNear (seg zs f n) p := by
  unfold cost
  congr 1
  unfold seg
  rw [List.getD_eq_getElem?_getD, List.getElem?_take, if_pos (by omega), List.getElem?_drop, ← hp, ← hm, List.getD_eq_getElem?_getD]
  congr 2
  omega
theorem quiet_drawn {P : Program} {f : FuncId} {args : Array Value} {w : World} {v : Value} {m : Nat}
    (h : Calls P f args (w.drewN m) fun e w' => e = .returned v ∧ ∃ q, w' = (w.drewN m).drewN q) : Calls P f args (w.drewN m) fun e w'' => e = .returned v ∧ ∃ m, w'' = w.drewN m :=
  h.mono fun _ _ ⟨he, q, hq⟩ => ⟨he, m + q, by rw [hq, World.drewN_drewN]⟩
theorem quiet_drawn' {P : Program} {f : FuncId} {args : Array Value} {w : World} {v : Value} {a m : Nat}
    (h : Calls P f args (w.drewN (a + m)) fun e w' => e = .returned v ∧ ∃ q, w' = (w.drewN (a + m)).drewN q) : Calls P f args (w.drewN (a + m)) fun e w'' => e = .returned v ∧ ∃ m, w'' = w.drewN (a + m) :=
  h.mono fun _ _ ⟨he, q, hq⟩ => ⟨he, m + q, by rw [hq, World.drewN_drewN, Nat.add_assoc]⟩

set_option maxHeartbeats 1000000 in
theorem sumCut_any (k : Nat) : ∀ (A : Option Addr) (c n : Nat) (zs : List Int) (kI : Int) (w : World) (B : Nat) (hr : RdI w B A zs) (hn : n ≤ zs.length) (hcap : n ≤ c) (hc63 : c ≤ 9223372036854775807) (hb : n ≤ 10) (hbd : InBd zs) (hk : kI = k) (hk1 : 1 ≤ k) (hk2 : k ≤ 4),
    Calls Try.prog 44 #[.slice A n c, .int .i64 kI] w fun e w' => e = .returned (.int .i64 (scut zs k n)) ∧ ∃ q, w' = w.drewN q := by
  induction k with
  | zero => intro A c n zs kI w B _ _ _ _ _ _ _ hk1; omega
  | succ k ih =>
    intro A c n zs kI w B hr hn hcap hc63 hb hbd hk hk1 hk2
    have Hn := Lib.hid hn
    have Hbd := Lib.hid hbd
    have Hk := Lib.hid hk
    have IH := Lib.hid ih
    have hki1 : 1 ≤ kI := by omega
    have hki2 : kI ≤ 4 := by omega
    clear hn hbd ih hk
    by_cases hnk : n ≤ k + 1
    · have hs : scut zs (k + 1) n = 0 := by simp only [scut]; rw [if_pos hnk]
      have hnI : (n : Int) ≤ kI := by have := Hk.out; omega
      have Hs := Lib.hid hs
      clear hs hnk
      go_enter Try.func44, Try.ntmps44
      go_wp2_with fail
      go_ret
      exact ⟨ret_int Hs.out.symm, 0, rfl⟩
    · have hnI : ¬ (n : Int) ≤ kI := by have := Hk.out; omega
      obtain ⟨b, off, x, rfl, hbw, _, _⟩ := hr.x (k := 0) (by have := Hn.out; omega)
      by_cases hk0 : k = 0
      · subst hk0
        have hs : scut zs (0 + 1) n = cost zs 0 n := by simp only [scut]; rw [if_neg hnk]; rfl
        have hkb : (kI == 1) = true := by rw [beq_iff_eq]; have := Hk.out; omega
        have hm : n / 2 < n := by omega
        obtain ⟨b', off', p, he, _, Hp, hcp⟩ := hr.x (k := n / 2) (by have := Hn.out; omega)
        injection he with he
        injection he with he1 he2
        subst he1 he2
        obtain ⟨hp1, hp2⟩ := Hbd.out.get (by have := Hn.out; omega) Hp.out
        have hce := cost_eq (zs := zs) (f := 0) (n := n) (m := n / 2) (by omega) Hn.out (by rw [Nat.zero_add]) Hp.out
        have hseg : seg zs 0 n = zs.take n := by simp [seg]
        rw [hseg] at hce
        have Hs : Hid (scut zs (0 + 1) n = sumNear (zs.take n) p) := hs.trans hce
        have Hc := Lib.hid (sSumNear_any (some ⟨b, off, none⟩) c n (zs.take n) p w B (hr.take' n) (by rw [List.length_take]; have := Hn.out; omega) (by omega) (fun y hy => Hbd.out y (List.mem_of_mem_take hy)) hp1 hp2)
        clear hs hce hseg hnk
        go_enter Try.func44, Try.ntmps44
        go_wp2_with fail
        refine Hc.out.mono ?_
        rintro e w' ⟨rfl, rfl⟩
        go_wp2
        go_ret
        exact ⟨ret_int Hs.out.symm, 0, rfl⟩
      · have hs : scut zs (k + 1) n = sfold (scut zs k) zs n n := by simp only [scut]; rw [if_neg hnk, if_neg hk0]
        have hkb : (kI == 1) = false := by rw [beq_eq_false_iff_ne]; have := Hk.out; omega
        have Hs := Lib.hid hs
        have Hk0 := Lib.hid hk0
        clear hs hk0 hnk
        go_enter Try.func44, Try.ntmps44
        go_wp2_with fail
        refine (IH.out (some ⟨b, off, none⟩) c n zs (kI - 1) w B hr Hn.out hcap hc63 hb Hbd.out (by have := Hk.out; omega) (by have := Hk0.out; omega) (by omega)).mono ?_
        rintro e w' ⟨rfl, q, rfl⟩
        go_wp2
        have hsn := scut_bd Hbd.out k n Hn.out (by omega)
        go_loopw [6, 7] (fun s i wr => ∃ j : Nat, ∃ t : Int, ∃ q, 1 ≤ j ∧ j ≤ n ∧ Hid (sfold (scut zs k) zs n j = t) ∧ 0 ≤ t ∧ t ≤ 2000000 ∧ i = .int .i64 j ∧ s = .int .i64 t ∧ wr = w.drewN q) (fun _ i _ => n - (intOf i).toNat)
        case atStart => exact ⟨1, scut zs k n, q, Nat.le_refl _, by omega, sfold_one _ _ _, hsn.1, hsn.2, rfl, rfl, rfl⟩
        case round =>
          obtain ⟨j, t, q1, hj1, hj2, Ht, ht0, ht1, rfl, rfl, rfl⟩ := hrel
          by_cases hlt : j < n
          · have hjl : j < zs.length := by have := Hn.out; omega
            obtain ⟨m, Hm⟩ : ∃ m, Hid ((j + n) / 2 = m) := ⟨_, rfl⟩
            have hmn : m < n := by have := Hm.out; omega
            obtain ⟨b', off', p, he, _, Hp, hcp⟩ := hr.x (k := m) (by have := Hn.out; omega)
            injection he with he
            injection he with he1 he2
            subst he1 he2
            obtain ⟨hp1, hp2⟩ := Hbd.out.get (by have := Hn.out; omega) Hp.out
            obtain ⟨sc, Hsc⟩ : ∃ sc, Hid (scut zs k j = sc) := ⟨_, rfl⟩
            have hsc := scut_bd Hbd.out k j (by omega) (by omega)
            rw [Hsc.out] at hsc
            obtain ⟨ct, Hct⟩ : ∃ ct, Hid (cost zs j n = ct) := ⟨_, rfl⟩
            have hct := cost_bd' (f := j) (e := n) Hbd.out Hn.out hlt (by omega)
            rw [Hct.out] at hct
            have hce := cost_eq (zs := zs) (f := j) (n := n) (m := m) hlt Hn.out Hm.out Hp.out
            rw [Hct.out] at hce
            have Hnext := Lib.hid (sfold_next hj1 Ht.out Hsc.out Hct.out)
            have hls := seg_length (zs := zs) (f := j) (e := n) rfl (by omega) Hn.out
            have HC1 := Lib.hid (fun W : World => fun h : RdI W B (some ⟨b, off, none⟩) zs => IH.out (some ⟨b, off, none⟩) c j zs (kI - 1) W B h (by omega) (by omega) hc63 (by omega) Hbd.out (by have := Hk.out; omega) (by have := Hk0.out; omega) (by omega))
            have HC2 := Lib.hid (fun W : World => fun h : RdI W B (some ⟨b, off + j, none⟩) (seg zs j n) => sSumNear_any (some ⟨b, off + j, none⟩) (c - j) (n - j) (seg zs j n) p W B h hls (by omega) (seg_bd Hbd.out j n) hp1 hp2)
            rw [Hsc.out] at HC1
            rw [← hce] at HC2
            have hrs := hr.seg j n
            have e1 : ((j : Int) + (n : Int)).tdiv 2 = (m : Int) := by rw [← Hm.out, show (j : Int) + (n : Int) = ((j + n : Nat) : Int) by omega]; exact (Int.ofNat_tdiv (j + n) 2).symm
            have w1 : IntKind.i64.wrap ((j : Int) + (n : Int)) = (j : Int) + (n : Int) := IntWalk.i64_in _ (by omega)
            have w2 : IntKind.i64.wrap (kI - 1) = kI - 1 := IntWalk.i64_in _ (by omega)
            have w3 : IntKind.i64.wrap (sc + ct) = sc + ct := IntWalk.i64_in _ (by omega)
            have hjc : j ≤ c := by omega
            have hcj : ¬ c = j := by omega
            have hjn : j ≤ n := by omega
            clear hls hce
            go_wp2
            go_quiet ((first
              | (go_at_call 44; first | exact quiet_drawn (HC1.out _ hr) | exact quiet_drawn' (HC1.out _ hr))
              | (go_at_call 58; exact quiet_gen (HC2.out _ hrs) ⟨_, rfl⟩)))
            clear w1 w2 w3 e1
            go_wp2
            go_roundw
            case rel => exact ⟨j + 1, min t (sc + ct), _, by omega, by omega, Hnext.out, by omega, by omega, by go_num, by rw [if_min], rfl⟩
            case measure => simp [intOf]; omega
          · obtain rfl : j = n := by omega
            go_wp2
            go_ret
            exact ⟨ret_int (by rw [Hs.out, Ht.out]), _, rfl⟩

def slsum (zs : List Int) (k : Int) : Int := if vh zs = true ∧ vk k = true then scut zs k.toNat zs.length else -1
theorem slsum_no {zs : List Int} {k : Int} (h : ¬ (vh zs = true ∧ vk k = true)) : slsum zs k = -1 := by simp [slsum, h]
theorem slsum_yes {zs : List Int} {k : Int} (h : vh zs = true) (h' : vk k = true) : slsum zs k = scut zs k.toNat zs.length := by simp [slsum, h, h']

set_option maxHeartbeats 400000 in
theorem sLeastSum_any (A : Option Addr) (c n : Nat) (zs : List Int) (k : Int) (w : World) (B : Nat) (hr : RdI w B A zs) (hn : zs.length = n) (hcap : n ≤ c) (hc63 : c ≤ 9223372036854775807) (hb : n ≤ 1048576) :
    Calls Try.prog 17 #[.slice A n c, .int .i64 k] w fun e w' => e = .returned (.int .i64 (slsum zs k)) ∧ ∃ q, w' = w.drewN q := by
  have Hn := Lib.hid hn
  clear hn
  by_cases hv : vh zs = true
  · by_cases hf : k < 1 ∨ 4 < k
    · have Hs := Lib.hid (slsum_no (zs := zs) (k := k) (fun h => by have := vk_no hf; rw [h.2] at this; cases this))
      go_enter Try.func17, Try.ntmps17
      go_wp2_with fail
      refine (sValid_any A c n zs w B hr Hn.out (by omega)).mono ?_
      rintro e w' ⟨rfl, q, rfl⟩
      go_wp2_with (go_at_call 43; refine (inRange_no _ _ _ _ hf).mono ?_; rintro e w' ⟨rfl, rfl⟩)
      go_ret
      exact ⟨ret_int Hs.out.symm, _, rfl⟩
    · have h1 : 1 ≤ k := by omega
      have h2 : k ≤ 4 := by omega
      clear hf
      have Hs := Lib.hid (slsum_yes hv (vk_yes h1 h2))
      have Hl := vh_len hv
      rw [Hn.out] at Hl
      have Hbd := Lib.hid (vh_inbd hv)
      have HC := Lib.hid (fun W : World => fun h : RdI W B A zs => sumCut_any k.toNat A c n zs k W B h (by rw [Hn.out]; exact Nat.le_refl _) hcap hc63 Hl Hbd.out (by omega) (by omega) (by omega))
      go_enter Try.func17, Try.ntmps17
      go_wp2_with fail
      refine (sValid_any A c n zs w B hr Hn.out (by omega)).mono ?_
      rintro e w' ⟨rfl, q, rfl⟩
      have Hv := Lib.hid hv
      go_wp2_with (go_at_call 43; refine (inRange_yes _ _ _ _ h1 h2).mono ?_; rintro e w' ⟨rfl, rfl⟩)
      clear hv
      refine (HC.out (w.drewN q) hr).mono ?_
      rintro e w' ⟨rfl, q2, rfl⟩
      go_wp2
      go_ret
      exact ⟨ret_int (by rw [Hs.out, Hn.out]), _, (by first | rfl | exact World.drewN_drewN _ _ _)⟩
  · have hv' : vh zs = false := by simpa using hv
    have Hs := Lib.hid (slsum_no (zs := zs) (k := k) (fun h => hv h.1))
    clear hv
    go_enter Try.func17, Try.ntmps17
    go_wp2_with fail
    refine (sValid_any A c n zs w B hr Hn.out (by omega)).mono ?_
    rintro e w' ⟨rfl, q, rfl⟩
    go_wp2
    go_ret
    exact ⟨ret_int Hs.out.symm, _, rfl⟩
end Go.Proofs.Ytoohfipicmdohab
