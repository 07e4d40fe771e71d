/-
  ValidShops, nearest and the shares of the model, walked.
  Conditions: as each theorem states.
-/
import Derived.Test.Ythphboeboiallaa0S
import Derived.Test.YthphboeboiallaaLR
namespace Go.Proofs.Ythphboeboiallaa
open Go.ChangeShapes Go.WideShapes Go.ChangeAt Go.RowKit
set_option linter.unusedVariables false
set_option maxRecDepth 4000

/-- The number ahead of place k, 0 for none. -/
def ahQ (zs : List Int) (k : Nat) : Int := if k = 0 then 0 else zs.getD (k - 1) 0
theorem ahQ_zero (zs : List Int) : ahQ zs 0 = 0 := rfl
theorem ahQ_succ (zs : List Int) (j : Nat) : ahQ zs (j + 1) = zs.getD j 0 := by simp [ahQ]
def ValQ (b : Bool) (w : World) (e : Ending) (w' : World) : Prop := e = .returned (.bool b) ∧ Below w.heap.size w w'
set_option maxHeartbeats 1600000 in
theorem sValidShops_in : QBool 49 vsh := by
  intro n A c m zs w hp
  have Hn := Lib.hid hp.len
  have hmost := hp.most
  have hr := hp.rd
  obtain ⟨u, Hu⟩ : ∃ u, Hid (IntKind.i64.wrap (n - 1) = u) := ⟨_, rfl⟩
  have hwu := Hu.out
  have HV : Hid (vsh n zs = (okUp u 0 zs && ((decide (1 ≤ n) && decide (n ≤ 9)) && (decide (1 ≤ m) && decide (m ≤ 4))))) := by
    show _ = _
    unfold vsh
    rw [Hn.out]
    by_cases h1 : 1 ≤ n ∧ n ≤ 9
    · have e : u = n - 1 := by rw [← Hu.out]; exact IntWalk.i64_in _ (by omega)
      rw [e]
      cases okUp (n - 1) 0 zs <;> simp
    · have e : (decide (1 ≤ n) && decide (n ≤ 9)) = false := by simp; omega
      rw [e]; simp
  clear hp
  show Calls _ _ _ _ (ValQ (vsh n zs) w)
  rw [HV.out]
  go_enter Try.func49, Try.ntmps49
  go_wp2
  go_loopw [5] (fun i wr => ∃ k : Nat, ∃ q, k ≤ m ∧ Hid (okUp u 0 zs = okUp u (ahQ zs k) (zs.drop k)) ∧ Hid (0 ≤ ahQ zs k) ∧ i = .int .i64 k ∧ wr = w.drewN q) (fun i _ => m - (intOf i).toNat)
  case atStart => exact ⟨0, 0, Nat.zero_le _, rfl, (by show (0 : Int) ≤ ahQ zs 0; rw [ahQ_zero]; omega), rfl, rfl⟩
  case round =>
    obtain ⟨k, q, hk, Ho, Hp, rfl, rfl⟩ := hrel
    by_cases hlt : k < m
    · obtain ⟨b, off, x, rfl, hbw, Hx, hc⟩ := hr.x (k := k) (by rw [Hn.out]; exact hlt)
      by_cases h1 : x < 0 ∨ u < x
      · have Hs := Lib.hid (okUp_no (u := u) (a := ahQ zs k) (by rw [Hn.out]; exact hlt) Hx.out Ho.out (by have := Hp.out; omega))
        rw [Hs.out]
        go_wp2
        go_quiet ((go_at_call 64; exact quiet_gen (inRange_no _ _ _ _ h1) ⟨_, rfl⟩))
        go_wp2
        go_ret
        exact ⟨rfl, below_drew0 (below_drew0 (Below.refl _ _) _) _⟩
      · have h2 : 0 ≤ x := by omega
        have h3 : x ≤ u := by omega
        clear h1
        rcases Nat.eq_zero_or_pos k with hk0 | hk0
        · subst hk0
          rw [Nat.add_zero] at hc
          have Hs := Lib.hid (okUp_step (by rw [Hn.out]; exact hlt) Hx.out Ho.out (by rw [ahQ_zero]; exact h2) h3)
          go_wp2
          go_quiet ((go_at_call 64; exact quiet_gen (inRange_yes _ _ _ _ h2 h3) ⟨_, rfl⟩))
          go_wp2
          go_roundw
          case rel => exact ⟨1, _, by omega, (by show okUp u 0 zs = okUp u (ahQ zs (0 + 1)) (zs.drop 1); rw [ahQ_succ, Hx.out]; exact Hs.out), (by show 0 ≤ ahQ zs (0 + 1); rw [ahQ_succ, Hx.out]; exact h2), rfl, rfl⟩
          case measure => simp [intOf]; omega
        · obtain ⟨j, rfl⟩ : ∃ j, k = j + 1 := ⟨k - 1, by omega⟩
          obtain ⟨b', off', y, he, _, Hy, hcy⟩ := hr.x (k := j) (by rw [Hn.out]; omega)
          injection he with he
          injection he with he1 he2
          subst he1 he2
          have Ha := ahQ_succ zs j
          rw [Hy.out] at Ha
          by_cases hxy : x < y
          · have Hs := Lib.hid (okUp_no (u := u) (a := ahQ zs (j + 1)) (by rw [Hn.out]; exact hlt) Hx.out Ho.out (by rw [Ha]; exact .inl hxy))
            clear Ha
            rw [Hs.out]
            go_wp2
            go_quiet ((go_at_call 64; exact quiet_gen (inRange_yes _ _ _ _ h2 h3) ⟨_, rfl⟩))
            go_wp2
            go_ret
            exact ⟨rfl, below_drew0 (below_drew0 (Below.refl _ _) _) _⟩
          · have Hs := Lib.hid (okUp_step (by rw [Hn.out]; exact hlt) Hx.out Ho.out (by rw [Ha]; omega) h3)
            clear Ha
            go_wp2
            go_quiet ((go_at_call 64; exact quiet_gen (inRange_yes _ _ _ _ h2 h3) ⟨_, rfl⟩))
            go_wp2
            go_roundw
            case rel => exact ⟨j + 2, _, by omega, (by show okUp u 0 zs = okUp u (ahQ zs (j + 1 + 1)) (zs.drop (j + 1 + 1)); rw [ahQ_succ, Hx.out]; exact Hs.out), (by show 0 ≤ ahQ zs (j + 1 + 1); rw [ahQ_succ, Hx.out]; exact h2), by go_num, rfl⟩
            case measure => simp [intOf]; omega
    · obtain rfl : k = m := by omega
      have Ho' := okUp_end (by rw [Hn.out]; omega) Ho.out
      have HB : Hid (Below w.heap.size w (w.drewN q)) := below_drew0 (Below.refl _ _) _
      have H1 := Lib.hid (fun W => inRange_any n 1 9 W)
      have H2 := Lib.hid (fun W => inRange_any (k : Int) 1 4 W)
      by_cases h1 : 1 ≤ n ∧ n ≤ 9
      · have hv : (decide (1 ≤ n) && decide (n ≤ 9)) = true := by simp [h1.1, h1.2]
        have hE : (decide (1 ≤ (k : Int)) && decide ((k : Int) ≤ 4)) = (decide (1 ≤ k) && decide (k ≤ 4)) := by
          by_cases a1 : 1 ≤ k <;> by_cases a2 : k ≤ 4
          all_goals simp [a1, a2]
          all_goals omega
        obtain ⟨r, Hr⟩ : ∃ r, Hid ((decide (1 ≤ k) && decide (k ≤ 4)) = r) := ⟨_, rfl⟩
        have HE : Hid ((okUp u 0 zs && ((decide (1 ≤ n) && decide (n ≤ 9)) && (decide (1 ≤ k) && decide (k ≤ 4)))) = r) := by show _ = _; rw [Ho', hv, Hr.out]; simp
        rw [hv] at H1
        rw [hE, Hr.out] at H2
        clear hv h1 hE Ho' hwu
        cases r
        all_goals
          go_wp2_with fail
          refine (H1.out _).mono ?_
          rintro e w1 ⟨rfl, rfl⟩
          go_wp2_with fail
          refine (H2.out _).mono ?_
          rintro e w1 ⟨rfl, rfl⟩
          go_wp2
          go_ret
          exact ⟨ret_bool HE.out.symm, HB.out⟩
      · have hv : (decide (1 ≤ n) && decide (n ≤ 9)) = false := by simp; omega
        have HE : Hid ((okUp u 0 zs && ((decide (1 ≤ n) && decide (n ≤ 9)) && (decide (1 ≤ k) && decide (k ≤ 4)))) = false) := by show _ = _; rw [hv]; simp
        rw [hv] at H1
        clear hv h1 Ho' hwu
        go_wp2_with fail
        refine (H1.out _).mono ?_
        rintro e w1 ⟨rfl, rfl⟩
        go_wp2
        go_ret
        exact ⟨ret_bool HE.out.symm, HB.out⟩
theorem sValidShops_ok : QBool 17 vsh := by
  intro n A c m zs w hp
  have H := Lib.hid (sValidShops_in n A c m zs w hp)
  clear hp
  go_enter Try.func17, Try.ntmps17
  go_wp2_with fail
  refine H.out.mono ?_
  rintro e w' ⟨rfl, hb⟩
  go_wp2
  go_ret
  exact ⟨rfl, hb⟩

theorem nrS_snoc (a : List Nat) (s h : Nat) : nrS (a ++ [s]) h = min (gpS s h) (nrS a h) := by
  rw [nrS_perm (tt := s :: a) (by simp), nrS_cons]
theorem take_snocN {ss : List Nat} {k s : Nat} (hk : k < ss.length) (hs : ss.getD k 0 = s) : ss.take (k + 1) = ss.take k ++ [s] := by
  rw [List.take_succ_eq_append_getElem hk]
  congr 2
  rw [← hs]; simp [List.getD, hk]
theorem gpS_le100 {a b : Nat} (ha : a ≤ 100) (hb : b ≤ 100) : gpS a b ≤ 100 := by unfold gpS; omega
set_option maxHeartbeats 800000 in
theorem nearestQ_any (A : Option Addr) (c m h : Nat) (ss : List Nat) (w : World) (B : Nat) (hr : RdI w B A (cI ss)) (hm : ss.length = m) (h1 : 1 ≤ m) (hm4 : m ≤ 100) (hss : ∀ s ∈ ss, s ≤ 100) (hh : h ≤ 100) :
    Calls Try.prog 68 #[.slice A m c, .int .i64 (h : Int)] w fun e w' => e = .returned (.int .i64 ((nrS ss h : Nat) : Int)) ∧ w = w' := by
  have Hm := Lib.hid hm
  have Hr := Lib.hid hr
  have HG := Lib.hid (fun (k : Nat) (W : World) (hk : k < ss.length) => gapQ (ss.getD k 0) h W (hss _ (getDN_mem hk)) hh)
  have HL := Lib.hid (fun (k : Nat) (hk : k < ss.length) => gpS_le100 (hss _ (getDN_mem hk)) hh)
  obtain ⟨b0, off0, y, rfl, _, Hy, hc⟩ := Hr.out.q (k := 0) (by omega)
  have HG0 := Lib.hid (HG.out 0 w (by omega))
  have hl0 := HL.out 0 (by omega)
  rw [Hy.out] at HG0 hl0
  obtain ⟨d0, Hd0⟩ : ∃ d, Hid (gpS y h = d) := ⟨_, rfl⟩
  rw [Hd0.out] at HG0 hl0
  have H0 : Hid (nrS (ss.take 1) h = d0) := by
    show _ = _
    rw [take_snocN (k := 0) (by omega) Hy.out, nrS_snoc, Hd0.out]
    show min d0 100 = d0
    omega
  rw [Nat.add_zero] at hc
  clear hm hr hss
  go_enter Try.func68, Try.ntmps68
  go_wp2_with fail
  refine HG0.out.mono ?_
  rintro e w1 ⟨rfl, rfl⟩
  go_wp2
  go_loop [5, 6] (fun s i => ∃ k t : Nat, k < m ∧ Hid (nrS (ss.take (k + 1)) h = t) ∧ i = .int .i64 ((k + 1 : Nat) : Int) ∧ s = .int .i64 ((t : Nat) : Int)) (fun _ i => m - (intOf i).toNat)
  case atStart => exact ⟨0, d0, by omega, H0, rfl, rfl⟩
  case round =>
    obtain ⟨k, t, hk, Ht, rfl, rfl⟩ := hrel
    clear hc HG0 H0
    by_cases hlt : k + 1 < m
    · obtain ⟨b, off, z, he, _, Hz, hc⟩ := Hr.out.q (k := k + 1) (by rw [Hm.out]; exact hlt)
      injection he with he
      injection he with he1 he2
      subst he1 he2
      have HGk := Lib.hid (HG.out (k + 1) w (by rw [Hm.out]; exact hlt))
      rw [Hz.out] at HGk
      obtain ⟨d, Hd⟩ : ∃ d, Hid (gpS z h = d) := ⟨_, rfl⟩
      rw [Hd.out] at HGk
      have Hs : Hid (nrS (ss.take (k + 1 + 1)) h = min t d) := by show _ = _; rw [take_snocN (by rw [Hm.out]; exact hlt) Hz.out, nrS_snoc, Hd.out, Ht.out, Nat.min_comm]
      generalize hi : k + 1 = i at *
      go_wp2_with fail
      refine HGk.out.mono ?_
      rintro e w1 ⟨rfl, rfl⟩
      by_cases htd : d < t
      · have e1 : min t d = d := by omega
        rw [e1] at Hs
        clear e1
        go_wp2
        go_round
        case rel => exact ⟨i, d, hlt, Hs, by go_num, by first | (simp; done) | (simp; omega)⟩
        case measure => simp [intOf]; omega
      · have e1 : min t d = t := by omega
        rw [e1] at Hs
        clear e1
        go_wp2
        go_round
        case rel => exact ⟨i, t, hlt, Hs, by go_num, by first | (simp; done) | (simp; omega)⟩
        case measure => simp [intOf]; omega
    · have Hs : Hid (nrS ss h = t) := by
        have := Ht.out
        rw [List.take_of_length_le (by rw [Hm.out]; omega)] at this
        exact this
      generalize hi : k + 1 = i at *
      have hin : i = m := by omega
      subst hin
      go_wp2
      go_ret
      exact ⟨ret_int (by rw [Hs.out]), rfl⟩
/-- The row of shares. -/
structure RwQ (w wr : World) (sb m : Nat) (f : Nat → Nat) : Prop where
  row : wr.heap[sb]? = some (.cells (rwA f m) 3 (0, 0))
  bel : Below w.heap.size w wr
  lo : w.heap.size ≤ sb
theorem RwQ.congr {w wr : World} {sb m : Nat} {f f' : Nat → Nat} (h : RwQ w wr sb m f) (hf : ∀ i, i < m → f i = f' i) : RwQ w wr sb m f' := ⟨by rw [← rwA_congr hf]; exact h.row, h.bel, h.lo⟩
theorem RwQ.write {w wr : World} {sb m k v : Nat} {f : Nat → Nat} (h : RwQ w wr sb m f) (hk : k < m) : RwQ w (wr.setCell ⟨sb, k, none⟩ (.int .i64 ((v : Nat) : Int))) sb m (fun j => if j = k then v else f j) :=
  ⟨by rw [heap_setCell_same _ _ _ _ _ _ h.row, rwA_set hk], h.bel.setCell h.lo _, h.lo⟩
theorem RwQ.drew {w wr : World} {sb m : Nat} {f : Nat → Nat} (h : RwQ w wr sb m f) : RwQ w wr.drew sb m f := ⟨h.row, h.bel.drew, h.lo⟩
theorem RwQ.cell {w wr : World} {sb m k : Nat} {f : Nat → Nat} (h : RwQ w wr sb m f) (hk : k < m) : wr.cell? ⟨sb, k, none⟩ = some (.int .i64 ((f k : Nat) : Int)) := (cell_of_row _ _ _ _ _ _ h.row).trans (rwA_get hk)
theorem RwQ.done {w wr : World} {sb m : Nat} {f : Nat → Nat} (h : RwQ w wr sb m f) {L : List Nat} (hL : L.length = m) (hf : ∀ i, i < m → f i = L.getD i 0) (hm : m ≤ 1000) : RowQ (cI L) w (.returned (.slice (some ⟨sb, 0, none⟩) m m)) wr := by
  have e : rwA f m = ((cI L).map (Value.int .i64)).toArray := by
    rw [rwA_congr hf]
    unfold rwA cI
    congr 1
    apply List.ext_getElem?
    intro i
    by_cases hi : i < m
    · simp [hi, List.getD, List.getElem?_eq_getElem (show i < L.length by omega)]
    · simp [hi, List.getElem?_eq_none (show L.length ≤ i by omega)]
  have hl : (cI L).length = m := by rw [cI_length]; exact hL
  refine ⟨_, _, by rw [hl], ⟨?_, .inr ⟨sb, m, _, by rw [hl], h.lo, h.row, by rw [hl]; exact Nat.le_refl _, by unfold maxLen; omega, ?_, ?_⟩⟩, h.bel⟩
  · rw [List.length_map, Nat.mul_one]
  · rw [rwA_size, Nat.mul_one]
  · rw [e, hl, Nat.mul_one, List.take_of_length_le (by rw [List.length_map]; omega)]
theorem ctS_snoc (a : List Nat) (s h d : Nat) : ctS (a ++ [s]) h d = ctS a h d + if gpS s h = d then 1 else 0 := by
  unfold ctS
  rw [List.countP_append]
  by_cases e : gpS s h = d <;> simp [e]
theorem ctS_pos {ss : List Nat} {j h d : Nat} (hj : j < ss.length) (e : gpS (ss.getD j 0) h = d) : 0 < ctS ss h d := List.countP_pos_iff.2 ⟨_, getDN_mem hj, by simp only [e, beq_self_eq_true]⟩
theorem ctS_le (ss : List Nat) (h d : Nat) : ctS ss h d ≤ ss.length := List.countP_le_length
def HoRel (w : World) (ss : List Nat) (n m sb : Nat) (i : Value) (wr : World) : Prop :=
  ∃ h : Nat, h ≤ n ∧ i = .int .i64 ((h : Nat) : Int) ∧ Hid (RwQ w wr sb m (fun i => shK ss (ss.getD i 0) h))
def KoRel (ss : List Nat) (h d m : Nat) (a b : Value) : Prop :=
  ∃ i k : Nat, i ≤ m ∧ k ≤ i ∧ a = .int .i64 ((k : Nat) : Int) ∧ b = .int .i64 ((i : Nat) : Int) ∧ Hid (ctS (ss.take i) h d = k)
def AoRel (w : World) (ss : List Nat) (h m sb : Nat) (b : Value) (wr : World) : Prop :=
  ∃ j : Nat, j ≤ m ∧ b = .int .i64 ((j : Nat) : Int) ∧ Hid (RwQ w wr sb m (fun i => shK ss (ss.getD i 0) h + if i < j then ptS ss h (ss.getD i 0) else 0))
set_option maxHeartbeats 3200000 in
theorem sShares_any (n m c : Nat) (A : Option Addr) (ss : List Nat) (w : World) (hr : RdI w w.heap.size A (cI ss)) (hm : ss.length = m) (h1 : 1 ≤ m) (hm4 : m ≤ 10) (hn9 : n ≤ 9) (hss : ∀ s ∈ ss, s < n) :
    Calls Try.prog 54 #[.int .i64 (n : Int), .slice A m c] w (RowQ (cI (shL n ss)) w) := by
  obtain ⟨i0, hi0, hz0, hz1, hz2⟩ := info_parts intInfo
  have Hm := Lib.hid hm
  have Hr := Lib.hid hr
  have HG : Hid (∀ (k h : Nat) (W : World), k < m → h < n → Calls Try.prog 69 #[.int .i64 ((ss.getD k 0 : Nat) : Int), .int .i64 (h : Int)] W fun e w' => e = .returned (.int .i64 ((gpS (ss.getD k 0) h : Nat) : Int)) ∧ W = w') :=
    fun k h W hk hh => gapQ (ss.getD k 0) h W (by have := hss _ (getDN_mem (show k < ss.length by omega)); omega) (by omega)
  have HN : Hid (∀ (h : Nat) (W : World), Below w.heap.size w W → h < n → Calls Try.prog 68 #[.slice A m c, .int .i64 (h : Int)] W fun e w' => e = .returned (.int .i64 ((nrS ss h : Nat) : Int)) ∧ W = w') :=
    fun h W hW hh => nearestQ_any A c m h ss W _ (Hr.out.below hW) hm h1 (by omega) (fun s hs => by have := hss s hs; omega) (by omega)
  have hmn : ¬ (m : Int) < 0 := by omega
  clear hm hr hss
  go_enter Try.func54, Try.ntmps54
  go_wp2_with (at_make; refine wpList_make_full _ rfl _ _ 23 rfl w.heap.size 3 i0 _ 1 Try.underlying23 hi0 hz0 hz1 _ _ _ _ m rfl rfl rfl rfl (by rw [hz2]; omega) (by unfold maxLen; omega) (Nat.le_refl _) ?_; intro w2 hown2 hg2)
  rw [made_ints] at hown2
  have hblk := own_blockN hown2
  rw [rwA_zero] at hblk
  have HR0 : Hid (RwQ w w2 w.heap.size m (fun i => shK ss (ss.getD i 0) 0)) := ⟨hblk, (Below.refl _ _).grown hg2 (Nat.le_refl _) (fun j hj => by cases hj), Nat.le_refl _⟩
  clear hown2 hg2 hblk
  go_wp2
  go_loopw [6] (fun i wr => HoRel w ss n m w.heap.size i wr) (fun i _ => n - (intOf i).toNat)
  case atStart => exact ⟨0, Nat.zero_le _, rfl, HR0⟩
  case round =>
    clear HR0
    obtain ⟨h, hh, rfl, HR⟩ := hrel
    by_cases hlt : h < n
    · obtain ⟨d, Hd⟩ : ∃ d, Hid (nrS ss h = d) := ⟨_, rfl⟩
      have HNh := Lib.hid (HN.out h wr HR.out.bel hlt)
      rw [Hd.out] at HNh
      go_wp2_with fail
      refine HNh.out.mono ?_
      rintro e w1 ⟨rfl, rfl⟩
      go_wp2
      go_loop [8, 9] (fun a b => KoRel ss h d m a b) (fun _ b => m - (intOf b).toNat)
      case atStart => exact ⟨0, 0, Nat.zero_le _, Nat.le_refl _, rfl, rfl, rfl⟩
      case round =>
        obtain ⟨i, k, hi, hki, rfl, rfl, HK⟩ := hrel
        by_cases hli : i < m
        · obtain ⟨b, off, s, rfl, _, Hs, hc⟩ := (Hr.out.below HR.out.bel).q (k := i) (by rw [Hm.out]; exact hli)
          have HGi := Lib.hid (HG.out i h wr hli hlt)
          rw [Hs.out] at HGi
          obtain ⟨p, Hp⟩ : ∃ p, Hid (gpS s h = p) := ⟨_, rfl⟩
          rw [Hp.out] at HGi
          have HK2 : Hid (ctS (ss.take (i + 1)) h d = k + if p = d then 1 else 0) := by show _ = _; rw [take_snocN (by rw [Hm.out]; exact hli) Hs.out, ctS_snoc, HK.out, Hp.out]
          go_wp2_with fail
          refine HGi.out.mono ?_
          rintro e w1 ⟨rfl, rfl⟩
          by_cases hpd : p = d
          · have ht : ((p : Int) == (d : Int)) = true := by rw [beq_iff_eq]; omega
            rw [if_pos hpd] at HK2
            clear hpd
            go_wp2
            go_round
            case rel => exact ⟨i + 1, k + 1, by omega, by omega, by go_num, by go_num, HK2⟩
            case measure => simp [intOf]; omega
          · have ht : ((p : Int) == (d : Int)) = false := by rw [beq_eq_false_iff_ne]; omega
            rw [if_neg hpd, Nat.add_zero] at HK2
            clear hpd
            go_wp2
            go_round
            case rel => exact ⟨i + 1, k, by omega, by omega, rfl, by go_num, HK2⟩
            case measure => simp [intOf]; omega
        · obtain rfl : i = m := by omega
          have HK2 : Hid (ctS ss h d = k) := by have := HK.out; rw [List.take_of_length_le (by rw [Hm.out]; exact Nat.le_refl _)] at this; exact this
          have HR1 : Hid (RwQ w wr w.heap.size i (fun t => shK ss (ss.getD t 0) h + if t < 0 then ptS ss h (ss.getD t 0) else 0)) := HR.out.congr fun t _ => by rw [if_neg (by omega), Nat.add_zero]
          clear HK HR
          go_wp2
          go_loopw [10] (fun b wr => AoRel w ss h i w.heap.size b wr) (fun b _ => i - (intOf b).toNat)
          case atStart => exact ⟨0, Nat.zero_le _, rfl, HR1⟩
          case round =>
            clear HR1
            obtain ⟨j, hj, rfl, HR⟩ := hrel
            by_cases hlj : j < i
            · obtain ⟨b, off, s, rfl, _, Hs, hc⟩ := (Hr.out.below HR.out.bel).q (k := j) (by rw [Hm.out]; exact hlj)
              have HGi := Lib.hid (HG.out j h wr hlj hlt)
              rw [Hs.out] at HGi
              obtain ⟨p, Hp⟩ : ∃ p, Hid (gpS s h = p) := ⟨_, rfl⟩
              rw [Hp.out] at HGi
              go_wp2_with fail
              refine HGi.out.mono ?_
              rintro e w1 ⟨rfl, rfl⟩
              by_cases hpd : p = d
              · have ht : ((p : Int) == (d : Int)) = true := by rw [beq_iff_eq]; omega
                have hk1 : 0 < k := by rw [← HK2.out]; exact ctS_pos (j := j) (by rw [Hm.out]; exact hlj) (by rw [Hs.out, Hp.out]; exact hpd)
                have hpt : ptS ss h s = 12 / k := by unfold ptS; rw [Hp.out, Hd.out, if_pos hpd, HK2.out]
                have cs := HR.out.cell (k := j) hlj
                rw [if_neg (Nat.lt_irrefl j), Nat.add_zero] at cs
                have fs := frozen_of_row _ w.heap.size j _ _ HR.out.row
                obtain ⟨u, Hu⟩ : ∃ u, Hid (shK ss (ss.getD j 0) h = u) := ⟨_, rfl⟩
                have hub := shK_le ss (ss.getD j 0) h
                rw [Hu.out] at cs hub
                obtain ⟨v, Hv⟩ : ∃ v, Hid (12 / k = v) := ⟨_, rfl⟩
                have hdiv : Int.tdiv (12 : Int) (k : Int) = ((v : Nat) : Int) := by rw [← Hv.out]; rfl
                have hdiv2 : (12 : Int) / (k : Int) = ((v : Nat) : Int) := by rw [← Hv.out]; rfl
                have hv12 : v ≤ 12 := by rw [← Hv.out]; exact Nat.div_le_self _ _
                have hkne : ¬ (k : Int) = 0 := by omega
                have HR2 : Hid (RwQ w (wr.setCell ⟨w.heap.size, j, none⟩ (.int .i64 ((u : Int) + (v : Int)))) w.heap.size i (fun t => shK ss (ss.getD t 0) h + if t < j + 1 then ptS ss h (ss.getD t 0) else 0)) := by
                  have h1 := HR.out.write (k := j) (v := u + v) hlj
                  rw [Int.natCast_add] at h1
                  refine h1.congr fun t _ => ?_
                  by_cases e : t = j
                  · subst e; rw [if_pos rfl, if_pos (by omega), Hu.out, Hs.out, hpt, Hv.out]
                  · rw [if_neg e]
                    congr 1
                    by_cases e2 : t < j
                    · rw [if_pos e2, if_pos (by omega)]
                    · rw [if_neg e2, if_neg (by omega)]
                have hwu : IntKind.i64.wrap ((u : Int) + (v : Int)) = (u : Int) + (v : Int) := IntWalk.i64_in _ (by omega)
                have hwv : IntKind.i64.wrap (v : Int) = (v : Int) := IntWalk.i64_in _ (by omega)
                clear HR hpd hpt
                go_wp2
                go_region
                go_wp2
                go_roundw
                case rel => exact ⟨j + 1, by omega, by go_num, HR2.out.drew⟩
                case measure => simp [intOf]; omega
              · have ht : ((p : Int) == (d : Int)) = false := by rw [beq_eq_false_iff_ne]; omega
                have hpt : ptS ss h s = 0 := by unfold ptS; rw [Hp.out, Hd.out, if_neg hpd]
                have HR2 : Hid (RwQ w wr w.heap.size i (fun t => shK ss (ss.getD t 0) h + if t < j + 1 then ptS ss h (ss.getD t 0) else 0)) := HR.out.congr fun t _ => by
                  congr 1
                  by_cases e : t = j
                  · subst e; rw [if_neg (by omega), if_pos (by omega), Hs.out, hpt]
                  · by_cases e2 : t < j
                    · rw [if_pos e2, if_pos (by omega)]
                    · rw [if_neg e2, if_neg (by omega)]
                clear HR hpd hpt
                go_wp2
                go_roundw
                case rel => exact ⟨j + 1, by omega, by go_num, HR2⟩
                case measure => simp [intOf]; omega
            · obtain rfl : j = i := by omega
              have HR2 : Hid (RwQ w wr w.heap.size j (fun t => shK ss (ss.getD t 0) (h + 1))) := HR.out.congr fun t ht => by rw [if_pos ht]; rfl
              clear HR
              go_wp2
              go_roundw
              case rel => exact ⟨h + 1, by omega, by go_num, HR2⟩
              case measure => simp [intOf]; omega
    · obtain rfl : h = n := by omega
      have HX := Lib.hid (HR.out.done (L := shL h ss) (by rw [← Hm.out]; simp [shL]) (fun i hi => by
        simp [shL, List.getD, List.getElem?_eq_getElem (show i < ss.length by rw [Hm.out]; exact hi)]) (by omega))
      go_wp2
      go_ret
      exact HX.out
theorem sSharesOf_ok : QRow 22 shQ := by
  intro n A c m zs w hp
  have HV := Lib.hid (sValidShops_in n A c m zs w hp)
  by_cases hv : vsh n zs = true
  · obtain ⟨n, ss, rfl, rfl, hS⟩ := vsh_get hv
    rw [hv] at HV
    rw [shQ_yes hS]
    have hm : ss.length = m := by rw [← cI_length]; exact hp.len
    have hl1 := hS.l1
    have hl4 := hS.l4
    have HS := Lib.hid (fun (W : World) (hW : Below w.heap.size w W) => sShares_any n m c A ss W ((hp.later hW).rd) hm (by omega) (by omega) hS.n9 hS.lt)
    clear hv hS hp hm
    go_enter Try.func22, Try.ntmps22
    go_wp2_with fail
    refine HV.out.mono ?_
    rintro e w1 ⟨rfl, hb1⟩
    have HB1 := Lib.hid hb1
    clear hb1
    go_wp2_with fail
    refine (HS.out w1 HB1.out).mono ?_
    intro e w2 hq
    have HQ := Lib.hid (hq.from HB1.out)
    obtain ⟨A2, c2, rfl, -, -⟩ := hq
    go_wp2
    go_ret
    exact HQ.out
  · have hv' : vsh n zs = false := by simpa using hv
    rw [hv'] at HV
    rw [shQ_no hv']
    clear hv hv' hp
    go_enter Try.func22, Try.ntmps22
    go_wp2_with fail
    refine HV.out.mono ?_
    rintro e w1 ⟨rfl, hb1⟩
    go_wp2
    go_ret
    exact rowQ_nil _ _ hb1
end Go.Proofs.Ythphboeboiallaa
