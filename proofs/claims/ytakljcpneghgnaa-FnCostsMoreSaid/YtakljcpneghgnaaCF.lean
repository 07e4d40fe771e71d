/-
  CostTried of the model, walked: all orders of the helpers, call by call.
  Conditions: as each theorem states.
-/
import Derived.Test.YtakljcpneghgnaaCM
import Derived.Test.YtakljcpneghgnaaCY
import Derived.Deep.RegionHeld3
import Derived.Deep.AppendLies
namespace Go.Proofs.Ytakljcpneghgnaa
open Go.ChangeShapes Go.WideShapes Go.ChangeAt Go.RowKit
set_option linter.unusedVariables false
set_option maxRecDepth 4000

/-- 'append' onto a slice of the call's own, of any number of elements (none too), at a step of a region that draws its order. -/
theorem step_append_any {P : Program} {ops : Array Oper} {o : Oper} {a : Act} (w : World) {K : Act → World → Prop} {Q : Exit → Act → World → Prop} {E : Prop} (hgd : o.guard = none) (s x : Operand) (t : TypeId)
    (ho : o.op = .call { callee := .builtin .append, args := #[s, x], argTypes := #[t, t] })
    (base : Nat) (e : TypeId) (i : TypeInfo) (z : Value) (size bytes : Nat) (ht : P.underlying t = some (.slice e)) (hi : P.info? e = some i) (hz : i.zero = some z)
    (hsize : i.size = size) (hby : i.bytes = bytes) (hzs : z.cells.size = size) (hsz : 0 < size)
    (v : Value) (n : Nat) (xs : List Value) (hs : a.eval s = v) (hown : w.ownsRow base e size v n xs)
    (ad : Addr) (m c : Nat) (news : List Value) (hx : a.eval x = .slice (some ad) m c) (hl : news.length = m * size) (hnews : ∀ j u, news[j]? = some u → w.cell? (ad.add j) = some u) (h1 : ∀ u ∈ news, u.oneCell' = true)
    (h63 : n + m ≤ maxLen) (hbytes : (n + m) * bytes ≤ 140737488355328) (hbase : base ≤ w.heap.size)
    (h : ∀ v' w', w'.ownsRow base e size v' (n + m) (xs ++ news) → w.grownBy w' v.ownBlock → K (a.put o.dst v') w') :
    if Region.wanted o (yielded ops a.tmps) = true then Oper.wp P o a w K Q else E := by
  have hw : Region.wanted o (yielded ops a.tmps) = true := by simp [Region.wanted, hgd]
  rw [if_pos hw]
  obtain ⟨v', w', hr, h2, h3, -, -⟩ := run_append_own_at (P := P) w base t o.type e i z size bytes ht hi hz hsize hby hzs hsz v n xs hown ad m c news hl hnews h1 h63 hbytes hbase
  unfold Oper.wp execOp
  simp only [ho, resolve, invoke, builtin, Sem.run_bind, Sem.run_pure, Result.andThen_ok, List.map_toArray, List.map_cons, List.map_nil, hs, hx, hr]
  exact h v' w' h2 h3

/-- At the step of a region whose slot is known. -/
theorem at_slot {o : Oper} {y : Nat → Option Bool} {A B : Prop} (h : if Region.wanted o y = true then A else B) : if Region.wanted o y = true then A else B := h
/-- Ints as they lie behind an address, none too. -/
def LieI (w : World) (B : Nat) (ad : Addr) (zs : List Int) : Prop := ad.block < B ∧ ∀ j u, (zs.map (Value.int .i64))[j]? = some u → w.cell? (ad.add j) = some u
theorem LieI.below {w w' : World} {B : Nat} {ad : Addr} {zs : List Int} (h : LieI w B ad zs) (hb : Below B w w') : LieI w' B ad zs :=
  ⟨h.1, fun j u hu => by rw [hb.cell (by simpa [Addr.add] using (show (ad.add j).block < B by unfold Addr.add; split <;> exact h.1))]; exact h.2 j u hu⟩
theorem LieI.more {w : World} {B B' : Nat} {ad : Addr} {zs : List Int} (h : LieI w B ad zs) (hB : B ≤ B') : LieI w B' ad zs := ⟨Nat.lt_of_lt_of_le h.1 hB, h.2⟩
theorem LieI.at_ {w : World} {B b off : Nat} {zs : List Int} (h : LieI w B ⟨b, off, none⟩ zs) {i : Nat} (hi : i < zs.length) : ∃ x, Hid (zs.getD i 0 = x) ∧ w.cell? ⟨b, off + i, none⟩ = some (.int .i64 x) := by
  refine ⟨zs.getD i 0, rfl, ?_⟩
  have := h.2 i (.int .i64 (zs.getD i 0)) (by simp [List.getD, List.getElem?_eq_getElem hi])
  rwa [addr_addV] at this
theorem lieI_own {w : World} {B g n cap : Nat} {zs : List Int} (h : w.ownsRow B 3 1 (.slice (some ⟨g, 0, none⟩) n cap) n (zs.map (Value.int .i64))) (hg : g < w.heap.size) : LieI w w.heap.size ⟨g, 0, none⟩ zs :=
  ⟨hg, fun j u hu => h.cells rfl j u hu⟩

/-- Is a helper among the first ones? -/
def usd (head : List Int) (h : Nat) : Nat → Bool
  | 0 => false
  | i + 1 => usd head h i || decide (head.getD i 0 = (h : Int))
theorem usd_app {head : List Int} {h : Nat} {x : Int} : ∀ {i : Nat}, i ≤ head.length → usd (head ++ [x]) h i = usd head h i
  | 0, _ => rfl
  | i + 1, hi => by
    simp only [usd]
    rw [usd_app (i := i) (by omega)]
    congr 1
    rw [show (head ++ [x]).getD i 0 = head.getD i 0 by simp [List.getD, List.getElem?_append_left (show i < head.length by omega)]]
theorem usd_last {head : List Int} {h : Nat} {x : Int} {k : Nat} (hk : head.length = k) : usd (head ++ [x]) h (k + 1) = (usd head h k || decide (x = (h : Int))) := by
  subst hk
  simp only [usd]
  rw [usd_app (Nat.le_refl _)]
  congr 2
  simp [List.getD]
/-- costFrom of the last j rows. -/
def CfAt (cost : List (List Int)) (n j : Nat) : Prop := ∀ (A : Option Addr) (c b off c' T : Nat) (head : List Int) (w : World), RdV w w.heap.size A cost → n ≤ c → c ≤ 9223372036854775807 → LieI w w.heap.size ⟨b, off, none⟩ head → head.length + j = n → head.length ≤ c' → c' ≤ 9223372036854775807 → T < 2 ^ n → bc 7 T = head.length → (∀ h, h < n → usd head h head.length = T.testBit h) →
  Calls Try.prog 66 #[.slice A n c, .slice (some ⟨b, off, none⟩) head.length c'] w fun e w' => e = .returned (.int .i64 (fwC (clC cost) n j T)) ∧ Below w.heap.size w w'
theorem cf_zero (cost : List (List Int)) (n : Nat) (hn : n ≤ 6) : CfAt cost n 0 := by
  intro A c b off c' T head w hr hc hc2 hh hl hl1 hl2 hT hb hu
  obtain ⟨k, Hk⟩ : ∃ k, Hid (head.length = k) := ⟨_, rfl⟩
  rw [Hk.out] at hl hl1 ⊢
  obtain rfl : k = n := by omega
  clear hr hh hb hu
  go_enter Try.func66, Try.ntmps66
  go_wp2
  go_ret
  exact ⟨rfl, Below.refl _ _⟩
set_option maxHeartbeats 3200000 in
theorem cf_step (cost : List (List Int)) (n j : Nat) (hv : vcost cost = true) (hn : cost.length = n) (hj : j + 1 ≤ n) (IH : CfAt cost n j) : CfAt cost n (j + 1) := by
  intro A c b off c' T head w hr hc hc2 hh hl hl1 hl2 hT hb hu
  obtain ⟨i0, hi0, hz0, hz1, hz2⟩ := info_parts intInfo
  obtain ⟨k, Hk⟩ : ∃ k, Hid (head.length = k) := ⟨_, rfl⟩
  rw [Hk.out] at hl hl1 hb hu ⊢
  obtain ⟨h6, -⟩ := (vcost_iff _).1 hv
  have hC := vcost_bd hv
  have hrow := fun i hi => vcost_len hv (i := i) hi
  rw [hn] at h6 hC hrow
  have hT128 : T < 128 := Nat.lt_of_lt_of_le hT (Nat.pow_le_pow_right (by omega) (by omega) : 2 ^ n ≤ 2 ^ 7)
  have HIH := Lib.hid IH
  have HT := Lib.hid hT
  have HC := Lib.hid hC
  have HU := Lib.hid hu
  have Hb := Lib.hid hb
  have HR := Lib.hid hr
  have Hh := Lib.hid hh
  have hbw0 := hh.1
  have hkn : k < n := by omega
  have hnk : n - (j + 1) = k := by omega
  obtain ⟨bw, ow, ar, ca, ls, rfl, hbw, Hl, hcl0, hca, hcm, hrl⟩ := hr.x (k := k) (by rw [hn]; exact hkn)
  have hlen : ls.length = n := by rw [← Hl.out]; exact hrow _ (by omega)
  rw [hlen] at hcl0 hca
  have Hlen := Lib.hid hlen
  have Hrl := Lib.hid hrl
  have Hcl0 := Lib.hid hcl0
  have HB0 := Lib.hid (Below.refl w.heap.size w)
  have hk1 : ¬ (k : Int) = (n : Int) := by omega
  clear IH hT hC hv hrow hr hlen hrl hcl0 hh hu hb
  go_enter Try.func66, Try.ntmps66
  go_wp2
  go_loopw [6, 7] (fun a h wr => ∃ i : Nat, ∃ u : Int, i ≤ n ∧ h = .int .i64 i ∧ a = .int .i64 u ∧ Hid (StC (mnC (fun h => clC cost k h + fwC (clC cost) n j (T + 2 ^ h)) (fun h => !T.testBit h) i) u) ∧ Hid (Below w.heap.size w wr)) (fun _ i _ => n - (intOf i).toNat)
  case atStart => exact ⟨0, -1, Nat.zero_le _, rfl, rfl, .inl ⟨rfl, rfl⟩, HB0⟩
  case round =>
    clear HB0
    obtain ⟨i, u, hi, rfl, rfl, Hu, HB⟩ := hrel
    by_cases hli : i < n
    · go_wp2
      go_loopw [8, 9] (fun a t wr' => ∃ t' : Nat, t' ≤ k ∧ t = .int .i64 t' ∧ a = .bool (usd head i t') ∧ wr' = wr) (fun _ t _ => k - (intOf t).toNat)
      case atStart => exact ⟨0, Nat.zero_le _, rfl, rfl, rfl⟩
      case round =>
        obtain ⟨t, ht, rfl, rfl, rfl⟩ := hrel
        by_cases hlt : t < k
        · obtain ⟨x, Hx, hcx0⟩ := Hh.out.at_ (i := t) (by rw [Hk.out]; exact hlt)
          have hcx : wr.cell? ⟨b, off + t, none⟩ = some (.int .i64 x) := (HB.out.cell hbw0).trans hcx0
          obtain ⟨v, Hv⟩ : ∃ v, Hid (usd head i t = v) := ⟨_, rfl⟩
          have HN : Hid (usd head i (t + 1) = (v || decide (x = (i : Int)))) := by show _ = _; simp only [usd]; rw [Hv.out, Hx.out]
          rw [Hv.out]
          clear hcx0
          cases v
          · go_wp2
            go_roundw
            case rel => exact ⟨t + 1, by omega, by go_num, by rw [HN.out]; first | rfl | simp | (simp; rfl), by trivial⟩
            case measure => simp [intOf]; omega
          · go_wp2
            go_roundw
            case rel => exact ⟨t + 1, by omega, by go_num, by rw [HN.out]; first | rfl | simp | (simp; rfl), by trivial⟩
            case measure => simp [intOf]; omega
        · obtain rfl : t = k := by omega
          have hU := HU.out i hli
          rw [hU]
          by_cases hbit : T.testBit i = true
          · have HN : Hid (StC (mnC (fun h => clC cost t h + fwC (clC cost) n j (T + 2 ^ h)) (fun h => !T.testBit h) (i + 1)) u) := by
              show StC _ _
              rw [mnC_no (f := fun h => clC cost t h + fwC (clC cost) n j (T + 2 ^ h)) (P := fun h => !T.testBit h) (by show (!_) = false; rw [hbit]; rfl) rfl]; exact Hu.out
            rw [hbit]
            clear hbit hU
            go_wp2
            go_roundw
            case rel => exact ⟨i + 1, u, by omega, by go_num, rfl, HN, HB⟩
            case measure => simp [intOf]; omega
          · have hbit2 : T.testBit i = false := by simpa using hbit
            rw [hbit2]
            obtain ⟨bx, ox, x, rfl, hbx, Hx, hcx0⟩ := Hrl.out.x (k := i) (by rw [Hlen.out]; exact hli)
            have hcx : wr.cell? ⟨bx, ox + i, none⟩ = some (.int .i64 x) := (HB.out.cell hbx).trans hcx0
            have hcl : wr.cell? ⟨bw, ow + t, none⟩ = some (.slice (some ⟨bx, ox, none⟩) n ca) := (HB.out.cell hbw).trans Hcl0.out
            have hws := HB.out.size
            have Hcx0 := Lib.hid hcx0
            clear hcx0 hbit hU
            have hIB : w.heap.size ≤ wr.heap.size := hws
            have HhW : Hid (∀ w', Below w.heap.size w w' → LieI w' w.heap.size ⟨b, off, none⟩ head) := fun w' hb => Hh.out.below hb
            have hmap : (head.map (Value.int .i64)).length = t * 1 := by rw [List.length_map, Hk.out]; omega
            have hone : ∀ u ∈ head.map (Value.int .i64), u.oneCell' = true := fun u hu => by obtain ⟨z, -, rfl⟩ := List.mem_map.1 hu; rfl
            have hbd1 : 0 + t ≤ maxLen := by unfold maxLen; omega
            have hbd2 : 0 + t + 1 ≤ maxLen := by unfold maxLen; omega
            have HBa := Lib.hid (HB.out.drew.alloc hIB (.cells #[] 3))
            have HBb := Lib.hid (HBa.out.alloc (by simp; omega) (.cells #[.int .i64 i] 3))
            have HBc := Lib.hid ((HB.out.drew.alloc hIB (.cells #[.int .i64 i] 3)).alloc (by simp; omega) (.cells #[] 3))
            have HOa := Lib.hid (World.ownsRow_lit (e := 3) (base := w.heap.size) (size := 1) wr.drew #[] 0 hIB (by decide) rfl)
            have HOb := Lib.hid (HOa.out.alloc (.cells #[.int .i64 i] 3))
            have HOc : Hid (((wr.drew.alloc (.cells #[.int .i64 i] 3)).alloc (.cells #[] 3)).ownsRow w.heap.size 3 1 (.slice (some ⟨wr.heap.size + 1, 0, none⟩) 0 0) 0 []) := by
              have h0 := World.ownsRow_lit (e := 3) (base := w.heap.size) (size := 1) (wr.drew.alloc (.cells #[.int .i64 i] 3)) #[] 0 (by simp; omega) (by decide) rfl
              rw [show (wr.drew.alloc (.cells #[.int .i64 i] 3)).heap.size = wr.heap.size + 1 from size_alloc1 _ _] at h0
              exact h0
            obtain ⟨P, HP⟩ : ∃ P : Nat, Hid (2 ^ i = P) := ⟨2 ^ i, rfl⟩
            obtain ⟨y, Hy⟩ : ∃ y, Hid (fwC (clC cost) n j (T + P) = y) := ⟨_, rfl⟩
            obtain ⟨f1, f2, f3⟩ := addC_all ⟨T, hT128⟩ ⟨i, by omega⟩ hbit2
            have hT2 := addC_lt ⟨n, by omega⟩ ⟨T, hT128⟩ ⟨i, by omega⟩ hli HT.out hbit2
            simp only at f1 f2 f3 hT2
            rw [HP.out] at f1 f2 f3 hT2
            have Hla : Hid ((head ++ [(i : Int)]).length = t + 1) := by show _ = _; rw [List.length_append, Hk.out]; rfl
            have Hrec : Hid (∀ g cap w', Below w.heap.size w w' → LieI w' w'.heap.size ⟨g, 0, none⟩ (head ++ [(i : Int)]) → t + 1 ≤ cap → cap ≤ 9223372036854775807 → Calls Try.prog 66 #[.slice (some ⟨bw, ow, none⟩) n c, .slice (some ⟨g, 0, none⟩) (t + 1) cap] w' fun e w'' => e = .returned (.int .i64 y) ∧ Hid (Below w.heap.size w w'')) := fun g cap w' hb hl0 h1 h2 => by
              have := HIH.out (some ⟨bw, ow, none⟩) c g 0 cap (T + P) (head ++ [(i : Int)]) w' ((HR.out.below hb).more hb.size) hc hc2 hl0 (by rw [Hla.out]; omega) (by rw [Hla.out]; omega) h2 hT2 (by rw [f2, Hb.out, Hla.out]) (fun h hh => by
                rw [Hla.out, usd_last Hk.out, HU.out h hh, f1 ⟨h, by omega⟩]
                congr 1
                exact decide_eq_decide.2 (by simp only; omega))
              rw [Hla.out, Hy.out] at this
              exact this.mono fun e w'' ⟨h1, h2⟩ => ⟨h1, hb.trans (h2.mono hb.size)⟩
            have HNb : Hid (∀ w', ((wr.drew.alloc (.cells #[] 3)).alloc (.cells #[.int .i64 i] 3)).grownBy w' (some wr.heap.size) → w'.heap[wr.heap.size + 1]? = some (.cells #[.int .i64 i] 3 (0, 0))) := fun w' hg => by
              have h1 := heap_alloc_new (wr.drew.alloc (.cells #[] 3)) (.cells #[.int .i64 i] 3)
              have h2 : (wr.drew.alloc (.cells #[] 3)).heap.size = wr.heap.size + 1 := by simp
              rw [h2] at h1
              rw [hg.block (wr.heap.size + 1) (by simp) (by simp)]
              exact h1
            have HNc : Hid (∀ w', ((wr.drew.alloc (.cells #[.int .i64 i] 3)).alloc (.cells #[] 3)).grownBy w' (some (wr.heap.size + 1)) → w'.heap[wr.heap.size]? = some (.cells #[.int .i64 i] 3 (0, 0))) := fun w' hg => by
              have h1 := heap_alloc_new wr.drew (.cells #[.int .i64 i] 3)
              rw [hg.block wr.heap.size (by simp; omega) (by simp)]
              exact (Below.heap_alloc _ _ _ (by rw [size_alloc1]; exact Nat.lt_succ_self _)).trans h1
            have hxC : clC cost t i = x := by unfold clC; rw [Hl.out]; exact Hx.out
            have hxb := HC.out t i (by omega) hli
            rw [hxC] at hxb
            have hyb := (fwC_bd HC.out h6 j (T + P) (by omega)).1
            obtain ⟨-, -, -, -, hyb2⟩ := fwC_mem h6 HC.out j (T + P) hT2 (by rw [f2, Hb.out]; omega)
            rw [Hy.out] at hyb hyb2
            have hfb : 0 ≤ x + y ∧ x + y ≤ 350 := by omega
            have hwx : IntKind.i64.wrap (x + y) = x + y := IntWalk.i64_in _ (by omega)
            obtain ⟨m, Hm⟩ : ∃ m, Hid (mnC (fun h => clC cost t h + fwC (clC cost) n j (T + 2 ^ h)) (fun h => !T.testBit h) i = m) := ⟨_, rfl⟩
            have HN := Lib.hid (mnC_yes (f := fun h => clC cost t h + fwC (clC cost) n j (T + 2 ^ h)) (P := fun h => !T.testBit h) (x := x + y) (by show (!_) = true; rw [hbit2]; rfl) Hm.out (by show _ + _ = _; rw [HP.out, Hy.out, hxC]))
            have Ha2 : Hid (StC m u) := by show StC _ _; rw [← Hm.out]; exact Hu.out
            clear f1 f2 f3 hT2 hxC hyb2
            go_wp2_with fail
            go_region_held3 (fun w' => w'.cell? ⟨bw, ow + t, none⟩ = some (.slice (some ⟨bx, ox, none⟩) n ca) ∧ w'.cell? ⟨bx, ox + i, none⟩ = some (.int .i64 x))
              (first
                | go_keep
                | exact ⟨(HB52.out.cell hbw).trans Hcl0.out, (HB52.out.cell hbx).trans Hcx0.out⟩
                | exact ⟨(HB51.out.cell hbw).trans Hcl0.out, (HB51.out.cell hbx).trans Hcx0.out⟩
                | exact ⟨(HB48.out.cell hbw).trans Hcl0.out, (HB48.out.cell hbx).trans Hcx0.out⟩)
              (first
                | (go_at_call 66
                   have hcap : t + 1 ≤ cap ∧ cap ≤ 9223372036854775807 := by
                     obtain ⟨A', c', e1, e2, e3, -⟩ := own_sliceN hown51
                     injection e1 with _ _ e4
                     subst e4
                     omega
                   have HL51 : LieI w51 w51.heap.size ⟨gg, 0, none⟩ (head ++ [(i : Int)]) := lieI_own (by rw [List.map_append]; exact hown51) hlt51
                   refine (Hrec.out _ _ _ HB51.out HL51 hcap.1 hcap.2).mono ?_
                   rintro e w52 ⟨rfl, HB52⟩)
                | (with_reducible refine at_slot (o := ⟨some 48, _, _, _, _, _⟩) ?_
                   refine step_append_any _ (by rfl) _ _ _ (by rfl) w.heap.size 3 i0 _ 1 8 Try.underlying23 hi0 hz0 hz1 hz2 rfl (by decide) (.slice (some ⟨wr.heap.size, 0, none⟩) 0 0) 0 _ (by rfl) (by exact HOa.out) ⟨b, off, none⟩ t c' _ (by rfl) hmap (by exact (HhW.out _ HBa.out).2) hone hbd1 (by omega) (by simp; omega) ?_
                   intro v48 w48 hown48 hgrow48
                   have HB48 := Lib.hid (HBa.out.grown hgrow48 (by simp; omega) (fun g h => (HOa.out.lt g h).1)))
                | (with_reducible refine at_slot (o := ⟨some 48, _, _, _, _, _⟩) ?_
                   refine step_append_any _ (by rfl) _ _ _ (by rfl) w.heap.size 3 i0 _ 1 8 Try.underlying23 hi0 hz0 hz1 hz2 rfl (by decide) (.slice (some ⟨wr.heap.size, 0, none⟩) 0 0) 0 _ (by rfl) (by exact HOb.out) ⟨b, off, none⟩ t c' _ (by rfl) hmap (by exact (HhW.out _ HBb.out).2) hone hbd1 (by omega) (by simp; omega) ?_
                   intro v48 w48 hown48 hgrow48
                   have HB48 := Lib.hid (HBb.out.grown hgrow48 (by simp; omega) (fun g h => (HOb.out.lt g h).1)))
                | (with_reducible refine at_slot (o := ⟨some 48, _, _, _, _, _⟩) ?_
                   refine step_append_any _ (by rfl) _ _ _ (by rfl) w.heap.size 3 i0 _ 1 8 Try.underlying23 hi0 hz0 hz1 hz2 rfl (by decide) (.slice (some ⟨wr.heap.size + 1, 0, none⟩) 0 0) 0 _ (by rfl) (by exact HOc.out) ⟨b, off, none⟩ t c' _ (by rfl) hmap (by exact (HhW.out _ HBc.out).2) hone hbd1 (by omega) (by simp; omega) ?_
                   intro v48 w48 hown48 hgrow48
                   have HB48 := Lib.hid (HBc.out.grown hgrow48 (by simp; omega) (fun g h => (HOc.out.lt g h).1)))
                | (with_reducible refine at_slot (o := ⟨some 51, _, _, _, _, _⟩) ?_
                   refine step_append_lies _ (by rfl) _ _ _ (by rfl) w.heap.size 3 i0 _ 1 8 Try.underlying23 hi0 hz0 hz1 hz2 rfl (by decide) v48 (0 + t) _ (by rfl) (by exact hown48.alloc _) ⟨w48.heap.size, 0, none⟩ 1 1 [.int .i64 i] (by rfl) (by rfl) (by exact World.news_of_block (cs := #[.int .i64 i]) (t := 3) (fr := (0, 0)) (heap_alloc_new w48 _)) (by simp [Value.oneCell']) (by omega) hbd2 (by omega) (by have := HB48.out.size; simp; omega) (w48.heap.size + 1) (by simp) ?_
                   intro gg cap w51 hown51 hgrow51 hat51 hlt51
                   have HB51 := Lib.hid ((HB48.out.alloc HB48.out.size _).grown hgrow51 (by have := HB48.out.size; simp; omega) (fun g h => (hown48.lt g h).1)))
                | (with_reducible refine at_slot (o := ⟨some 51, _, _, _, _, _⟩) ?_
                   refine step_append_lies _ (by rfl) _ _ _ (by rfl) w.heap.size 3 i0 _ 1 8 Try.underlying23 hi0 hz0 hz1 hz2 rfl (by decide) v48 (0 + t) _ (by rfl) (by exact hown48) ⟨wr.heap.size + 1, 0, none⟩ 1 1 [.int .i64 i] (by rfl) (by rfl) (by exact World.news_of_block (cs := #[.int .i64 i]) (t := 3) (fr := (0, 0)) (HNb.out _ hgrow48)) (by simp [Value.oneCell']) (by omega) hbd2 (by omega) HB48.out.size w48.heap.size rfl ?_
                   intro gg cap w51 hown51 hgrow51 hat51 hlt51
                   have HB51 := Lib.hid (HB48.out.grown hgrow51 HB48.out.size (fun g h => (hown48.lt g h).1)))
                | (with_reducible refine at_slot (o := ⟨some 51, _, _, _, _, _⟩) ?_
                   refine step_append_lies _ (by rfl) _ _ _ (by rfl) w.heap.size 3 i0 _ 1 8 Try.underlying23 hi0 hz0 hz1 hz2 rfl (by decide) v48 (0 + t) _ (by rfl) (by exact hown48) ⟨wr.heap.size, 0, none⟩ 1 1 [.int .i64 i] (by rfl) (by rfl) (by exact World.news_of_block (cs := #[.int .i64 i]) (t := 3) (fr := (0, 0)) (HNc.out _ hgrow48)) (by simp [Value.oneCell']) (by omega) hbd2 (by omega) HB48.out.size w48.heap.size rfl ?_
                   intro gg cap w51 hown51 hgrow51 hat51 hlt51
                   have HB51 := Lib.hid (HB48.out.grown hgrow51 HB48.out.size (fun g h => (hown48.lt g h).1))))
            all_goals
              clear HBa HBb HBc HOa HOb HOc HNb HNc Hrec
              by_cases hneg : u < 0
              · have ea : u = -1 := by have := Hu.out.low; omega
                have Hnew : Hid (StC (min m (x + y)) (x + y)) := (show StC m (-1) by rw [← ea]; exact Ha2.out).first hfb
                rw [← HN.out] at Hnew
                clear ea
                go_wp2
                go_roundw
                case rel => exact ⟨i + 1, x + y, by omega, by go_num, rfl, Hnew, HB52⟩
                case measure => simp [intOf]; omega
              · by_cases hless : x + y < u
                · have Hnew : Hid (StC (min m (x + y)) (x + y)) := Ha2.out.less (by omega) hfb hless
                  rw [← HN.out] at Hnew
                  go_wp2
                  go_roundw
                  case rel => exact ⟨i + 1, x + y, by omega, by go_num, rfl, Hnew, HB52⟩
                  case measure => simp [intOf]; omega
                · have Hnew : Hid (StC (min m (x + y)) u) := Ha2.out.more (by omega) hless
                  rw [← HN.out] at Hnew
                  go_wp2
                  go_roundw
                  case rel => exact ⟨i + 1, u, by omega, by go_num, rfl, Hnew, HB52⟩
                  case measure => simp [intOf]; omega
    · obtain rfl : i = n := by omega
      have HF : Hid (u = fwC (clC cost) i (j + 1) T) := by
        show _ = _
        obtain ⟨-, -, -, -, hmx⟩ := fwC_mem h6 HC.out (j + 1) T HT.out (by rw [Hb.out]; omega)
        have e : fwC (clC cost) i (j + 1) T = mnC (fun h => clC cost k h + fwC (clC cost) i j (T + 2 ^ h)) (fun h => !T.testBit h) i := by simp only [fwC]; rw [hnk]
        rw [e] at hmx ⊢
        exact Hu.out.end_ (by omega)
      go_wp2
      go_ret
      exact ⟨ret_int HF.out, HB.out⟩
theorem cf_all (cost : List (List Int)) (n : Nat) (hv : vcost cost = true) (hn : cost.length = n) : ∀ j, j ≤ n → CfAt cost n j
  | 0, _ => cf_zero cost n (by rw [← hn]; exact ((vcost_iff _).1 hv).1)
  | j + 1, h => cf_step cost n j hv hn h (cf_all cost n hv hn j (by omega))
set_option maxHeartbeats 800000 in
theorem sCostTried_ok : CNum 36 ctv := by
  intro A c n cost w h
  have H1 := Lib.hid (sValid_in A c n cost w _ h.rd h.len h.small)
  by_cases hv : vcost cost = true
  · by_cases h5 : 5 < n
    · have Hs : Hid (ctv cost = -1) := by show _ = _; unfold ctv; rw [if_neg (by rintro ⟨-, h'⟩; rw [h.len] at h'; omega)]
      rw [hv] at H1
      clear hv h
      go_enter Try.func36, Try.ntmps36
      go_wp2_with fail
      refine H1.out.mono ?_
      rintro e w1 ⟨rfl, q, rfl⟩
      go_wp2
      go_ret
      exact ⟨ret_int Hs.out.symm, below_drewN (Below.refl _ _) q⟩
    · have Hs : Hid (ctv cost = fwC (clC cost) n n 0) := by show _ = _; unfold ctv; rw [if_pos ⟨hv, by rw [h.len]; omega⟩, h.len]
      have Hcf := Lib.hid (cf_all cost n hv h.len n (Nat.le_refl _))
      rw [hv] at H1
      have HIn := Lib.hid h
      clear h hv
      go_enter Try.func36, Try.ntmps36
      go_wp2_with fail
      refine H1.out.mono ?_
      rintro e w1 ⟨rfl, q, rfl⟩
      have hbel0 := below_drewN (Below.refl w.heap.size w) q
      generalize w.drewN q = w0 at hbel0 ⊢
      have HB := Lib.hid (hbel0.alloc hbel0.size (.cells #[] 3))
      have HIn0 := Lib.hid (HIn.out.later HB.out)
      have Hcap := HIn.out.cap
      have HL : Hid (LieI (w0.alloc (.cells #[] 3)) (w0.alloc (.cells #[] 3)).heap.size ⟨w0.heap.size, 0, none⟩ []) := ⟨by rw [size_alloc1]; exact Nat.lt_succ_self _, fun j u hu => by simp at hu⟩
      have Hc : Hid (Calls Try.prog 66 #[.slice A n c, .slice (some ⟨w0.heap.size, 0, none⟩) 0 0] (w0.alloc (.cells #[] 3)) fun e w' => e = .returned (.int .i64 (fwC (clC cost) n n 0)) ∧ Below (w0.alloc (.cells #[] 3)).heap.size (w0.alloc (.cells #[] 3)) w') :=
        Hcf.out A c w0.heap.size 0 0 0 [] (w0.alloc (.cells #[] 3)) HIn0.out.rd Hcap.1 Hcap.2 HL.out (by simp) (by simp) (by omega) (Nat.two_pow_pos n) (by decide) (fun h hh => by simp [usd])
      clear hbel0 Hcf
      go_wp2_with fail
      refine Hc.out.mono ?_
      rintro e w2 ⟨rfl, hb2⟩
      go_wp2
      go_ret
      exact ⟨ret_int Hs.out.symm, HB.out.trans (hb2.mono HB.out.size)⟩
  · have hv' : vcost cost = false := by simpa using hv
    have Hs : Hid (ctv cost = -1) := by show _ = _; unfold ctv; rw [if_neg (by rintro ⟨h', -⟩; exact hv h')]
    rw [hv'] at H1
    clear hv hv' h
    go_enter Try.func36, Try.ntmps36
    go_wp2_with fail
    refine H1.out.mono ?_
    rintro e w1 ⟨rfl, q, rfl⟩
    go_wp2
    go_ret
    exact ⟨ret_int Hs.out.symm, below_drewN (Below.refl _ _) q⟩
end Go.Proofs.Ytakljcpneghgnaa
