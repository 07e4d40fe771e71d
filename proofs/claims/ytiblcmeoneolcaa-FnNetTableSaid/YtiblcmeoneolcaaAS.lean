/-
  The program's shorten at a table's entry, and addStreet: all rows made shorter by one street.
  Conditions: as each theorem states.
-/
import Derived.Test.YtiblcmeoneolcaaNW
import Derived.Test.YtiblcmeoneolcaaB6
import Derived.Test.YtiblcmeoneolcaaB1
namespace Go.Proofs.Ytiblcmeoneolcaa
open Go.ChangeShapes Go.WideShapes Go.ChangeAt Go.RowKit
set_option linter.unusedVariables false
set_option maxRecDepth 4000

theorem jn_no {x L : Int} (h : x = -1) : jn x L = -1 := if_pos (.inl h)
theorem jn_yes {x L : Int} (h : 0 ≤ x) (hL : 0 ≤ L) : jn x L = x + L := if_neg (by omega)
theorem sh_cz {X : Nat → Nat → Int} {a u v : Nat} {L : Int} (hu : -1 ≤ X a u) (hv : -1 ≤ X a v) (hL : 1 ≤ L) (h : ¬ ShW (jn (X a u) L) (X a v)) : Cz X a u v L := by
  intro h0
  rw [jn_yes h0 (by omega)] at h
  unfold ShW at h
  omega
theorem sh_up {X : Nat → Nat → Int} {a u v : Nat} {L : Int} (hu : -1 ≤ X a u) (hv : -1 ≤ X a v) (hL : 1 ≤ L) (h : ShW (jn (X a u) L) (X a v)) : 0 ≤ X a u ∧ (X a v < 0 ∨ X a u + L < X a v) ∧ jn (X a u) L = X a u + L := by
  by_cases e : X a u = -1
  · rw [jn_no e] at h; exact absurd rfl h.1
  · rw [jn_yes (by omega) (by omega)] at h ⊢
    unfold ShW at h
    omega
/-- Nothing but ints change. -/
def KeepI (w w' : World) : Prop := ∀ (b : Nat) (cs : Array Value) (ty : TypeId) (z : Nat × Nat), ty ≠ 3 → w.heap[b]? = some (.cells cs ty z) → w'.heap[b]? = some (.cells cs ty z)
theorem KeepI.refl (w : World) : KeepI w w := fun _ _ _ _ _ h => h
theorem KeepI.trans {w w1 w2 : World} (h : KeepI w w1) (k : KeepI w1 w2) : KeepI w w2 := fun b cs ty z hne he => k b cs ty z hne (h b cs ty z hne he)
theorem KeepI.drewN {w w1 : World} (h : KeepI w w1) (n : Nat) : KeepI w (w1.drewN n) := h
theorem KeepI.set {w w1 : World} {g b : Nat} {cs : Array Value} {z : Nat × Nat} (h : KeepI w w1) (hg : w1.heap[g]? = some (.cells cs 3 z)) (u : Value) : KeepI w (w1.setCell ⟨g, b, none⟩ u) := fun i cs' ty z' hne he => by
  have h1 := h i cs' ty z' hne he
  have hgi : g ≠ i := types_apart hg h1 (fun e => hne e.symm)
  exact (Below.heap_setCell w1 _ _ i (fun e => hgi e.symm)).trans h1
theorem KeepI.alloc {w w1 : World} (h : KeepI w w1) (o : Obj) : KeepI w (w1.alloc o) := fun i cs' ty z' hne he => by
  have h1 := h i cs' ty z' hne he
  have hlt : i < w1.heap.size := by
    rcases Nat.lt_or_ge i w1.heap.size with h2 | h2
    · exact h2
    · rw [Array.getElem?_eq_none h2] at h1; cases h1
  exact (heap_alloc_old w1 _ hlt).trans h1
/-- What a step at a table's entries leaves: the table, shorter or as it was. -/
def StepT (w : World) (B n g c : Nat) (VR : Nat → Value) (ss : List Str) (X : Nat → Nat → Int) (C : Prop) (e : Ending) (w' : World) : Prop :=
  ∃ X' t, e = .returned (.bool t) ∧ Rlx ss n X' ∧ Chg X X' n t C ∧ Outer w' B n (.slice (some ⟨g, 0, none⟩) n c) VR ∧ TT w' B n VR (rowX X' n) ∧ Below B w w' ∧ KeepI w w'
theorem shortenT_any (w : World) (B n g c a u v gr cr : Nat) (VR : Nat → Value) (ss : List Str) (X : Nat → Nat → Int) (L : Int) (hn7 : n ≤ 7) (hX : Rlx ss n X) (hO : Outer w B n (.slice (some ⟨g, 0, none⟩) n c) VR) (hT : TT w B n VR (rowX X n))
    (hv : VR a = .slice (some ⟨gr, 0, none⟩) n cr) (ha : a < n) (hu : u < n) (hvn : v < n) (hL : 1 ≤ L ∧ L ≤ 9) (he : SE ss u v L) :
    Calls Try.prog 61 #[.slice (some ⟨gr, 0, none⟩) n cr, .int .i64 v, .int .i64 (jn (X a u) L)] w (StepT w B n g c VR ss X (Cz X a u v L)) := by
  have hb1 := hX.le hn7 ha hu
  have hb2 := hX.le hn7 ha hvn
  obtain ⟨gr', cr', e1, -, cc, ff⟩ := tab_cells hO hT ha hvn
  have e2 := hv.symm.trans e1
  injection e2 with e3 e4 e5
  injection e3 with e3
  injection e3 with e3
  subst e3 e5
  by_cases h : ShW (jn (X a u) L) (X a v)
  · obtain ⟨h1, h2, h3⟩ := sh_up (by omega) (by omega) hL.1 h
    refine (shorten_yes gr n cr v _ _ w hvn cc ff h).mono ?_
    rintro e w' ⟨rfl, k, rfl⟩
    rw [h3]
    obtain ⟨o2, t2, hgB⟩ := tab_set (X a u + L) hO hT ha hvn hv
    refine ⟨_, true, rfl, rlx_step hX ha hu hvn he hL h1 h2, .inl ⟨rfl, totX_step ha hvn (by omega) (by omega)⟩, o2.drewN k, t2.drewN k, below_drewN ((Below.refl B w).setCell (p := ⟨gr, v, none⟩) hgB _) k, ?_⟩
    have h5 := hT.own a ha
    rw [hv, rowX_len] at h5
    obtain ⟨⟨cs, hcs⟩, -, -⟩ := own_heap h5 (g := gr) rfl
    exact ((KeepI.refl w).set hcs _).drewN k
  · refine (shorten_no gr n cr v _ _ w hvn cc h).mono ?_
    rintro e w' ⟨rfl, k, rfl⟩
    exact ⟨X, false, rfl, hX, .inr ⟨rfl, rfl, sh_cz (by omega) (by omega) hL.1 h⟩, hO.drewN k, hT.drewN k, below_drewN (Below.refl B w) k, (KeepI.refl w).drewN k⟩
theorem Chg.two {X0 X Y : Nat → Nat → Int} {n : Nat} {b t : Bool} {C D E : Prop} (h : Chg X0 X n b C) (k : Chg X Y n t D) (hE : X0 = X → X = Y → C → D → E) : Chg X0 Y n (b || t) E := by
  rcases h with ⟨rfl, h1⟩ | ⟨rfl, h1, h2⟩ <;> rcases k with ⟨rfl, k1⟩ | ⟨rfl, k1, k2⟩
  · exact .inl ⟨rfl, by omega⟩
  · subst k1; exact .inl ⟨rfl, h1⟩
  · subst h1; exact .inl ⟨rfl, k1⟩
  · exact .inr ⟨rfl, k1.trans h1, hE h1.symm k1.symm h2 k2⟩
end Go.Proofs.Ytiblcmeoneolcaa
