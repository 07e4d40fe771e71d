/-
  The drawn arguments of the laws on helpers with room; the law FnValidRoom.
  Conditions: none beyond what each theorem states.
-/
import Derived.Test.YtakljcpneghgnaaGM
import Derived.Test.YtakljcpneghgnaaRV
namespace Go.Proofs.Ytakljcpneghgnaa
open Go.ChangeShapes Go.WideShapes Go.ChangeAt Go.RowKit
set_option linter.unusedVariables false
set_option maxRecDepth 4000

def DrawnRoom (w : World) (e : Ending) (w' : World) : Prop :=
  ∃ A A' c c' H n, ∃ room : List Int, ∃ wish : List (List Int), e = .returned (.tuple #[.slice A H c, .slice A' n c']) ∧ H ≤ 5 ∧ n ≤ 8 ∧ Hid (RoomIn w' A A' c c' H n room wish) ∧ Hid (Below w.heap.size w w')
/-- Without the last calls. -/
theorem RoomIn.take {w : World} {A A' : Option Addr} {c c' H n : Nat} {room : List Int} {wish : List (List Int)} (h : RoomIn w A A' c c' H n room wish) {k : Nat} (hk : k ≤ n) : RoomIn w A A' c c' H k room (wish.take k) :=
  ⟨h.rd, h.len, h.cap, h.most, h.rdw.take k, by rw [List.length_take, h.lenw]; omega, ⟨by have := h.capw; omega, h.capw.2⟩, by
    refine ⟨by rw [List.length_take]; have := h.small.1; omega, fun i hi => ?_⟩
    rw [List.length_take] at hi
    have hg : (wish.take k).getD i [] = wish.getD i [] := by
      simp only [List.getD, List.getElem?_take]
      rw [if_pos (by omega)]
    rw [hg]
    exact h.small.2 i (by omega)⟩

theorem drawValidRoom_any (A : Option Addr) (c n : Nat) (bs : List Int) (w : World) (hr : RdB w w.heap.size A bs) (hn : bs.length = n) (hc : n ≤ c) (hm : c ≤ 9223372036854775807) :
    Calls Try.prog 17 #[.slice A n c] w (DrawnRoom w) := by
  have H := Lib.hid (newReader_any A c n bs w hr hn hc hm)
  clear hn
  go_enter Try.func17, Try.ntmps17
  go_wp2_with fail
  refine H.out.mono ?_
  rintro e w1 ⟨rfl, hg1, hnx1⟩
  have hlt := hg1.lt
  go_wp2_with fail
  refine (someRoom_any w.heap.size w.heap.size 0 w1 hg1 (by omega)).mono ?_
  rintro e w2 ⟨A1, A2, c1, c2, h, m, room, wish, rfl, h5, h8, hin, hb⟩
  have Hb : Hid (Below w.heap.size w w2) := hnx1.trans (gb_below hb.out (Nat.le_refl _) (Nat.le_of_lt hlt))
  clear hb
  go_wp2
  go_ret2
  exact ⟨A1, A2, c1, c2, h, m, room, wish, rfl, h5, h8, hin, Hb⟩

theorem drawMostTaken_any (A : Option Addr) (c n : Nat) (bs : List Int) (w : World) (hr : RdB w w.heap.size A bs) (hn : bs.length = n) (hc : n ≤ c) (hm : c ≤ 9223372036854775807) :
    Calls Try.prog 20 #[.slice A n c] w (DrawnRoom w) := by
  have H := Lib.hid (newReader_any A c n bs w hr hn hc hm)
  clear hn
  go_enter Try.func20, Try.ntmps20
  go_wp2_with fail
  refine H.out.mono ?_
  rintro e w1 ⟨rfl, hg1, hnx1⟩
  have hlt := hg1.lt
  go_wp2_with fail
  refine (someRoom_any w.heap.size w.heap.size 0 w1 hg1 (by omega)).mono ?_
  rintro e w2 ⟨A1, A2, c1, c2, h, m, room, wish, rfl, h5, h8, hin, hb⟩
  have Hb : Hid (Below w.heap.size w w2) := hnx1.trans (gb_below hb.out (Nat.le_refl _) (Nat.le_of_lt hlt))
  clear hb
  go_wp2
  go_ret2
  exact ⟨A1, A2, c1, c2, h, m, room, wish, rfl, h5, h8, hin, Hb⟩

theorem drawLeastBlock_any (A : Option Addr) (c n : Nat) (bs : List Int) (w : World) (hr : RdB w w.heap.size A bs) (hn : bs.length = n) (hc : n ≤ c) (hm : c ≤ 9223372036854775807) :
    Calls Try.prog 24 #[.slice A n c] w (DrawnRoom w) := by
  have H := Lib.hid (newReader_any A c n bs w hr hn hc hm)
  clear hn
  go_enter Try.func24, Try.ntmps24
  go_wp2_with fail
  refine H.out.mono ?_
  rintro e w1 ⟨rfl, hg1, hnx1⟩
  have hlt := hg1.lt
  go_wp2_with fail
  refine (someRoom_any w.heap.size w.heap.size 0 w1 hg1 (by omega)).mono ?_
  rintro e w2 ⟨A1, A2, c1, c2, h, m, room, wish, rfl, h5, h8, hin, hb⟩
  have Hb : Hid (Below w.heap.size w w2) := hnx1.trans (gb_below hb.out (Nat.le_refl _) (Nat.le_of_lt hlt))
  clear hb
  go_wp2
  go_ret2
  exact ⟨A1, A2, c1, c2, h, m, room, wish, rfl, h5, h8, hin, Hb⟩

set_option maxHeartbeats 1600000 in
theorem lawValidRoom_walk (A : Option Addr) (c : Nat) (bs : List Int) (w : World) (hr : RdB w w.heap.size A bs) (hcap : bs.length ≤ c) (hm : c ≤ maxLen) :
    Calls Try.prog 3 #[.slice A bs.length c] w fun e w' => e = .returned (.bool true) ∧ Below w.heap.size w w' := by
  unfold maxLen at hm
  by_cases hb : 1048576 < bs.length
  · go_enter Try.func3, Try.ntmps3
    go_wp2
    go_ret
    exact ⟨rfl, Below.refl _ _⟩
  · have HD := Lib.hid (drawValidRoom_any A c bs.length bs w hr rfl hcap hm)
    have HVI := Lib.hid iValidRoom_ok
    have HVS := Lib.hid sValidRoom_ok
    go_enter Try.func3, Try.ntmps3
    go_wp2_with fail
    refine HD.out.mono ?_
    rintro e w1 ⟨A1, A2, c1, c2, h, m, room, wish, rfl, h5, h8, N1, HB1⟩
    clear HD hr
    have hcw := N1.out.capw
    have hbn : ∀ x : Bool, (x != x) = false := fun x => by simp
    have hbe : ∀ x : Bool, (x == x) = true := fun x => by simp
    obtain ⟨a, Ha⟩ : ∃ a, Hid (vroom room wish = a) := ⟨_, rfl⟩
    go_wp2_with fail
    refine (HVI.out _ _ _ _ _ _ room wish w1 N1.out).mono ?_
    rintro e w2 ⟨rfl, hq⟩
    rw [Ha.out]
    have N2 := Lib.hid (N1.out.later hq)
    have HB2 := Lib.hid (HB1.out.trans (hq.mono HB1.out.size))
    clear hq
    go_wp2_with fail
    refine (HVS.out _ _ _ _ _ _ room wish w2 N2.out).mono ?_
    rintro e w3 ⟨rfl, hq⟩
    rw [Ha.out]
    have N3 := Lib.hid (N2.out.later hq)
    have HB3 := Lib.hid (HB2.out.trans (hq.mono HB2.out.size))
    clear hq
    cases a with
    | false =>
      go_wp2_with fail
      refine (HVS.out _ _ _ _ _ _ room wish w3 N3.out).mono ?_
      rintro e w4 ⟨rfl, hq⟩
      rw [Ha.out]
      have HB4 := Lib.hid (HB3.out.trans (hq.mono HB3.out.size))
      clear hq
      go_wp2
      go_ret
      exact ⟨rfl, HB4.out⟩
    | true =>
      by_cases h0 : m = 0
      · subst h0
        go_wp2
        go_ret
        exact ⟨rfl, HB3.out⟩
      · have hmb : ((m : Int) == 0) = false := by rw [beq_eq_false_iff_ne]; omega
        have hwm : IntKind.i64.wrap ((m : Int) - 1) = ((m - 1 : Nat) : Int) := by rw [IntWalk.i64_in _ (by omega)]; omega
        have Nt := Lib.hid (N3.out.take (show m - 1 ≤ m by omega))
        have Ht := Lib.hid (vroom_take Ha.out (m - 1))
        have hm1 : 1 ≤ m := by omega
        have hle : m - 1 ≤ c2 := by omega
        clear h0
        go_wp2_with fail
        refine (HVI.out _ _ _ _ _ _ room (wish.take (m - 1)) w3 Nt.out).mono ?_
        rintro e w4 ⟨rfl, hq⟩
        rw [Ht.out]
        have HB4 := Lib.hid (HB3.out.trans (hq.mono HB3.out.size))
        clear hq
        go_wp2
        go_ret
        exact ⟨rfl, HB4.out⟩
end Go.Proofs.Ytakljcpneghgnaa
