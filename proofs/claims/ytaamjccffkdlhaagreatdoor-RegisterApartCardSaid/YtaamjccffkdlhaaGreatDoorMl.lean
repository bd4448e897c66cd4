/- Walks: both books are asked (asked). -/
import Derived.Test.YtaamjccffkdlhaaGreatDoorMk
import Derived.Test.YtaamjccffkdlhaaGreatDoorMj
import Derived.Test.YtaamjccffkdlhaaGreatDoorKn
namespace Go.Proofs.YtaamjccffkdlhaaGreatDoor
open Go.RowKit Go.Maps Go.WideMaps Go.Joins

/-- Both books, with the same registers, behind what was there. -/
structure Both (w0 w : World) (g bm x : Nat) (v : Value) (L : List Ent) : Prop where
  below : Below w0.heap.size w0 w
  bk : BkAt w g bm L
  rf : RfAt w0.heap.size w x v L
  hg : w0.heap.size ≤ g
  hm : w0.heap.size ≤ bm
  hx : w0.heap.size ≤ x
theorem Both.at_ {w0 w w' : World} {g bm x : Nat} {v : Value} {L : List Ent} (h : Both w0 w g bm x v L) (hb : Below w.heap.size w w') : Both w0 w' g bm x v L :=
  ⟨h.below.trans (hb.mono h.below.size), h.bk.below hb, h.rf.below hb, h.hg, h.hm, h.hx⟩
set_option maxRecDepth 100000 in
set_option maxHeartbeats 1000000 in
/-- asked. -/
theorem lAsked (s : ByteArray) (hs : s.size ≤ maxLen) (w0 : World) (hN0 : NumAt w0) (hP0 : PowAt w0) (g bm x : Nat) (v : Value) (L : List Ent) (w : World) (h : Both w0 w g bm x v L) :
    Calls Tryz.prog 32 #[.pointer (some ⟨g, 0, none⟩), .pointer (some ⟨x, 0, none⟩), .string s] w fun e w' => e = .returned (.bool true) ∧ Below w.heap.size w w' := by
  have hN : NumAt w := hN0.below h.below
  have hP : PowAt w := hP0.below h.below
  have hl := h.bk.len
  have H1 := Lib.hid (fun w1 (hb : Below w.heap.size w w1) => cValue s hs g bm L w1 (h.at_ hb).bk)
  have H2 := Lib.hid (fun w1 (hb : Below w.heap.size w w1) => nValue s hs w0.heap.size x v L hl w1 (h.at_ hb).rf)
  have H3 := Lib.hid (fun w1 (hb : Below w.heap.size w w1) => cText s hs g bm L w1 (h.at_ hb).bk (hN.below hb) (hP.below hb))
  have H4 := Lib.hid (fun w1 (hb : Below w.heap.size w w1) => nText s hs w0.heap.size x v L hl h.bk.good w1 (h.at_ hb).rf)
  have H5 := Lib.hid (fun w1 (hb : Below w.heap.size w w1) => cHas s hs g bm L w1 (h.at_ hb).bk)
  have H6 := Lib.hid (fun w1 (hb : Below w.heap.size w w1) => nHas s w0.heap.size x v L hl w1 (h.at_ hb).rf)
  have H7 := Lib.hid (fun w1 (hb : Below w.heap.size w w1) => cFormatOf s hs g bm L w1 (h.at_ hb).bk)
  have H8 := Lib.hid (fun w1 (hb : Below w.heap.size w w1) => nFormatOf s hs w0.heap.size x v L hl w1 (h.at_ hb).rf)
  clear h hN hP hN0 hP0
  generalize rdR L s = R at H1 H2 H7 H8
  generalize erI (nameB s) 6 = k at H1 H2 H7 H8
  generalize txS L s = A at H3 H4
  generalize txE L s = B at H3 H4
  generalize hasB L s = C at H5 H6
  have hq1 : (R.f.toList == R.f.toList) = true := beq_self_eq_true _
  have hq2 : (A.toList == A.toList) = true := beq_self_eq_true _
  go_enter Tryz.func32, Tryz.ntmps32
  go_wp2_with (first
    | (go_at_call 13; refine (H1.out _ (Below.refl _ _)).mono ?_; rintro e w1 ⟨rfl, hb1⟩)
    | (go_at_call 55; refine (H2.out _ hb1).mono ?_; rintro e w2 ⟨rfl, hb2⟩; have hc2 := Lib.hid (ntrans hb1 hb2))
    | (go_at_call 14; refine (H3.out _ hc2.out).mono ?_; rintro e w3 ⟨rfl, hb3⟩; have hc3 := Lib.hid (ntrans hc2.out hb3))
    | (go_at_call 56; refine (H4.out _ hc3.out).mono ?_; rintro e w4 ⟨rfl, hb4⟩; have hc4 := Lib.hid (ntrans hc3.out hb4))
    | (go_at_call 22; refine (H5.out _ hc4.out).mono ?_; rintro e w5 ⟨rfl, hb5⟩; have hc5 := Lib.hid (ntrans hc4.out hb5))
    | (go_at_call 53; refine (H6.out _ hc5.out).mono ?_; rintro e w6 ⟨rfl, hb6⟩; have hc6 := Lib.hid (ntrans hc5.out hb6))
    | (go_at_call 15; refine (H7.out _ hc6.out).mono ?_; rintro e w7 ⟨rfl, hb7⟩; have hc7 := Lib.hid (ntrans hc6.out hb7))
    | (go_at_call 57; refine (H8.out _ hc7.out).mono ?_; rintro e w8 ⟨rfl, hb8⟩; have hc8 := Lib.hid (ntrans hc7.out hb8)))
  go_ret
  exact ⟨rfl, hc8.out⟩
end Go.Proofs.YtaamjccffkdlhaaGreatDoor
