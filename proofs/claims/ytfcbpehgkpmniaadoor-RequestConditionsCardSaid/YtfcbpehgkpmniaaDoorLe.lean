/- Walks of the statements on conditions. -/
import Derived.Test.YtfcbpehgkpmniaaDoorCi
import Derived.Test.YtfcbpehgkpmniaaDoorLb
import Derived.Test.YtfcbpehgkpmniaaDoorLc
namespace Go.Proofs.YtfcbpehgkpmniaaDoor
open Go.RowKit Go.Maps Go.WideMaps

set_option maxRecDepth 100000 in
set_option maxHeartbeats 2000000 in
/-- A condition read by both. -/
theorem lCondition (s : ByteArray) (hs : s.size ≤ 1000000) (w : World) :
    Calls Tryd.prog 15 #[.string s] w fun e w' => e = .returned (.bool true) ∧ Below w.heap.size w w' := by
  have HC := Lib.hid (fun w => cCond s hs w)
  have HN := Lib.hid (fun w => nCond s hs w)
  go_enter Tryd.func15, Tryd.ntmps15
  unfold CdOut cdVal at HC HN
  generalize (cdR s.data.toList).getD noCnd = R at *
  generalize cdEr s.data.toList = E at *
  generalize baO R.name = nm at *
  generalize baO R.left = lf at *
  generalize baO R.right = rt at *
  generalize baO R.rest = rs at *
  generalize R.not_ = nt at *
  generalize (R.kind.toNat : Int) = kd at *
  have hbb : ∀ b : Bool, (b == b) = true := fun b => by cases b <;> rfl
  have hN := hbb nt
  have hE : (E == E) = true := by simp
  have hK : (kd == kd) = true := by simp
  clear hbb
  go_wp2_with (first
    | (go_at_call 16
       refine (HC.out _).mono ?_
       rintro e w1 ⟨rfl, hb⟩
       have HB := Lib.hid hb
       have HX := Lib.hid (Blk.new w1 33 #[.bool nt, .int .u8 kd, .string nm, .string lf, .string rt, .string rs])
       have HB1 := Lib.hid (hb.alloc hb.size (.cells #[.bool nt, .int .u8 kd, .string nm, .string lf, .string rt, .string rs] 33))
       clear hb)
    | (go_at_call 25
       refine (HN.out _).mono ?_
       rintro e w2 ⟨rfl, hb2⟩
       have HB2 := Lib.hid (HB1.out.trans (hb2.mono HB1.out.size))
       have hx := (HX.out.below hb2 HX.out.lt).alloc (.cells #[.bool nt, .int .u8 kd, .string nm, .string lf, .string rt, .string rs] 54)
       have x0 := hx.cell 0
       have x1 := hx.cell 1
       have x2 := hx.cell 2
       have x3 := hx.cell 3
       have x4 := hx.cell 4
       have x5 := hx.cell 5
       simp only [List.getElem?_toArray, List.getElem?_cons_zero, List.getElem?_cons_succ] at x0 x1 x2 x3 x4 x5
       clear hb2 hx))
  go_ret
  exact ⟨rfl, HB2.out.alloc HB2.out.size _⟩
set_option maxRecDepth 100000 in
set_option maxHeartbeats 2000000 in
/-- RequestConditions: any text. -/
theorem lReqConditions (s : ByteArray) (v : Value) (l : List UInt8) (hs : s.size ≤ maxLen) (w : World) (h : BysAt (fun k => k < w.heap.size) w v l) :
    Calls Tryd.prog 5 #[.string s, v] w fun e w' => e = .returned (.bool true) ∧ Below w.heap.size w w' := by
  have HSa := Lib.hid (fun w => lSane w)
  have HBy := Lib.hid h
  obtain ⟨A, cap, rfl, a1, a2, _⟩ := id h
  clear h
  unfold maxLen at hs a2
  by_cases hz : (s.size : Int) > 2200 ∨ (l.length : Int) > 40
  · rcases hz with hz | hz
    · go_enter Tryd.func5, Tryd.ntmps5
      go_wp2_with (go_at_call 9; refine (HSa.out _).mono ?_; rintro e w1 ⟨rfl, hb⟩)
      go_ret
      exact ⟨rfl, hb⟩
    · by_cases hz2 : (s.size : Int) > 2200
      all_goals
        go_enter Tryd.func5, Tryd.ntmps5
        go_wp2_with (go_at_call 9; refine (HSa.out _).mono ?_; rintro e w1 ⟨rfl, hb⟩)
        go_ret
        exact ⟨rfl, hb⟩
  · rw [not_or] at hz
    obtain ⟨hz1, hz2⟩ := hz
    have HBi := Lib.hid (fun w' (h : BysAt (fun k => k < w.heap.size) w' (.slice A l.length cap) l) (hw : w.heap.size ≤ w'.heap.size) => lBits _ _ l w' h (fun k hk => Nat.lt_of_lt_of_le hk hw) (by omega))
    have HCd := Lib.hid (fun (s : ByteArray) (hs : s.size ≤ 1000000) w => lCondition s hs w)
    go_enter Tryd.func5, Tryd.ntmps5
    go_wp2_with (first
      | (go_at_call 14
         refine (HBi.out _ (bys_stay HBy.out (Kept.of_below HB1.out (fun i hi => hi))) HB1.out.size).mono ?_
         rintro e w2 ⟨⟨t, rfl, htz⟩, hb⟩
         have HB2 := Lib.hid (HB1.out.trans (hb.mono HB1.out.size))
         have HCt := Lib.hid (HCd.out t (by omega))
         clear hb HCd)
      | (go_at_call 15
         first
         | (refine (HCt.out _).mono ?_
            rintro e w3 ⟨rfl, hb⟩
            have HB3 := Lib.hid (HB2.out.trans (hb.mono HB2.out.size))
            clear hb)
         | (refine (HCd.out s (by omega) _).mono ?_
            rintro e w1 ⟨rfl, hb⟩
            have HB1 := Lib.hid hb
            clear hb))
      | (go_at_call 9
         refine (HSa.out _).mono ?_
         rintro e w4 ⟨rfl, hb⟩
         have HB4 := Lib.hid (HB3.out.trans (hb.mono HB3.out.size))
         clear hb))
    go_ret
    exact ⟨rfl, HB4.out⟩
end Go.Proofs.YtfcbpehgkpmniaaDoor
