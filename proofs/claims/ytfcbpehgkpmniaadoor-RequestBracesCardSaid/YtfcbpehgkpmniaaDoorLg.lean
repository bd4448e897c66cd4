/- Walks of the statement on braces. -/
import Derived.Test.YtfcbpehgkpmniaaDoorCj
import Derived.Test.YtfcbpehgkpmniaaDoorLb
import Derived.Test.YtfcbpehgkpmniaaDoorLc
namespace Go.Proofs.YtfcbpehgkpmniaaDoor
open Go.RowKit Go.Maps Go.WideMaps

/-- Braces counted by both. -/
theorem lBraces (s : ByteArray) (hs : s.size ≤ 1000000) (d : Int) (hd : -1000000 ≤ d ∧ d ≤ 1000000) (w : World) :
    Calls Tryd.prog 17 #[.string s, .int .i64 d] w fun e w' => e = .returned (.bool true) ∧ w = w' := by
  have HC := Lib.hid (fun w => cBraces s hs d hd w)
  have HN := Lib.hid (fun w => nBraces s hs d hd w)
  generalize (brL d.toNat 0 s.data.toList).1 = a at *
  generalize (brL d.toNat 0 s.data.toList).2 = b at *
  have ha : (a == a) = true := by simp
  have hb : (b == b) = true := by simp
  go_enter Tryd.func17, Tryd.ntmps17
  go_wp2_with (first
    | (go_at_call 32; refine (HC.out _).mono ?_; rintro e w1 ⟨rfl, rfl⟩)
    | (go_at_call 33; refine (HN.out _).mono ?_; rintro e w1 ⟨rfl, rfl⟩))
  go_ret
  exact ⟨rfl, rfl⟩
set_option maxRecDepth 100000 in
set_option maxHeartbeats 2000000 in
/-- RequestBraces: any text, row of bytes, depth. -/
theorem lReqBraces (s : ByteArray) (v : Value) (l : List UInt8) (d : Int) (hs : s.size ≤ maxLen) (w : World) (h : BysAt (fun k => k < w.heap.size) w v l) :
    Calls Tryd.prog 7 #[.string s, v, .int .i64 d] w fun e w' => e = .returned (.bool true) ∧ Below w.heap.size w w' := by
  have HSa := Lib.hid (fun w => lSane w)
  have HBy := Lib.hid h
  obtain ⟨A, cap, rfl, a1, a2, _⟩ := id h
  clear h
  unfold maxLen at hs a2
  by_cases hz : (s.size : Int) ≤ 2200 ∧ (l.length : Int) ≤ 60 ∧ d ≤ 1000000 ∧ -1000000 ≤ d
  · obtain ⟨hz1, hz2, hz3, hz4⟩ := hz
    have HBi := Lib.hid (fun w' (h : BysAt (fun k => k < w.heap.size) w' (.slice A l.length cap) l) (hw : w.heap.size ≤ w'.heap.size) => lBits _ _ l w' h (fun k hk => Nat.lt_of_lt_of_le hk hw) (by omega))
    have HBr := Lib.hid (fun (s : ByteArray) (hs : s.size ≤ 1000000) (d : Int) hd w => lBraces s hs d hd w)
    have HWW := Lib.hid (Below.refl w.heap.size w)
    go_enter Tryd.func7, Tryd.ntmps7
    go_wp2_with (first
      | (go_at_call 17
         refine (HBr.out _ (by omega) _ (by omega) _).mono ?_
         rintro e w1 ⟨rfl, rfl⟩)
      | (go_at_call 14
         refine (HBi.out _ (bys_stay HBy.out (Kept.of_below HWW.out (fun i hi => hi))) HWW.out.size).mono ?_
         rintro e w2 ⟨⟨t, rfl, htz⟩, hb⟩
         have HWX := Lib.hid (HWW.out.trans (hb.mono HWW.out.size))
         clear hb HWW
         have HWW := Lib.hid HWX.out
         clear HWX)
      | (go_at_call 9
         refine (HSa.out _).mono ?_
         rintro e w4 ⟨rfl, hb⟩
         have HB4 := Lib.hid (HWW.out.trans (hb.mono HWW.out.size))
         clear hb))
    go_ret
    exact ⟨rfl, HB4.out⟩
  · have hc : (s.size : Int) > 2200 ∨ ((s.size : Int) ≤ 2200 ∧ (l.length : Int) > 60) ∨ ((s.size : Int) ≤ 2200 ∧ (l.length : Int) ≤ 60 ∧ d > 1000000) ∨ ((s.size : Int) ≤ 2200 ∧ (l.length : Int) ≤ 60 ∧ d ≤ 1000000 ∧ d < -1000000) := by omega
    clear hz
    rcases hc with h1 | ⟨h1, h2⟩ | ⟨h1, h2, h3⟩ | ⟨h1, h2, h3, h4⟩
    all_goals
      go_enter Tryd.func7, Tryd.ntmps7
      go_wp2_with (go_at_call 9; refine (HSa.out _).mono ?_; rintro e w1 ⟨rfl, hb⟩)
      go_ret
      exact ⟨rfl, hb⟩
end Go.Proofs.YtfcbpehgkpmniaaDoor
