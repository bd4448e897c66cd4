/- Walk of the statement on lines that are made of pieces. -/
import Derived.Test.YtfcbpehgkpmniaaDoorLb
import Derived.Test.YtfcbpehgkpmniaaDoorLc
namespace Go.Proofs.YtfcbpehgkpmniaaDoor
open Go.RowKit Go.Maps Go.WideMaps

theorem byte_of {n : Int} (h : 0 ≤ n ∧ n < 256) : ∃ c : UInt8, n = (c.toNat : Int) := by
  refine ⟨UInt8.ofNat n.toNat, ?_⟩
  rw [UInt8.toNat_ofNat_of_lt' (by show n.toNat < 256; omega)]
  omega
theorem lSplitsI (s : ByteArray) (a b : Int) (ha : 0 ≤ a ∧ a < 256) (hb : 0 ≤ b ∧ b < 256) (hs : s.size ≤ 1000000) (w : World) :
    Calls Tryd.prog 10 #[.string s, .int .u8 a, .int .u8 b] w fun e w' => e = .returned (.bool true) ∧ Below w.heap.size w w' := by
  obtain ⟨c, rfl⟩ := byte_of ha
  obtain ⟨d, rfl⟩ := byte_of hb
  exact lSplits s c d hs w
theorem pre_size (a t : ByteArray) (h : a.size = 1) (ht : t.size ≤ 300) : (a ++ t).size ≤ 1000000 := by rw [ByteArray.size_append]; omega
set_option maxRecDepth 100000 in
set_option maxHeartbeats 2000000 in
/-- RequestWords: any row of bytes. -/
theorem lReqWords (v : Value) (l : List UInt8) (w : World) (h : BysAt (fun k => k < w.heap.size) w v l) :
    Calls Tryd.prog 4 #[v] w fun e w' => e = .returned (.bool true) ∧ Below w.heap.size w w' := by
  have HSa := Lib.hid (fun w => lSane w)
  have HBy := Lib.hid h
  obtain ⟨A, cap, rfl, a1, a2, _⟩ := id h
  clear h
  unfold maxLen at a2
  by_cases hz : (l.length : Int) > 60
  · go_enter Tryd.func4, Tryd.ntmps4
    go_wp2_with (go_at_call 9; refine (HSa.out _).mono ?_; rintro e w1 ⟨rfl, hb⟩)
    go_ret
    exact ⟨rfl, hb⟩
  · have HBi := Lib.hid (lBits _ _ l w HBy.out (fun k hk => hk) (by omega))
    have HW := Lib.hid (fun (s : ByteArray) (hs : s.size ≤ 1000000) w => cWords s hs w)
    have HN := Lib.hid (fun (s : ByteArray) (hs : s.size ≤ 1000000) w => nWords s hs w)
    have HSp := Lib.hid (fun (s : ByteArray) (a b : Int) ha hb (hs : s.size ≤ 1000000) w => lSplitsI s a b ha hb hs w)
    go_enter Tryd.func4, Tryd.ntmps4
    go_upto_region 4 with (go_at_call 14
                           refine HBi.out.mono ?_
                           rintro e w1 ⟨⟨t, rfl, htz⟩, hb⟩
                           have HB1 := Lib.hid hb
                           clear hb)
    have HL := Lib.hid (fun K K2 v v2 w h h2 => lList K K2 v v2 (wdsT t) w h h2)
    go_wp2_with (first
      | (go_at_call 12
         refine (HW.out t (by omega) _).mono ?_
         rintro e w3 ⟨v3, rfl, hv3, hb⟩
         obtain ⟨A3, c3, rfl, _⟩ := id hv3
         have HV3 := Lib.hid hv3
         have HB3 := Lib.hid (HB1.out.trans (hb.mono HB1.out.size))
         clear hv3 hb)
      | (go_at_call 13
         refine (HN.out t (by omega) _).mono ?_
         rintro e w4 ⟨v4, rfl, hv4, hb⟩
         obtain ⟨A4, c4, rfl, _⟩ := id hv4
         have HV4 := Lib.hid hv4
         have HV5 := Lib.hid (HV3.out.stay (K' := fun k => k < w4.heap.size) (Kept.of_below hb (fun i hi => hi.2)) (fun i hi => Nat.lt_of_lt_of_le hi.2 hb.size))
         have HB4 := Lib.hid (HB3.out.trans (hb.mono HB3.out.size))
         clear hv4 hb)
      | (go_at_call 11
         refine (HL.out _ _ _ _ _ HV5.out HV4.out).mono ?_
         rintro e w5 ⟨rfl, hb⟩
         have HB5 := Lib.hid (HB4.out.trans (hb.mono HB4.out.size))
         clear hb)
      | (go_at_call 10
         refine (HSp.out _ _ _ (by constructor <;> decide) (by constructor <;> decide) (by first | omega | exact pre_size _ _ rfl htz) _).mono ?_
         rintro e w6 ⟨rfl, hb⟩
         have HB5' := Lib.hid (HB5.out.trans (hb.mono HB5.out.size))
         clear hb HB5
         have HB5 := Lib.hid HB5'.out
         clear HB5')
      | (go_at_call 9
         refine (HSa.out _).mono ?_
         rintro e w7 ⟨rfl, hb⟩
         have HB6 := Lib.hid (HB5.out.trans (hb.mono HB5.out.size))
         clear hb))
    go_ret
    exact ⟨rfl, HB6.out⟩
end Go.Proofs.YtfcbpehgkpmniaaDoor
