/- Walks of the statements' fixed example and of a line split by both. -/
import Derived.Test.YtfcbpehgkpmniaaDoorCg
import Derived.Test.YtfcbpehgkpmniaaDoorLa
namespace Go.Proofs.YtfcbpehgkpmniaaDoor
open Go.RowKit Go.Maps Go.WideMaps

/-- The fixed example's line. -/
def exS : ByteArray := ⟨#[46, 120, 120, 32, 97, 32, 34, 98, 32, 99, 34, 32, 100, 34, 101]⟩
theorem ex_out {e : Ending} {w w' : World} (h : SpOut e w w' exS.data.toList 46 39) : ∃ v, e = .returned (.tuple #[.agg #[.string ⟨#[120, 120]⟩, v, .string ⟨#[97, 32, 34, 98, 32, 99, 34, 32, 100, 34, 101]⟩, .bool false], .bool true, .int .i64 0]) ∧ SsAt (fun k => w.heap.size ≤ k ∧ k < w'.heap.size) w' v [⟨#[97]⟩, ⟨#[98, 32, 99]⟩, ⟨#[100, 34, 101]⟩] := by
  obtain ⟨v, rfl, hv⟩ := h
  have e1 : spR exS.data.toList 46 39 = ⟨[120, 120], [[97], [98, 32, 99], [100, 34, 101]], [97, 32, 34, 98, 32, 99, 34, 32, 100, 34, 101], false⟩ := by kernel_rfl
  have e2 : spI exS.data.toList 46 39 = true := by kernel_rfl
  have e3 : spE exS.data.toList 46 39 = 0 := by kernel_rfl
  rw [e1] at hv ⊢
  rw [e2, e3]
  exact ⟨v, rfl, hv⟩
set_option maxRecDepth 100000 in
set_option maxHeartbeats 1000000 in
/-- The fixed example. -/
theorem lSane (w : World) :
    Calls Tryd.prog 9 #[] w fun e w' => e = .returned (.bool true) ∧ Below w.heap.size w w' := by
  have HS : Hid (∀ w, Calls Tryd.prog 19 #[.string exS, .int .u8 46, .int .u8 39] w fun e w' => SpOut e w w' exS.data.toList 46 39 ∧ Below w.heap.size w w') := Lib.hid (fun w => cSplit exS 46 39 (by decide) w)
  unfold exS at HS
  go_enter Tryd.func9, Tryd.ntmps9
  go_wp2_with (go_at_call 19
               refine (HS.out _).mono ?_
               rintro e w1 ⟨hsp, hb⟩
               obtain ⟨v, rfl, Av, cv, rfl, q1, q2, q3⟩ := ex_out hsp
               have HB := Lib.hid hb
               obtain ⟨g, off, rfl, _, hr⟩ := q3 (by decide)
               have c1 := (hr 1 _ rfl).1
               have c2 := (hr 2 _ rfl).1
               clear hsp hb hr q1 q2 q3)
  go_ret
  exact ⟨rfl, HB.out.alloc HB.out.size _⟩
set_option maxRecDepth 100000 in
set_option maxHeartbeats 1000000 in
/-- A line split by both. -/
theorem lSplits (s : ByteArray) (ct qt : UInt8) (hs : s.size ≤ 1000000) (w : World) :
    Calls Tryd.prog 10 #[.string s, .int .u8 (ct.toNat : Int), .int .u8 (qt.toNat : Int)] w fun e w' => e = .returned (.bool true) ∧ Below w.heap.size w w' := by
  have HC := Lib.hid (fun w => cSplit s ct qt hs w)
  have HN := Lib.hid (fun w => nSplit s ct qt hs w)
  have HL := Lib.hid (fun K K2 v v2 w h h2 => lList K K2 v v2 ((spR s.data.toList ct qt).args.map baO) w h h2)
  go_enter Tryd.func10, Tryd.ntmps10
  obtain ⟨R, hR⟩ : ∃ R, R = spR s.data.toList ct qt := ⟨_, rfl⟩
  unfold SpOut at HC HN
  rw [← hR] at HC HN HL
  generalize spI s.data.toList ct qt = I at *
  generalize spE s.data.toList ct qt = E at *
  clear hR
  generalize (ct.toNat : Int) = cn at *
  generalize (qt.toNat : Int) = qn at *
  generalize baO R.name = nm at *
  generalize baO R.rest = rs at *
  generalize R.quiet = qu at *
  have hbb : ∀ b : Bool, (b == b) = true := fun b => by cases b <;> rfl
  have hI := hbb I
  have hQ := hbb qu
  have hE : (E == E) = true := by simp
  clear hbb
  go_wp2_with (first
    | (go_at_call 19
       refine (HC.out _).mono ?_
       rintro e w1 ⟨⟨v0, rfl, hv⟩, hb⟩
       obtain ⟨A, c, rfl, _⟩ := id hv
       rw [List.length_map] at hv
       have HV := Lib.hid hv
       have HB := Lib.hid hb
       have HX := Lib.hid (Blk.new w1 42 #[.string nm, .slice A R.args.length c, .string rs, .bool qu])
       have HB1 := Lib.hid (hb.alloc hb.size (.cells #[.string nm, .slice A R.args.length c, .string rs, .bool qu] 42))
       have HV1 := Lib.hid (hv.stay (Kept.of_below ((Below.refl w1.heap.size w1).alloc (Nat.le_refl _) (.cells #[.string nm, .slice A R.args.length c, .string rs, .bool qu] 42)) (fun i hi => hi.2)) (fun i hi => (show w.heap.size ≤ i ∧ i < (w1.alloc (.cells #[.string nm, .slice A R.args.length c, .string rs, .bool qu] 42)).heap.size from ⟨hi.1, by rw [World.size_alloc]; omega⟩)))
       clear hv hb)
    | (go_at_call 20
       refine (HN.out _).mono ?_
       rintro e w2 ⟨⟨v2, rfl, hv2⟩, hb2⟩
       obtain ⟨A2, c2, rfl, _⟩ := id hv2
       rw [List.length_map] at hv2
       have HV2 := Lib.hid hv2
       have HB2 := Lib.hid (HB1.out.trans (hb2.mono HB1.out.size))
       have HV3 := Lib.hid (HV1.out.stay (Kept.of_below hb2 (fun i hi => hi.2)) (fun i hi => (show w.heap.size ≤ i ∧ i < w2.heap.size from ⟨hi.1, Nat.lt_of_lt_of_le hi.2 hb2.size⟩)))
       have hx := (HX.out.below hb2 HX.out.lt).alloc (.cells #[.string nm, .slice A2 R.args.length c2, .string rs, .bool qu] 46)
       have x0 := hx.cell 0
       have x1 := hx.cell 1
       have x2 := hx.cell 2
       have x3 := hx.cell 3
       simp only [List.getElem?_toArray, List.getElem?_cons_zero, List.getElem?_cons_succ] at x0 x1 x2 x3
       clear hv2 hb2 hx)
    | (go_at_call 11
       refine (HL.out (fun k => w.heap.size ≤ k ∧ k < w2.heap.size) _ _ _ _ (HV3.out.stay (Kept.of_below ((Below.refl w2.heap.size w2).alloc (Nat.le_refl _) _) (fun i hi => hi.2)) (fun i hi => hi)) (HV2.out.stay (Kept.of_below ((Below.refl w2.heap.size w2).alloc (Nat.le_refl _) _) (fun i hi => hi.2)) (fun i hi => hi))).mono ?_
       rintro e w4 ⟨rfl, hb4⟩
       have HB4 := Lib.hid ((HB2.out.alloc HB2.out.size _).trans (hb4.mono (Nat.le_trans HB2.out.size (by simp))))
       clear hb4))
  go_ret
  exact ⟨rfl, HB4.out⟩
set_option maxRecDepth 100000 in
set_option maxHeartbeats 1000000 in
/-- RequestSplits: any line. -/
theorem lReqSplits (s : ByteArray) (ct qt : UInt8) (hs : s.size ≤ maxLen) (w : World) :
    Calls Tryd.prog 3 #[.string s, .int .u8 (ct.toNat : Int), .int .u8 (qt.toNat : Int)] w fun e w' => e = .returned (.bool true) ∧ Below w.heap.size w w' := by
  have HSa := Lib.hid (fun w => lSane w)
  unfold maxLen at hs
  by_cases hz : (s.size : Int) > 2200
  · go_enter Tryd.func3, Tryd.ntmps3
    go_wp2_with (go_at_call 9; refine (HSa.out _).mono ?_; rintro e w1 ⟨rfl, hb⟩)
    go_ret
    exact ⟨rfl, hb⟩
  · have HSp := Lib.hid (fun (a b : UInt8) w => lSplits s a b (by omega) w)
    have HC := Lib.hid (fun w => cWords s (by omega) w)
    have HN := Lib.hid (fun w => nWords s (by omega) w)
    have HL := Lib.hid (fun K K2 v v2 w h h2 => lList K K2 v v2 (wdsT s) w h h2)
    have HX : Hid (∀ w, Calls Tryd.prog 10 #[.string s, .int .u8 46, .int .u8 39] w fun e w' => e = .returned (.bool true) ∧ Below w.heap.size w w') := Lib.hid (fun w => HSp.out 46 39 w)
    have HY := Lib.hid (HSp.out ct qt)
    clear HSp
    generalize (ct.toNat : Int) = cn at *
    generalize (qt.toNat : Int) = qn at *
    go_enter Tryd.func3, Tryd.ntmps3
    go_wp2_with (first
      | (go_at_call 10
         first
         | (refine (HY.out _).mono ?_
            rintro e w1 ⟨rfl, hb⟩
            have HB1 := Lib.hid hb
            clear hb HY)
         | (refine (HX.out _).mono ?_
            rintro e w2 ⟨rfl, hb⟩
            have HB2 := Lib.hid (HB1.out.trans (hb.mono HB1.out.size))
            clear hb))
      | (go_at_call 12
         refine (HC.out _).mono ?_
         rintro e w3 ⟨v3, rfl, hv3, hb⟩
         obtain ⟨A3, c3, rfl, _⟩ := id hv3
         have HV3 := Lib.hid hv3
         have HB3 := Lib.hid (HB2.out.trans (hb.mono HB2.out.size))
         clear hv3 hb)
      | (go_at_call 13
         refine (HN.out _).mono ?_
         rintro e w4 ⟨v4, rfl, hv4, hb⟩
         obtain ⟨A4, c4, rfl, _⟩ := id hv4
         have HV4 := Lib.hid hv4
         have HV5 := Lib.hid (HV3.out.stay (K' := fun k => k < w4.heap.size) (Kept.of_below hb (fun i hi => hi.2)) (fun i hi => Nat.lt_of_lt_of_le hi.2 hb.size))
         have HB4 := Lib.hid (HB3.out.trans (hb.mono HB3.out.size))
         clear hv4 hb)
      | (go_at_call 11
         refine (HL.out _ _ _ _ _ HV5.out HV4.out).mono ?_
         rintro e w5 ⟨rfl, hb⟩
         have HB5 := Lib.hid (HB4.out.trans (hb.mono HB4.out.size))
         clear hb)
      | (go_at_call 9
         refine (HSa.out _).mono ?_
         rintro e w6 ⟨rfl, hb⟩
         have HB6 := Lib.hid (HB5.out.trans (hb.mono HB5.out.size))
         clear hb))
    go_ret
    exact ⟨rfl, HB6.out⟩
end Go.Proofs.YtfcbpehgkpmniaaDoor
