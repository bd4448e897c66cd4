/- Walk of the statement on one more turn ahead of a condition. -/
import Derived.Test.YtfcbpehgkpmniaaDoorCi
import Derived.Test.YtfcbpehgkpmniaaDoorLb
namespace Go.Proofs.YtfcbpehgkpmniaaDoor
open Go.RowKit Go.Maps Go.WideMaps

theorem line_bang {l : List UInt8} (h : l.length ≤ 1000) : lineB (33 :: l) = lineB l := by
  unfold lineB
  rw [List.all_cons, List.length_cons, decide_eq_true (show l.length + 1 ≤ 2000 by omega), decide_eq_true (show l.length ≤ 2000 by omega)]
  rfl
/-- What the three answers are. -/
theorem nots3 {c : UInt8} {t : List UInt8} (hb : blB c = false) (hl : (c :: t).length ≤ 500) :
    (∃ E, (E == (0 : Int)) = false ∧ cdEr (c :: t) = E ∧ cdEr (33 :: c :: t) = E ∧ cdEr (33 :: 33 :: c :: t) = E) ∨
    ∃ (x : Cnd) (b : Bool), cdEr (c :: t) = 0 ∧ cdEr (33 :: c :: t) = 0 ∧ cdEr (33 :: 33 :: c :: t) = 0 ∧ cdR (c :: t) = some { x with not_ := b } ∧ cdR (33 :: c :: t) = some { x with not_ := !b } ∧ cdR (33 :: 33 :: c :: t) = some { x with not_ := b } := by
  have h1 : lineB (33 :: c :: t) = lineB (c :: t) := line_bang (by omega)
  have h2 : lineB (33 :: 33 :: c :: t) = lineB (c :: t) := by rw [line_bang (by rw [List.length_cons]; omega), h1]
  have e0 := (cdL_bang (t := t) hb).2
  have e1 := (cdL_bang (t := t) hb).1
  have e2 : cdL (33 :: 33 :: c :: t) = cd1 (nots (c :: t)).1 (nots (c :: t)).2 := by
    rw [(cdL_bang (c := 33) (t := c :: t) rfl).1, nots_bang (by rfl), Bool.not_not]
  unfold cdEr cdR
  rw [h1, h2, e0, e1, e2]
  unfold cd1
  cases lineB (c :: t)
  · exact .inl ⟨1, rfl, rfl, rfl, rfl⟩
  · cases cdK (nots (c :: t)).2 with
    | none => exact .inl ⟨4, rfl, rfl, rfl, rfl⟩
    | some x => exact .inr ⟨x, (nots (c :: t)).1, rfl, rfl, rfl, rfl, rfl, rfl⟩
set_option maxRecDepth 100000 in
set_option maxHeartbeats 4000000 in
/-- RequestNots: any text. -/
theorem lReqNots (s : ByteArray) (hs : s.size ≤ maxLen) (w : World) :
    Calls Tryd.prog 6 #[.string s] w fun e w' => e = .returned (.bool true) ∧ Below w.heap.size w w' := by
  have HSa := Lib.hid (fun w => lSane w)
  unfold maxLen at hs
  by_cases hz : (s.size : Int) > 500
  · go_enter Tryd.func6, Tryd.ntmps6
    go_wp2_with (go_at_call 9; refine (HSa.out _).mono ?_; rintro e w1 ⟨rfl, hb⟩)
    go_ret
    exact ⟨rfl, hb⟩
  by_cases h0 : 0 < s.size
  rotate_left
  · have h00 : (s.size : Int) = 0 := by omega
    go_enter Tryd.func6, Tryd.ntmps6
    go_wp2_with (go_at_call 9; refine (HSa.out _).mono ?_; rintro e w1 ⟨rfl, hb⟩)
    go_ret
    exact ⟨rfl, hb⟩
  have hne0 : ((s.size : Int) == 0) = false := by rw [beq_eq_false_iff_ne]; omega
  have hbl := bl_eq s[0]
  cases h32 : ((s[0].toNat : Int) == 32)
  rotate_left
  · clear hbl
    go_enter Tryd.func6, Tryd.ntmps6
    go_wp2_with (go_at_call 9; refine (HSa.out _).mono ?_; rintro e w1 ⟨rfl, hb⟩)
    go_ret
    exact ⟨rfl, hb⟩
  cases h9 : ((s[0].toNat : Int) == 9)
  rotate_left
  · clear hbl
    go_enter Tryd.func6, Tryd.ntmps6
    go_wp2_with (go_at_call 9; refine (HSa.out _).mono ?_; rintro e w1 ⟨rfl, hb⟩)
    go_ret
    exact ⟨rfl, hb⟩
  rw [h32, h9] at hbl
  have hlen : s.data.toList.length ≤ 500 := by rw [← size_len]; omega
  have hdat : s.data.toList = s[0] :: dr s 1 := by rw [← data_dr]; exact dr_cons h0
  have hn3 := nots3 (c := s[0]) (t := dr s 1) hbl (by rw [← hdat]; exact hlen)
  rw [← hdat] at hn3
  have HC0 := Lib.hid (fun w => cCond s (by omega) w)
  have HC1 := Lib.hid (fun w => cCond (⟨#[33]⟩ ++ s) (by rw [ByteArray.size_append]; show 1 + s.size ≤ _; omega) w)
  have HC2 := Lib.hid (fun w => cCond (⟨#[33, 33]⟩ ++ s) (by rw [ByteArray.size_append]; show 2 + s.size ≤ _; omega) w)
  have z1 : (⟨#[33]⟩ ++ s : ByteArray).data.toList = 33 :: s.data.toList := app_data _ _
  have z2 : (⟨#[33, 33]⟩ ++ s : ByteArray).data.toList = 33 :: 33 :: s.data.toList := app_data _ _
  rw [z1] at HC1
  rw [z2] at HC2
  unfold CdOut cdVal at HC0 HC1 HC2
  clear z1 z2 hbl hdat hlen
  generalize hx0 : (cdR s.data.toList).getD noCnd = R0 at *
  generalize hx1 : (cdR (33 :: s.data.toList)).getD noCnd = R1 at *
  generalize hx2 : (cdR (33 :: 33 :: s.data.toList)).getD noCnd = R2 at *
  rcases hn3 with ⟨E, hE, e0, e1, e2⟩ | ⟨x, b, e0, e1, e2, f0, f1, f2⟩
  · rw [e0] at HC0
    rw [e1] at HC1
    rw [e2] at HC2
    have hEE : (E == E) = true := by simp
    clear e0 e1 e2 hx0 hx1 hx2
    generalize baO R0.name = nm0 at *
    generalize baO R0.left = lf0 at *
    generalize baO R0.right = rt0 at *
    generalize baO R0.rest = rs0 at *
    generalize R0.not_ = nt0 at *
    generalize (R0.kind.toNat : Int) = kd0 at *
    generalize baO R1.name = nm1 at *
    generalize baO R1.left = lf1 at *
    generalize baO R1.right = rt1 at *
    generalize baO R1.rest = rs1 at *
    generalize R1.not_ = nt1 at *
    generalize (R1.kind.toNat : Int) = kd1 at *
    generalize baO R2.name = nm2 at *
    generalize baO R2.left = lf2 at *
    generalize baO R2.right = rt2 at *
    generalize baO R2.rest = rs2 at *
    generalize R2.not_ = nt2 at *
    generalize (R2.kind.toNat : Int) = kd2 at *
    go_enter Tryd.func6, Tryd.ntmps6
    go_upto_region 4 with (go_at_call 16
                           refine (HC0.out _).mono ?_
                           rintro e w1 ⟨rfl, hb⟩
                           have HB1 := Lib.hid (hb.alloc hb.size (.cells #[.bool nt0, .int .u8 kd0, .string nm0, .string lf0, .string rt0, .string rs0] 33))
                           have HX1 := Lib.hid (Blk.new w1 33 #[.bool nt0, .int .u8 kd0, .string nm0, .string lf0, .string rt0, .string rs0])
                           clear hb)
    go_upto_region 5 with (go_at_call 16
                           refine (HC1.out _).mono ?_
                           rintro e w2 ⟨rfl, hb⟩
                           have hb' := HB1.out.trans (hb.mono HB1.out.size)
                           have HB2 := Lib.hid (hb'.alloc hb'.size (.cells #[.bool nt1, .int .u8 kd1, .string nm1, .string lf1, .string rt1, .string rs1] 33))
                           have HX2 := Lib.hid ((HX1.out.below hb HX1.out.lt).alloc (.cells #[.bool nt1, .int .u8 kd1, .string nm1, .string lf1, .string rt1, .string rs1] 33))
                           have HY2 := Lib.hid (Blk.new w2 33 #[.bool nt1, .int .u8 kd1, .string nm1, .string lf1, .string rt1, .string rs1])
                           clear hb hb')
    go_wp2_with (first
      | (go_at_call 16
         refine (HC2.out _).mono ?_
         rintro e w3 ⟨rfl, hb⟩
         have hb' := HB2.out.trans (hb.mono HB2.out.size)
         have HB3 := Lib.hid (hb'.alloc hb'.size (.cells #[.bool nt2, .int .u8 kd2, .string nm2, .string lf2, .string rt2, .string rs2] 33))
         have hx := (HX2.out.below hb HX2.out.lt).alloc (.cells #[.bool nt2, .int .u8 kd2, .string nm2, .string lf2, .string rt2, .string rs2] 33)
         have hy := (HY2.out.below hb HY2.out.lt).alloc (.cells #[.bool nt2, .int .u8 kd2, .string nm2, .string lf2, .string rt2, .string rs2] 33)
         have x0 := hx.cell 0
         have x1 := hx.cell 1
         have x5 := hx.cell 5
         have y0 := hy.cell 0
         have y1 := hy.cell 1
         have y5 := hy.cell 5
         simp only [List.getElem?_toArray, List.getElem?_cons_zero, List.getElem?_cons_succ] at x0 x1 x5 y0 y1 y5
         clear hb hb' hx hy)
      | (go_at_call 9
         refine (HSa.out _).mono ?_
         rintro e w4 ⟨rfl, hb⟩
         have HB4 := Lib.hid (HB3.out.trans (hb.mono HB3.out.size))
         clear hb))
    go_ret
    exact ⟨rfl, HB4.out⟩
  · rw [f0] at hx0
    rw [f1] at hx1
    rw [f2] at hx2
    rw [e0] at HC0
    rw [e1] at HC1
    rw [e2] at HC2
    simp only [Option.getD_some] at hx0 hx1 hx2
    subst hx0 hx1 hx2
    clear e0 e1 e2 f0 f1 f2
    simp only at HC0 HC1 HC2
    generalize baO x.name = nm at *
    generalize baO x.left = lf at *
    generalize baO x.right = rt at *
    generalize baO x.rest = rs at *
    generalize (x.kind.toNat : Int) = kd at *
    have hK : (kd == kd) = true := by simp
    cases b
    · simp only [Bool.not_false] at HC0 HC1 HC2
      go_enter Tryd.func6, Tryd.ntmps6
      go_upto_region 4 with (go_at_call 16
                             refine (HC0.out _).mono ?_
                             rintro e w1 ⟨rfl, hb⟩
                             have HB1 := Lib.hid (hb.alloc hb.size (.cells #[.bool false, .int .u8 kd, .string nm, .string lf, .string rt, .string rs] 33))
                             have HX1 := Lib.hid (Blk.new w1 33 #[.bool false, .int .u8 kd, .string nm, .string lf, .string rt, .string rs])
                             clear hb)
      go_upto_region 5 with (go_at_call 16
                             refine (HC1.out _).mono ?_
                             rintro e w2 ⟨rfl, hb⟩
                             have hb' := HB1.out.trans (hb.mono HB1.out.size)
                             have HB2 := Lib.hid (hb'.alloc hb'.size (.cells #[.bool true, .int .u8 kd, .string nm, .string lf, .string rt, .string rs] 33))
                             have HX2 := Lib.hid ((HX1.out.below hb HX1.out.lt).alloc (.cells #[.bool true, .int .u8 kd, .string nm, .string lf, .string rt, .string rs] 33))
                             have HY2 := Lib.hid (Blk.new w2 33 #[.bool true, .int .u8 kd, .string nm, .string lf, .string rt, .string rs])
                             clear hb hb')
      go_wp2_with (first
        | (go_at_call 16
           refine (HC2.out _).mono ?_
           rintro e w3 ⟨rfl, hb⟩
           have hb' := HB2.out.trans (hb.mono HB2.out.size)
           have HB3 := Lib.hid (hb'.alloc hb'.size (.cells #[.bool false, .int .u8 kd, .string nm, .string lf, .string rt, .string rs] 33))
           have hx := (HX2.out.below hb HX2.out.lt).alloc (.cells #[.bool false, .int .u8 kd, .string nm, .string lf, .string rt, .string rs] 33)
           have hy := (HY2.out.below hb HY2.out.lt).alloc (.cells #[.bool false, .int .u8 kd, .string nm, .string lf, .string rt, .string rs] 33)
           have x0 := hx.cell 0
           have x1 := hx.cell 1
           have x5 := hx.cell 5
           have y0 := hy.cell 0
           have y1 := hy.cell 1
           have y5 := hy.cell 5
           simp only [List.getElem?_toArray, List.getElem?_cons_zero, List.getElem?_cons_succ] at x0 x1 x5 y0 y1 y5
           clear hb hb' hx hy)
        | (go_at_call 9
           refine (HSa.out _).mono ?_
           rintro e w4 ⟨rfl, hb⟩
           have HB4 := Lib.hid (HB3.out.trans (hb.mono HB3.out.size))
           clear hb))
      go_ret
      exact ⟨rfl, HB4.out⟩
    · simp only [Bool.not_true] at HC0 HC1 HC2
      go_enter Tryd.func6, Tryd.ntmps6
      go_upto_region 4 with (go_at_call 16
                             refine (HC0.out _).mono ?_
                             rintro e w1 ⟨rfl, hb⟩
                             have HB1 := Lib.hid (hb.alloc hb.size (.cells #[.bool true, .int .u8 kd, .string nm, .string lf, .string rt, .string rs] 33))
                             have HX1 := Lib.hid (Blk.new w1 33 #[.bool true, .int .u8 kd, .string nm, .string lf, .string rt, .string rs])
                             clear hb)
      go_upto_region 5 with (go_at_call 16
                             refine (HC1.out _).mono ?_
                             rintro e w2 ⟨rfl, hb⟩
                             have hb' := HB1.out.trans (hb.mono HB1.out.size)
                             have HB2 := Lib.hid (hb'.alloc hb'.size (.cells #[.bool false, .int .u8 kd, .string nm, .string lf, .string rt, .string rs] 33))
                             have HX2 := Lib.hid ((HX1.out.below hb HX1.out.lt).alloc (.cells #[.bool false, .int .u8 kd, .string nm, .string lf, .string rt, .string rs] 33))
                             have HY2 := Lib.hid (Blk.new w2 33 #[.bool false, .int .u8 kd, .string nm, .string lf, .string rt, .string rs])
                             clear hb hb')
      go_wp2_with (first
        | (go_at_call 16
           refine (HC2.out _).mono ?_
           rintro e w3 ⟨rfl, hb⟩
           have hb' := HB2.out.trans (hb.mono HB2.out.size)
           have HB3 := Lib.hid (hb'.alloc hb'.size (.cells #[.bool true, .int .u8 kd, .string nm, .string lf, .string rt, .string rs] 33))
           have hx := (HX2.out.below hb HX2.out.lt).alloc (.cells #[.bool true, .int .u8 kd, .string nm, .string lf, .string rt, .string rs] 33)
           have hy := (HY2.out.below hb HY2.out.lt).alloc (.cells #[.bool true, .int .u8 kd, .string nm, .string lf, .string rt, .string rs] 33)
           have x0 := hx.cell 0
           have x1 := hx.cell 1
           have x5 := hx.cell 5
           have y0 := hy.cell 0
           have y1 := hy.cell 1
           have y5 := hy.cell 5
           simp only [List.getElem?_toArray, List.getElem?_cons_zero, List.getElem?_cons_succ] at x0 x1 x5 y0 y1 y5
           clear hb hb' hx hy)
        | (go_at_call 9
           refine (HSa.out _).mono ?_
           rintro e w4 ⟨rfl, hb⟩
           have HB4 := Lib.hid (HB3.out.trans (hb.mono HB3.out.size))
           clear hb))
      go_ret
      exact ⟨rfl, HB4.out⟩
end Go.Proofs.YtfcbpehgkpmniaaDoor
