/- Walk of the code's Condition. -/
import Derived.Test.YtfcbpehgkpmniaaDoorCh
namespace Go.Proofs.YtfcbpehgkpmniaaDoor
open Go.RowKit Go.Maps Go.WideMaps

theorem tu_nots {l : List UInt8} (h : l.length ≤ 2000) : ((cuA (fun c => decide (c.toNat = 33)) 2000 l).length % 2 = 1 ↔ (nots l).1 = true) ∧ cuB (fun c => decide (c.toNat = 33)) 2000 l = (nots l).2 := by
  rw [(cu_all h).1, (cu_all h).2]
  clear h
  induction l with
  | nil => exact ⟨by simp [nots], rfl⟩
  | cons c t ih =>
    by_cases e : c.toNat = 33
    · rw [List.takeWhile_cons, List.dropWhile_cons, if_pos (by simpa using e), if_pos (by simpa using e), nots_bang e, List.length_cons]
      refine ⟨?_, ih.2⟩
      have := ih.1
      cases hn : (nots t).1
      · rw [hn] at this
        simp at this ⊢
        omega
      · rw [hn] at this
        simp at this ⊢
        omega
    · rw [List.takeWhile_cons, List.dropWhile_cons, if_neg (by simpa using e), if_neg (by simpa using e), nots_stop e]
      exact ⟨by simp, rfl⟩
set_option maxRecDepth 100000 in
set_option maxHeartbeats 4000000 in
/-- Condition. -/
theorem cCond (s : ByteArray) (hs : s.size ≤ 1000000) (w : World) :
    Calls Tryd.prog 16 #[.string s] w fun e w' => CdOut e s.data.toList ∧ Below w.heap.size w w' := by
  have HL := Lib.hid (fun w => cValid s (by unfold maxLen; omega) w)
  obtain ⟨g, hg⟩ : ∃ g, g = w.heap.size := ⟨_, rfl⟩
  obtain ⟨w0, hw0⟩ : ∃ w0, w0 = w.alloc (.cells cndZ 33) := ⟨_, rfl⟩
  have HB0 : Hid (Below w.heap.size w w0) := Lib.hid (by rw [hw0]; exact (Below.refl _ _).alloc (Nat.le_refl _) _)
  have HG0 : Hid (Blk w0 g 33 cndZ) := Lib.hid (by rw [hw0, hg]; exact Blk.new _ _ _)
  have HS0 : Hid (w0.heap.size = g + 1) := Lib.hid (by rw [hw0, hg]; simp)
  have HGe := Lib.hid hg
  go_enter Tryd.func16, Tryd.ntmps16
  go_upto_region 1 with fail
  unfold cndZ at hw0
  rw [← hw0, ← hg]
  clear hw0 hg
  cases hln : lineB s.data.toList
  · have HLn := Lib.hid hln
    rw [hln] at HL
    have hgc := HG0.out
    unfold cndZ at hgc
    have g0 := hgc.cell 0
    have g1 := hgc.cell 1
    have g2 := hgc.cell 2
    have g3 := hgc.cell 3
    have g4 := hgc.cell 4
    have g5 := hgc.cell 5
    simp only [List.getElem?_toArray, List.getElem?_cons_zero, List.getElem?_cons_succ] at g0 g1 g2 g3 g4 g5
    have gf0 := hgc.frozen 0
    have gf1 := hgc.frozen 1
    have gf2 := hgc.frozen 2
    have gf3 := hgc.frozen 3
    have gf4 := hgc.frozen 4
    have gf5 := hgc.frozen 5
    have HGc := Lib.hid hgc
    clear hgc hln
    go_wp2_with (go_at_call 26; refine (HL.out _).mono ?_; rintro e w1 ⟨rfl, rfl⟩)
    obtain ⟨hT6, hR6⟩ := cnd_set HGc.out (.bool false) (.int .u8 0) (.string ⟨#[]⟩) (.string ⟨#[]⟩) (.string ⟨#[]⟩) (.string ⟨#[]⟩)
    have p0 := hR6.cell 0
    have p1 := hR6.cell 1
    have p2 := hR6.cell 2
    have p3 := hR6.cell 3
    have p4 := hR6.cell 4
    have p5 := hR6.cell 5
    simp only [List.getElem?_toArray, List.getElem?_cons_zero, List.getElem?_cons_succ] at p0 p1 p2 p3 p4 p5
    refine bodyPost_ret (v := .tuple #[.agg #[.bool false, .int .u8 0, .string ⟨#[]⟩, .string ⟨#[]⟩, .string ⟨#[]⟩, .string ⟨#[]⟩], .int .i64 1]) (by simp [results, Tryd.results16, go_sem, p0, p1, p2, p3, p4, p5]) rfl ⟨CdOut.none_ (by unfold cdR; rw [HLn.out]; rfl) (by unfold cdEr; rw [HLn.out]; rfl), Turn.below HB0.out hT6 HB0.out.size (fun i e => by rw [e, HGe.out]; exact Nat.le_refl _)⟩
  · have HLn := Lib.hid hln
    rw [hln] at HL
    have hsz : s.size ≤ 2000 := by
      unfold lineB at hln
      simp only [Bool.and_eq_true, decide_eq_true_eq] at hln
      exact hln.2
    clear hln
    have HCu := Lib.hid (fun w => cCutter s w)
    go_upto_region 5 with (first
      | (go_at_call 26; refine (HL.out _).mono ?_; rintro e w1 ⟨rfl, rfl⟩)
      | (go_at_call 27
         refine (HCu.out _).mono ?_
         rintro e w1 ⟨rfl, hc1, hb1, hs1⟩
         have HC1 := Lib.hid hc1
         have HB1 := Lib.hid (HB0.out.trans (hb1.mono HB0.out.size))
         have HG1 := Lib.hid (HG0.out.below hb1 HG0.out.lt)
         clear hc1 hb1 hs1)
      | (go_at_call 55
         refine (cutBl 2000 rfl (by omega) hsz (Nat.zero_le _) HC1.out).mono ?_
         rintro e w2 ⟨j1, rfl, _, hj1, _, hd1, hc2, hT2⟩
         rw [cu_bl (dr_le hsz _)] at hd1
         have HD1 := Lib.hid hd1
         have HC2 := Lib.hid hc2
         have HB2 := Lib.hid (Turn.below HB1.out hT2 HB1.out.size (fun i e => by have := HS0.out; have := HGe.out; rw [e]; omega))
         have HG2 := Lib.hid (hT2.blk HG1.out (by have := HS0.out; omega))
         clear hd1 hc2 hT2))
    go_upto_region 6 with (go_at_call 55
                           refine (cutTu 2000 rfl (by omega) hsz hj1 HC2.out).mono ?_
                           rintro e w3 ⟨j2, rfl, hj12, hj2, hn2, hd2, hc3, hT3⟩
                           have hsz3 : (s.extract j1 j2).size = (cuA (fun c => decide (c.toNat = 33)) 2000 (dr s j1)).length := by rw [← hn2]; exact size_len _
                           rw [(tu_nots (dr_le hsz _)).2] at hd2
                           have hodd := (tu_nots (dr_le hsz j1)).1
                           rw [← hsz3] at hodd
                           have HOd := Lib.hid hodd
                           have HD2 := Lib.hid hd2
                           have HC3 := Lib.hid hc3
                           have HB3 := Lib.hid (Turn.below HB2.out hT3 HB2.out.size (fun i e => by have := HS0.out; have := HGe.out; rw [e]; omega))
                           have HG3 := Lib.hid (hT3.blk HG2.out (by have := HS0.out; omega))
                           clear hn2 hd2 hc3 hT3 hsz3 hodd)
    have hex : (s.extract j1 j2).size = j2 - j1 := by rw [size_len]; exact ext_size hj12 hj2
    have hpar : ((((j2 - j1 : Nat) : Int) % 2) == 1) = (nots (dr s j1)).1 := by
      have h := HOd.out
      rw [hex] at h
      rw [Bool.eq_iff_iff, ← h, beq_iff_eq]
      omega
    have hcd : cdL s.data.toList = cd1 (nots (dr s j1)).1 (dr s j2) := by
      unfold cdL
      rw [← data_dr, ← HD1.out, HD2.out]
    have HCd := Lib.hid hcd
    clear hcd hex HOd HD1 HD2
    generalize (nots (dr s j1)).1 = b at *
    have HRC := Lib.hid (fun w h => cReadCond s hsz (w0.heap.size + 1) w0.heap.size j2 hj2 w h)
    cases hk : cdK (dr s j2) with
    | none =>
      have HF := Lib.hid (show cdR s.data.toList = none ∧ cdEr s.data.toList = 4 from CdOut.form HLn.out HCd.out hk)
      go_wp2_with (go_at_call 30
                   refine (HRC.out _ HC3.out).mono ?_
                   rintro e w4 hrc
                   rcases hrc with ⟨k4, a4, b4, c4, rfl, _, hT4⟩ | ⟨k4, a4, b4, c4, j4, rfl, hj4, hk4, hc4, hT4⟩
                   rotate_left
                   (rw [hk] at hk4; cases hk4)
                   unfold cdAgg
                   have hg4 := hT4.blk HG3.out (by have := HS0.out; omega)
                   unfold cndZ at hg4
                   have hg5 := hg4.alloc (.cells #[.bool false, .int .u8 k4, .string a4, .string b4, .string c4, .string ⟨#[]⟩] 33)
                   have g0 := hg5.cell 0
                   have g1 := hg5.cell 1
                   have g2 := hg5.cell 2
                   have g3 := hg5.cell 3
                   have g4 := hg5.cell 4
                   have g5 := hg5.cell 5
                   simp only [List.getElem?_toArray, List.getElem?_cons_zero, List.getElem?_cons_succ] at g0 g1 g2 g3 g4 g5
                   have gf0 := hg5.frozen 0
                   have gf1 := hg5.frozen 1
                   have gf2 := hg5.frozen 2
                   have gf3 := hg5.frozen 3
                   have gf4 := hg5.frozen 4
                   have gf5 := hg5.frozen 5
                   have HG5 := Lib.hid hg5
                   have HB4 := Lib.hid (Turn.below HB3.out hT4 HB3.out.size (fun i e => by have := HS0.out; have := HGe.out; rw [e]; omega))
                   clear hg4 hg5 hT4)
      obtain ⟨hT6, hR6⟩ := cnd_set HG5.out (.bool false) (.int .u8 0) (.string ⟨#[]⟩) (.string ⟨#[]⟩) (.string ⟨#[]⟩) (.string ⟨#[]⟩)
      have p0 := hR6.cell 0
      have p1 := hR6.cell 1
      have p2 := hR6.cell 2
      have p3 := hR6.cell 3
      have p4 := hR6.cell 4
      have p5 := hR6.cell 5
      simp only [List.getElem?_toArray, List.getElem?_cons_zero, List.getElem?_cons_succ] at p0 p1 p2 p3 p4 p5
      have hbw := HB4.out.alloc HB4.out.size (.cells #[.bool false, .int .u8 k4, .string a4, .string b4, .string c4, .string ⟨#[]⟩] 33)
      refine bodyPost_ret (v := .tuple #[.agg #[.bool false, .int .u8 0, .string ⟨#[]⟩, .string ⟨#[]⟩, .string ⟨#[]⟩, .string ⟨#[]⟩], .int .i64 4]) (by simp [results, Tryd.results16, go_sem, p0, p1, p2, p3, p4, p5]) rfl ⟨CdOut.none_ HF.out.1 HF.out.2, Turn.below hbw hT6 hbw.size (fun i e => by rw [e, HGe.out]; exact Nat.le_refl _)⟩
    | some cc =>
      go_upto_region 9 with (go_at_call 30
                             refine (HRC.out _ HC3.out).mono ?_
                             rintro e w4 hrc
                             rcases hrc with ⟨k4, a4, b4, c4, rfl, hk4, hT4⟩ | ⟨k4, a4, b4, c4, j4, rfl, hj4, hk4, hc4, hT4⟩
                             (rw [hk] at hk4; cases hk4)
                             unfold cdAgg
                             have hg4 := hT4.blk HG3.out (by have := HS0.out; omega)
                             have HG5 := Lib.hid (hg4.alloc (.cells #[.bool false, .int .u8 (k4.toNat : Int), .string a4, .string b4, .string c4, .string ⟨#[]⟩] 33))
                             have hb4 := (Turn.below HB3.out hT4 HB3.out.size (fun i e => by have := HS0.out; have := HGe.out; rw [e]; omega))
                             have HB5 := Lib.hid (hb4.alloc hb4.size (.cells #[.bool false, .int .u8 (k4.toNat : Int), .string a4, .string b4, .string c4, .string ⟨#[]⟩] 33))
                             have HH5 := Lib.hid (Blk.new w4 33 #[.bool false, .int .u8 (k4.toNat : Int), .string a4, .string b4, .string c4, .string ⟨#[]⟩])
                             have HC5 : Hid (CutAt (w4.alloc (.cells #[.bool false, .int .u8 (k4.toNat : Int), .string a4, .string b4, .string c4, .string ⟨#[]⟩] 33)) (w0.heap.size + 1) w0.heap.size s j4) := Lib.hid ⟨hc4.1.alloc _, hc4.2.alloc _⟩
                             have HHz : Hid (w4.heap.size ≠ w0.heap.size + 1 ∧ g < w4.heap.size) := Lib.hid ⟨by have := hc4.1.lt; omega, hg4.lt⟩
                             have HK4 := Lib.hid hk4
                             clear hg4 hb4 hc4 hT4 hk4)
      generalize hh : w4.heap.size = h at *
      generalize w4.alloc (.cells #[.bool false, .int .u8 (k4.toNat : Int), .string a4, .string b4, .string c4, .string ⟨#[]⟩] 33) = w5 at *
      clear hh hk
      go_upto_region 10 with (go_at_call 55
                              refine (cutBl 2000 rfl (by omega) hsz hj4 HC5.out).mono ?_
                              rintro e w6 ⟨j5, rfl, _, hj5, _, hd5, hc6, hT6⟩
                              rw [cu_bl (dr_le hsz _)] at hd5
                              have HD5 := Lib.hid hd5
                              have HC6 := Lib.hid hc6
                              have HB6 := Lib.hid (Turn.below HB5.out hT6 HB5.out.size (fun i e => by have := HS0.out; have := HGe.out; rw [e]; omega))
                              have HG6 := Lib.hid (hT6.blk HG5.out (by have := HS0.out; omega))
                              have HH6 := Lib.hid (hT6.blk HH5.out HHz.out.1)
                              clear hd5 hc6 hT6)
      go_upto_region 11 with (go_at_call 55
                              refine (cutAn 2000 rfl (by omega) hsz hj5 HC6.out).mono ?_
                              rintro e w7 ⟨j6, rfl, hj56, hj6, hr6, _, _, hT7⟩
                              rw [(cu_an (dr_le hsz _)).1] at hr6
                              have HR6 := Lib.hid hr6
                              have HB7 := Lib.hid (Turn.below HB6.out hT7 HB6.out.size (fun i e => by have := HS0.out; have := HGe.out; rw [e]; omega))
                              have HG7 := Lib.hid (hT7.blk HG6.out (by have := HS0.out; omega))
                              have hh7 := hT7.blk HH6.out HHz.out.1
                              have ee0 := hh7.cell 0
                              have ee1 := hh7.cell 1
                              have ee2 := hh7.cell 2
                              have ee3 := hh7.cell 3
                              have ee4 := hh7.cell 4
                              have ee5 := hh7.cell 5
                              simp only [List.getElem?_toArray, List.getElem?_cons_zero, List.getElem?_cons_succ] at ee0 ee1 ee2 ee3 ee4 ee5
                              have eef0 := hh7.frozen 0
                              have eef1 := hh7.frozen 1
                              have eef2 := hh7.frozen 2
                              have eef3 := hh7.frozen 3
                              have eef4 := hh7.frozen 4
                              have eef5 := hh7.frozen 5
                              have HH7 := Lib.hid hh7
                              clear hr6 hT7 hh7)
      have hhb := blk_set (o := 5) (blk_set (o := 0) HH7.out (.bool b)) (.string (s.extract j5 j6))
      simp only [List.setIfInBounds_toArray, List.set_cons_succ, List.set_cons_zero] at hhb
      have hgb := (HG7.out.far (p := ⟨h, 0, none⟩) (by have := HHz.out.2; simp; omega) (.bool b)).far (p := ⟨h, 5, none⟩) (by have := HHz.out.2; simp; omega) (.string (s.extract j5 j6))
      have hBb := Turn.below HB7.out ((turn_set w7 h 0 (.bool b)).trans (S2 := (· = h)) (turn_set _ h 5 (.string (s.extract j5 j6))) (fun _ _ e => e)) HB7.out.size (fun i e => by have := HHz.out.2; have := HGe.out; omega)
      generalize (w7.setCell ⟨h, 0, none⟩ (.bool b)).setCell ⟨h, 5, none⟩ (.string (s.extract j5 j6)) = w8 at *
      have HG8 := Lib.hid hgb
      have HB8 := Lib.hid hBb
      unfold cndZ at hgb
      have y0 := hhb.cell 0
      have y1 := hhb.cell 1
      have y2 := hhb.cell 2
      have y3 := hhb.cell 3
      have y4 := hhb.cell 4
      have y5 := hhb.cell 5
      simp only [List.getElem?_toArray, List.getElem?_cons_zero, List.getElem?_cons_succ] at y0 y1 y2 y3 y4 y5
      have yf0 := hhb.frozen 0
      have yf1 := hhb.frozen 1
      have yf2 := hhb.frozen 2
      have yf3 := hhb.frozen 3
      have yf4 := hhb.frozen 4
      have yf5 := hhb.frozen 5
      have z0 := hgb.cell 0
      have z1 := hgb.cell 1
      have z2 := hgb.cell 2
      have z3 := hgb.cell 3
      have z4 := hgb.cell 4
      have z5 := hgb.cell 5
      simp only [List.getElem?_toArray, List.getElem?_cons_zero, List.getElem?_cons_succ] at z0 z1 z2 z3 z4 z5
      have zf0 := hgb.frozen 0
      have zf1 := hgb.frozen 1
      have zf2 := hgb.frozen 2
      have zf3 := hgb.frozen 3
      have zf4 := hgb.frozen 4
      have zf5 := hgb.frozen 5
      clear hhb hgb hBb
      go_wp2_with fail
      obtain ⟨hT6, hR6⟩ := cnd_set HG8.out (.bool b) (.int .u8 (k4.toNat : Int)) (.string a4) (.string b4) (.string c4) (.string (s.extract j5 j6))
      have p0 := hR6.cell 0
      have p1 := hR6.cell 1
      have p2 := hR6.cell 2
      have p3 := hR6.cell 3
      have p4 := hR6.cell 4
      have p5 := hR6.cell 5
      simp only [List.getElem?_toArray, List.getElem?_cons_zero, List.getElem?_cons_succ] at p0 p1 p2 p3 p4 p5
      refine bodyPost_ret (v := .tuple #[.agg #[.bool b, .int .u8 (k4.toNat : Int), .string a4, .string b4, .string c4, .string (s.extract j5 j6)], .int .i64 0]) (by simp [results, Tryd.results16, go_sem, p0, p1, p2, p3, p4, p5]) rfl ⟨CdOut.some_ HLn.out HCd.out HK4.out rfl rfl rfl rfl ?_, Turn.below HB8.out hT6 HB8.out.size (fun i e => by rw [e, HGe.out]; exact Nat.le_refl _)⟩
      rw [HR6.out, HD5.out]
end Go.Proofs.YtfcbpehgkpmniaaDoor
