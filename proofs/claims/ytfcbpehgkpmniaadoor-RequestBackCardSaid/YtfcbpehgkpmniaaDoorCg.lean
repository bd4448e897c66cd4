/- Walk of the code's Split. -/
import Derived.Test.YtfcbpehgkpmniaaDoorCe
import Derived.Test.YtfcbpehgkpmniaaDoorCf
import Derived.Deep.DeepCutAuto
import Derived.Deep.CutBlock
namespace Go.Proofs.YtfcbpehgkpmniaaDoor
open Go.RowKit Go.Maps Go.WideMaps

set_option maxRecDepth 100000 in
set_option maxHeartbeats 6000000 in
/-- Split. -/
theorem cSplit (s : ByteArray) (ct qt : UInt8) (hs : s.size ≤ 1000000) (w : World) :
    Calls Tryd.prog 19 #[.string s, .int .u8 (ct.toNat : Int), .int .u8 (qt.toNat : Int)] w fun e w' => SpOut e w w' s.data.toList ct qt ∧ Below w.heap.size w w' := by
  have HL := Lib.hid (fun w => cValid s (by unfold maxLen; omega) w)
  have HC := Lib.hid (fun c w => cCtl c w)
  have HWs := Lib.hid (fun (s : ByteArray) (hs : s.size ≤ 1000000) w => cWords s hs w)
  obtain ⟨w0, hw0⟩ : ∃ w0, w0 = w.alloc (.cells reqZ 42) := ⟨_, rfl⟩
  have hB0 : Below w.heap.size w w0 := by rw [hw0]; exact (Below.refl _ _).alloc (Nat.le_refl _) _
  have hs0 : w0.heap.size = w.heap.size + 1 := by rw [hw0]; simp
  have hrb : Blk w0 w.heap.size 42 reqZ := by rw [hw0]; exact Blk.new _ _ _
  have HB0 := Lib.hid hB0
  have HRb := Lib.hid hrb
  have HS0 := Lib.hid hs0
  clear hB0 hrb hs0
  go_enter Tryd.func19, Tryd.ntmps19
  go_upto_region 1 with fail
  unfold reqZ at hw0
  rw [← hw0]
  clear hw0
  go_cut [28] (fun v28 wx => v28 = .bool (!spOk s.data.toList ct qt) ∧ wx = w0)
  case first =>
    have hq := spOk_eq s.data.toList ct qt
    generalize spOk s.data.toList ct qt = b at *
    generalize lineB s.data.toList = b1 at *
    cases b1
    · have HQ : Hid (b = false) := Lib.hid (by rw [hq]; simp)
      clear hq
      go_wp2_with (first
        | (go_at_call 26; refine (HL.out _).mono ?_; rintro e w1 ⟨rfl, rfl⟩)
        | (go_at_call 41; refine (HC.out _ _).mono ?_; rintro e w1 ⟨rfl, rfl⟩; first | rw [H2.out] | rw [H3.out]))
      go_meet
      case rel =>
        refine ⟨?_, rfl⟩
        rw [HQ.out]
        rfl
    · cases h2 : ctB ct
      · have HQ : Hid (b = false) := Lib.hid (by rw [hq, h2]; simp)
        have H2 := Lib.hid h2
        clear hq h2
        go_wp2_with (first
          | (go_at_call 26; refine (HL.out _).mono ?_; rintro e w1 ⟨rfl, rfl⟩)
            | (go_at_call 41; refine (HC.out _ _).mono ?_; rintro e w1 ⟨rfl, rfl⟩; first | rw [H2.out] | rw [H3.out]))
        go_meet
        case rel =>
          refine ⟨?_, rfl⟩
          rw [HQ.out]
          rfl
      · cases h3 : ctB qt
        · have HQ : Hid (b = false) := Lib.hid (by rw [hq, h2, h3]; simp)
          have H2 := Lib.hid h2
          have H3 := Lib.hid h3
          clear hq h2 h3
          go_wp2_with (first
            | (go_at_call 26; refine (HL.out _).mono ?_; rintro e w1 ⟨rfl, rfl⟩)
                | (go_at_call 41; refine (HC.out _ _).mono ?_; rintro e w1 ⟨rfl, rfl⟩; first | rw [H2.out] | rw [H3.out]))
          go_meet
          case rel =>
            refine ⟨?_, rfl⟩
            rw [HQ.out]
            rfl
        · cases h4 : ((ct.toNat : Int) == (qt.toNat : Int))
          · have HQ : Hid (b = true) := Lib.hid (by rw [hq, h2, h3, h4]; rfl)
            have H2 := Lib.hid h2
            have H3 := Lib.hid h3
            clear hq h2 h3
            go_wp2_with (first
              | (go_at_call 26; refine (HL.out _).mono ?_; rintro e w1 ⟨rfl, rfl⟩)
                    | (go_at_call 41; refine (HC.out _ _).mono ?_; rintro e w1 ⟨rfl, rfl⟩; first | rw [H2.out] | rw [H3.out]))
            go_meet
            case rel =>
              refine ⟨?_, rfl⟩
              rw [HQ.out]
              rfl
          · have HQ : Hid (b = false) := Lib.hid (by rw [hq, h2, h3, h4]; rfl)
            have H2 := Lib.hid h2
            have H3 := Lib.hid h3
            clear hq h2 h3
            go_wp2_with (first
              | (go_at_call 26; refine (HL.out _).mono ?_; rintro e w1 ⟨rfl, rfl⟩)
                    | (go_at_call 41; refine (HC.out _ _).mono ?_; rintro e w1 ⟨rfl, rfl⟩; first | rw [H2.out] | rw [H3.out]))
            go_meet
            case rel =>
              refine ⟨?_, rfl⟩
              rw [HQ.out]
              rfl
  case rest =>
    obtain ⟨rfl, rfl⟩ := hcut
    have hr0 := HRb.out
    unfold reqZ at hr0
    have hf0 := hr0.frozen 0
    have hf1 := hr0.frozen 1
    have hf2 := hr0.frozen 2
    have hf3 := hr0.frozen 3
    have d0 := hr0.cell 0
    have d1 := hr0.cell 1
    have d2 := hr0.cell 2
    have d3 := hr0.cell 3
    simp only [List.getElem?_toArray, List.getElem?_cons_zero, List.getElem?_cons_succ] at d0 d1 d2 d3
    have HR := Lib.hid hr0
    clear hr0
    cases hok : spOk s.data.toList ct qt
    · have HOk := Lib.hid hok
      clear hok
      go_wp2_with fail
      obtain ⟨hT6, hR6⟩ := req_set HR.out (.string ⟨#[]⟩) (.slice none 0 0) (.string ⟨#[]⟩) (.bool false)
      have p0 := hR6.cell 0
      have p1 := hR6.cell 1
      have p2 := hR6.cell 2
      have p3 := hR6.cell 3
      simp only [List.getElem?_toArray, List.getElem?_cons_zero, List.getElem?_cons_succ] at p0 p1 p2 p3
      refine bodyPost_ret (v := .tuple #[.agg #[.string ⟨#[]⟩, .slice none 0 0, .string ⟨#[]⟩, .bool false], .bool false, .int .i64 1]) (by simp [results, Tryd.results19, go_sem, p0, p1, p2, p3]) rfl ⟨SpOut.none_ (by unfold spI; rw [HOk.out]; rfl) (by unfold spE; rw [HOk.out]; rfl), Turn.below HB0.out hT6 HB0.out.size (fun i e => by rw [e]; exact Nat.le_refl _)⟩
    · have HOk := Lib.hid hok
      clear hok
      go_upto_region 3 with fail
      go_cut [43] (fun v43 wx => v43 = .bool (!isCt s.data.toList ct qt) ∧ wx = wc)
      case first =>
        clear d0 d1 d2 d3 hf0 hf1 hf2 hf3
        by_cases h0 : s.size = 0
        · have e : s = ⟨#[]⟩ := by
            obtain ⟨⟨l⟩⟩ := s
            have : l = [] := List.length_eq_zero_iff.1 h0
            subst this; rfl
          subst e
          go_wp2_with fail
          go_meet
          case rel => exact ⟨rfl, rfl⟩
        · obtain ⟨he1, he2⟩ := toList_ne h0
          have h00 : 0 < s.size := by omega
          have hi : Hid ((!isCt s.data.toList ct qt) = (((s[0].toNat : Int) != (ct.toNat : Int)) && ((s[0].toNat : Int) != (qt.toNat : Int)))) := Lib.hid (by
            rw [← data_dr, dr_cons h00, ← u8_neB, ← u8_neB]
            show (!(decide (s[0] = ct) || decide (s[0] = qt))) = _
            rw [Bool.not_or])
          cases h1 : ((s[0].toNat : Int) != (ct.toNat : Int))
          · have H1 := Lib.hid h1
            go_wp2_with fail
            go_meet
            case rel => exact ⟨by rw [hi.out, H1.out]; rfl, rfl⟩
          · have H1 := Lib.hid h1
            go_wp2_with fail
            go_meet
            case rel => exact ⟨by rw [hi.out, H1.out]; rfl, rfl⟩
      case rest =>
        obtain ⟨rfl, rfl⟩ := hcut
        cases hic : isCt s.data.toList ct qt
        · have HIc := Lib.hid hic
          clear hic
          go_wp2_with fail
          obtain ⟨hT6, hR6⟩ := req_set HR.out (.string ⟨#[]⟩) (.slice none 0 0) (.string ⟨#[]⟩) (.bool false)
          have p0 := hR6.cell 0
          have p1 := hR6.cell 1
          have p2 := hR6.cell 2
          have p3 := hR6.cell 3
          simp only [List.getElem?_toArray, List.getElem?_cons_zero, List.getElem?_cons_succ] at p0 p1 p2 p3
          refine bodyPost_ret (v := .tuple #[.agg #[.string ⟨#[]⟩, .slice none 0 0, .string ⟨#[]⟩, .bool false], .bool false, .int .i64 0]) (by simp [results, Tryd.results19, go_sem, p0, p1, p2, p3]) rfl ⟨SpOut.none_ (by unfold spI; rw [HIc.out, Bool.and_false]) (by unfold spE; rw [HOk.out]; rfl), Turn.below HB0.out hT6 HB0.out.size (fun i e => by rw [e]; exact Nat.le_refl _)⟩
        · have HIc := Lib.hid hic
          clear hic
          have h00 : 0 < s.size := by
            rcases Nat.eq_zero_or_pos s.size with h | h
            · have e := HIc.out
              rw [← data_dr, dr_end (by omega)] at e
              cases e
            · exact h
          clear d0 d1 d2 d3 hf0 hf1 hf2 hf3
          have hsz2 : s.size ≤ 2000 := by
            have h := HOk.out
            unfold spOk lineB at h
            simp only [Bool.and_eq_true, decide_eq_true_eq] at h
            exact h.1.1.1.2
          obtain ⟨u, hu0⟩ : ∃ u : ByteArray, u = s.extract 1 s.size := ⟨_, rfl⟩
          have hud : u.data.toList = dr s 1 := by rw [hu0]; exact ext_tail h00
          have huz : u.size ≤ 2000 := by rw [size_len, hud, dr_len]; omega
          have HUd := Lib.hid hud
          have HCu := Lib.hid (fun w => cCutter u w)
          rw [hu0] at HCu
          go_upto_region 7 with (first
            | (go_at_call 27
               refine (HCu.out _).mono ?_
               rw [← hu0]
               rintro e w1 ⟨rfl, hc1, hbc1, hsc1⟩
               have HC1 := Lib.hid hc1
               have HBc1 := Lib.hid hbc1
               have HSc1 := Lib.hid hsc1
               clear hc1 hbc1 hsc1)
            | (go_at_call 55
               refine (cutBl 2000 rfl (by omega) huz (Nat.zero_le _) HC1.out).mono ?_
               rintro e w2 ⟨j1, rfl, _, hj1, _, hd1, hc2, hT2⟩
               have HD1 := Lib.hid hd1
               have HC2 := Lib.hid hc2
               have HT2 := Lib.hid hT2
               clear hd1 hc2 hT2))
          have hbw2 : Below w.heap.size w w2 := HB0.out.trans ((HBc1.out.mono HB0.out.size).trans (Turn.below (Below.refl _ _) HT2.out HBc1.out.size (fun i e => by rw [e]; omega) |>.mono HB0.out.size))
          have HBw2 := Lib.hid hbw2
          have HRb2 := Lib.hid (HT2.out.blk (HRb.out.below HBc1.out HRb.out.lt) (by have := HS0.out; omega))
          have hs2 : wc.heap.size + 2 ≤ w2.heap.size := by have := HSc1.out; have := HT2.out.size; omega
          clear hbw2 HBc1 HC1 HT2 hu0 hud
          generalize hq : ((s[0].toNat : Int) == (qt.toNat : Int)) = q at *
          have HQ := Lib.hid hq
          clear hq
          go_cut [10] (fun v10 wx => ∃ j2 g, j1 ≤ j2 ∧ j2 ≤ u.size ∧ (u.extract j1 j2).data.toList = wdL (dr u j1) ∧ dr u j2 = wdR (dr u j1) ∧ v10 = .pointer (some ⟨g, 0, none⟩) ∧ w2.heap.size ≤ g ∧ Blk wx g 42 #[.string (u.extract j1 j2), .slice none 0 0, .string ⟨#[]⟩, .bool q] ∧ CutAt wx (wc.heap.size + 1) wc.heap.size u j2 ∧ Turn (· = wc.heap.size + 1) w2 wx)
          case first =>
            have hza : Below w2.heap.size w2 (w2.alloc (.cells reqZ 42)) := (Below.refl _ _).alloc (Nat.le_refl _) _
            have HZa := Lib.hid hza
            have HZb := Lib.hid (Blk.new w2 42 reqZ)
            have HCa : Hid (CutAt (w2.alloc (.cells reqZ 42)) (wc.heap.size + 1) wc.heap.size u j1) := Lib.hid ⟨HC2.out.1.alloc _, HC2.out.2.alloc _⟩
            have HCb : Hid (CutAt (w2.drew.alloc (.cells reqZ 42)) (wc.heap.size + 1) wc.heap.size u j1) := Lib.hid ⟨HC2.out.drew.1.alloc _, HC2.out.drew.2.alloc _⟩
            clear hza
            unfold reqZ at HZa HZb HCa HCb
            go_region_with (go_at_call 55
                            first
                              | (refine (cutWd 2000 rfl (by omega) huz hj1 (by with_reducible exact HC2.out.drew)).mono ?_
                                 rintro e w3 ⟨j2, rfl, q1, q2, q3, q4, hc3, hT3⟩
                                 rw [(cu_wd (dr_le huz _)).1] at q3
                                 rw [(cu_wd (dr_le huz _)).2] at q4
                                 have Q3 := Lib.hid q3
                                 have Q4 := Lib.hid q4
                                 have HC3 := Lib.hid hc3
                                 have HT3 : Hid (Turn (· = wc.heap.size + 1) w2 w3) := Lib.hid ((Turn.of_below ((Below.refl _ w2).drew)).trans hT3 (fun _ _ h => h))
                                 clear q3 q4 hc3 hT3)
                              | (refine (cutWd 2000 rfl (by omega) huz hj1 (by with_reducible exact HCa.out.drew)).mono ?_
                                 rintro e w3 ⟨j2, rfl, q1, q2, q3, q4, hc3, hT3⟩
                                 rw [(cu_wd (dr_le huz _)).1] at q3
                                 rw [(cu_wd (dr_le huz _)).2] at q4
                                 have Q3 := Lib.hid q3
                                 have Q4 := Lib.hid q4
                                 have HC3 := Lib.hid hc3
                                 have HT3 : Hid (Turn (· = wc.heap.size + 1) w2 w3) := Lib.hid ((Turn.of_below HZa.out.drew).trans hT3 (fun _ _ h => h))
                                 have hz3 := hT3.blk HZb.out.drew (by omega)
                                 have z0 := hz3.cell 0
                                 have z1 := hz3.cell 1
                                 have z2 := hz3.cell 2
                                 have z3 := hz3.cell 3
                                 have f0 := hz3.frozen 0
                                 have f1 := hz3.frozen 1
                                 have f2 := hz3.frozen 2
                                 have f3 := hz3.frozen 3
                                 simp only [List.getElem?_toArray, List.getElem?_cons_zero, List.getElem?_cons_succ] at z0 z1 z2 z3
                                 have HZ3 := Lib.hid hz3
                                 clear hz3
                                 clear q3 q4 hc3 hT3)
                              | (refine (cutWd 2000 rfl (by omega) huz hj1 (by with_reducible exact HCb.out)).mono ?_
                                 rintro e w3 ⟨j2, rfl, q1, q2, q3, q4, hc3, hT3⟩
                                 rw [(cu_wd (dr_le huz _)).1] at q3
                                 rw [(cu_wd (dr_le huz _)).2] at q4
                                 have Q3 := Lib.hid q3
                                 have Q4 := Lib.hid q4
                                 have HC3 := Lib.hid hc3
                                 have HT3 : Hid (Turn (· = wc.heap.size + 1) w2 w3) := Lib.hid ((Turn.of_below ((Below.refl _ w2).drew.alloc (Nat.le_refl _) _)).trans hT3 (fun _ _ h => h))
                                 have hz3 := hT3.blk (Blk.new w2.drew _ _) (by omega)
                                 have z0 := hz3.cell 0
                                 have z1 := hz3.cell 1
                                 have z2 := hz3.cell 2
                                 have z3 := hz3.cell 3
                                 have f0 := hz3.frozen 0
                                 have f1 := hz3.frozen 1
                                 have f2 := hz3.frozen 2
                                 have f3 := hz3.frozen 3
                                 simp only [List.getElem?_toArray, List.getElem?_cons_zero, List.getElem?_cons_succ] at z0 z1 z2 z3
                                 have HZ3 := Lib.hid hz3
                                 clear hz3
                                 clear q3 q4 hc3 hT3))
            all_goals
              rw [HQ.out]
              try go_wp2_with fail
              go_meet
              case rel =>
                first
                | (refine ⟨j2, w3.heap.size, q1, q2, Q3.out, Q4.out, rfl, HT3.out.size, ?_, ?_, ?_⟩
                   · exact Blk.new w3 _ _
                   · exact ⟨HC3.out.1.alloc _, HC3.out.2.alloc _⟩
                   · exact HT3.out.trans (S2 := fun _ => False) (Turn.of_below ((Below.refl _ _).alloc (Nat.le_refl _) _)) (fun _ _ h => h.elim))
                | (obtain ⟨hTs, hRs⟩ := req_set HZ3.out (.string (u.extract j1 j2)) (.slice none 0 0) (.string ⟨#[]⟩) (.bool q)
                   refine ⟨j2, w2.heap.size, q1, q2, Q3.out, Q4.out, rfl, Nat.le_refl _, ?_, ?_, ?_⟩
                   · exact hRs
                   · exact ⟨hTs.blk HC3.out.1 (by omega), hTs.blk HC3.out.2 (by omega)⟩
                   · exact HT3.out.trans hTs (fun i hi e => by omega))
          case rest =>
            obtain ⟨j2, g, hj12, hj2, hnm, hd2, rfl, hg2, hbg, hc3, hT3⟩ := hcut
            rename World => w3
            have HNm := Lib.hid hnm
            have HD2 := Lib.hid hd2
            have HBg := Lib.hid hbg
            have HC3 := Lib.hid hc3
            have HT3 := Lib.hid hT3
            have HS2 := Lib.hid hs2
            have HG2 := Lib.hid hg2
            clear hnm hd2 hbg hc3 hT3 hs2 hg2 HC2
            have HRb3 := Lib.hid (HT3.out.blk HRb2.out (by have := HS0.out; omega))
            have HBw3 := Lib.hid (Turn.below HBw2.out HT3.out HBw2.out.size (fun i e => by have := HS0.out; rw [e]; omega))
            have HGa : Hid (g ≠ wc.heap.size + 1 ∧ w.heap.size < g) := Lib.hid ⟨by have := HS2.out; have := HG2.out; omega, by have := HS2.out; have := HG2.out; have := HS0.out; omega⟩
            clear HT3 HBw2
            go_upto_region 9 with (go_at_call 55
                                   refine (cutBl 1 rfl (by omega) huz hj2 HC3.out).mono ?_
                                   rintro e w4 ⟨j3, rfl, _, hj3, _, hd3, hc4, hT4⟩
                                   rw [HD2.out, cu_bl1] at hd3
                                   have HD3 := Lib.hid hd3
                                   have HC4 := Lib.hid hc4
                                   have HT4 := Lib.hid hT4
                                   have HBg4 := Lib.hid (hT4.blk HBg.out HGa.out.1)
                                   have HRb4 := Lib.hid (hT4.blk HRb3.out (by have := HS0.out; omega))
                                   have HBw4 := Lib.hid (Turn.below HBw3.out hT4 HBw3.out.size (fun i e => by have := HS0.out; rw [e]; omega))
                                   clear hd3 hc4 hT4)
            go_upto_region 10 with (go_at_call 55
                                    refine (cutAn 2000 rfl (by omega) huz hj3 HC4.out).mono ?_
                                    rintro e w5 ⟨j4, rfl, hj34, hj4, hr5, _, hc5, hT5⟩
                                    rw [(cu_an (dr_le huz _)).1] at hr5
                                    have HR5 := Lib.hid hr5
                                    have hbg5 := hT5.blk HBg4.out HGa.out.1
                                    have HRb5 := Lib.hid (hT5.blk HRb4.out (by have := HS0.out; omega))
                                    have HBw5 := Lib.hid (Turn.below HBw4.out hT5 HBw4.out.size (fun i e => by have := HS0.out; rw [e]; omega))
                                    have HBg5 := Lib.hid hbg5
                                    have hf2 := hbg5.frozen 2
                                    have hx2 := hbg5.cell 2
                                    simp only [List.getElem?_toArray, List.getElem?_cons_zero, List.getElem?_cons_succ] at hx2
                                    clear hr5 hc5 hT5 hbg5)
            obtain ⟨r, hr0⟩ : ∃ r, r = u.extract j3 j4 := ⟨_, rfl⟩
            have hdu : dr u 0 = dr s 1 := HUd.out
            have hd1 : dr u j1 = skL (dr s 1) := by rw [HD1.out, cu_bl (dr_le huz _), hdu]
            have hr : r = baO ((wdR (skL (dr s 1))).drop 1) := by
              rw [hr0]
              exact baO_of (HR5.out.trans (by rw [HD3.out, hd1]))
            have hrz : r.size ≤ 1000000 := by
              rw [hr0, size_len, ext_dr, List.length_take, dr_len]; omega
            have HNm1 := Lib.hid (show (u.extract j1 j2).data.toList = wdL (skL (dr s 1)) by rw [HNm.out, hd1])
            have hb2 := blk_set (o := 2) HBg5.out (.string (u.extract j3 j4))
            have HRbd := Lib.hid (HRb5.out.far (p := ⟨g, 2, none⟩) (by have := HGa.out.2; simp; omega) (.string (u.extract j3 j4)))
            have HBwd := Lib.hid (Turn.below HBw5.out (turn_set w5 g 2 (.string (u.extract j3 j4))) HBw5.out.size (fun i e => by have := HGa.out.2; omega))
            simp only [List.setIfInBounds_toArray, List.set_cons_succ, List.set_cons_zero] at hb2
            rw [← hr0] at hb2 HRbd HBwd ⊢
            clear hr0 hdu hd1 hx2 hf2
            generalize w5.setCell ⟨g, 2, none⟩ (.string r) = wd at *
            have hg0 := hb2.cell 2
            simp only [List.getElem?_toArray, List.getElem?_cons_zero, List.getElem?_cons_succ] at hg0
            have HB2 := Lib.hid hb2
            have HR0 := Lib.hid hr
            clear hb2 hr
            go_wp2_with (go_at_call 12
                         refine (HWs.out r hrz _).mono ?_
                         rintro e w1 ⟨v1, rfl, hv1, hb1⟩
                         obtain ⟨Av, cv, rfl, q1, q2, q3⟩ := hv1
                         have HV := Lib.hid (show SsAt (fun k => wd.heap.size ≤ k ∧ k < w1.heap.size) w1 (.slice Av (wdsT r).length cv) (wdsT r) from ⟨Av, cv, rfl, q1, q2, q3⟩)
                         have HB1 := Lib.hid hb1
                         have hbx := HB2.out.below hb1 HB2.out.lt
                         have hx1 := hbx.cell 1
                         have hg1 := hbx.frozen 1
                         have hby := blk_set (o := 1) hbx (.slice Av (wdsT r).length cv)
                         have y0 := hby.cell 0
                         have y1 := hby.cell 1
                         have y2 := hby.cell 2
                         have y3 := hby.cell 3
                         have hTy := turn_set w1 g 1 (.slice Av (wdsT r).length cv)
                         have hRw : Blk w1 w.heap.size 42 reqZ := (HRbd.out.below hb1 HRbd.out.lt)
                         have hRy := hTy.blk hRw (by have := HGa.out.2; omega)
                         unfold reqZ at hRy
                         have z0 := hRy.cell 0
                         have z1 := hRy.cell 1
                         have z2 := hRy.cell 2
                         have z3 := hRy.cell 3
                         have f0 := hRy.frozen 0
                         have f1 := hRy.frozen 1
                         have f2 := hRy.frozen 2
                         have f3 := hRy.frozen 3
                         simp only [List.setIfInBounds_toArray, List.set_cons_succ, List.set_cons_zero, List.getElem?_toArray, List.getElem?_cons_zero, List.getElem?_cons_succ] at y0 y1 y2 y3 z0 z1 z2 z3 hx1
                         have HRY := Lib.hid hRy
                         have HTY := Lib.hid hTy
                         clear hb1 hbx hby hRw hRy hTy q1 q2 q3)
            obtain ⟨hT6, hR6⟩ := req_set HRY.out (.string (u.extract j1 j2)) (.slice Av (wdsT r).length cv) (.string r) (.bool q)
            have p0 := hR6.cell 0
            have p1 := hR6.cell 1
            have p2 := hR6.cell 2
            have p3 := hR6.cell 3
            simp only [List.getElem?_toArray, List.getElem?_cons_zero, List.getElem?_cons_succ] at p0 p1 p2 p3
            have hT : Turn (fun i => i = g ∨ i = w.heap.size) w1 _ := (HTY.out.mono (fun i e => Or.inl e)).trans hT6 (fun i _ e => Or.inr e)
            have hg := HB2.out.lt
            have hga := HGa.out
            have hsz := HS0.out
            have hbw : Below w.heap.size w w1 := HBwd.out.trans (HB1.out.mono HBwd.out.size)
            have hl : s.data.toList = s[0] :: dr s 1 := by rw [← data_dr]; exact dr_cons h00
            have hI : spI s.data.toList ct qt = true := by unfold spI; rw [HOk.out, HIc.out]; rfl
            have hE : spE s.data.toList ct qt = 0 := by unfold spE; rw [HOk.out]; rfl
            have hrr : spR s.data.toList ct qt = ⟨wdL (skL (dr s 1)), wdsL ((wdR (skL (dr s 1))).drop 1), (wdR (skL (dr s 1))).drop 1, q⟩ := by
              unfold spR
              rw [if_pos hI, hl]
              have e : rqOf (s[0] :: dr s 1) qt = ⟨wdL (skL (dr s 1)), wdsL ((wdR (skL (dr s 1))).drop 1), (wdR (skL (dr s 1))).drop 1, decide (s[0] = qt)⟩ := rfl
              rw [e, u8_eqB, HQ.out]
            refine bodyPost_ret (v := .tuple #[.agg #[.string (u.extract j1 j2), .slice Av (wdsT r).length cv, .string r, .bool q], .bool true, .int .i64 0]) (by simp [results, Tryd.results19, go_sem, p0, p1, p2, p3]) rfl ⟨⟨.slice Av (wdsT r).length cv, ?_, ?_⟩, Turn.below hbw hT hbw.size (fun i e => by rcases e with e | e <;> omega)⟩
            · rw [hI, hE, hrr, baO_of HNm1.out, HR0.out]
            · rw [hrr]
              have e : (wdsL ((wdR (skL (dr s 1))).drop 1)).map baO = wdsT r := by rw [wdsT_O, HR0.out]; rfl
              rw [e]
              refine HV.out.stay (Kept.of_turn hT (fun i hi e => by rcases e with e | e <;> omega)) (fun i hi => ⟨by omega, Nat.lt_of_lt_of_le hi.2 hT.size⟩)
end Go.Proofs.YtfcbpehgkpmniaaDoor
