/- Walk of the document's Split. -/
import Derived.Test.YtfcbpehgkpmniaaDoorAh
import Derived.Deep.RegionHeld3
import Derived.Deep.RegionLaw
import Derived.Deep.RegionHeldLaw
namespace Go.Proofs.YtfcbpehgkpmniaaDoor
open Go.RowKit Go.Maps Go.WideMaps

/-- The text of bytes. -/
def baO (l : List UInt8) : ByteArray := ⟨l.toArray⟩
theorem baO_back (s : ByteArray) : baO s.data.toList = s := rfl
theorem wdsT_O (s : ByteArray) : wdsT s = (wdsL s.data.toList).map baO := rfl
theorem baO_of {s : ByteArray} {l : List UInt8} (h : s.data.toList = l) : s = baO l := by
  rw [← h]; rfl
/-- What Split answers. -/
def SpOut (e : Ending) (w w' : World) (l : List UInt8) (ct qt : UInt8) : Prop :=
  ∃ v, e = .returned (.tuple #[.agg #[.string (baO (spR l ct qt).name), v, .string (baO (spR l ct qt).rest), .bool (spR l ct qt).quiet], .bool (spI l ct qt), .int .i64 (spE l ct qt)]) ∧ SsAt (fun k => w.heap.size ≤ k ∧ k < w'.heap.size) w' v ((spR l ct qt).args.map baO)
theorem SpOut.none_ {w w' : World} {l : List UInt8} {ct qt : UInt8} {er : Int} (h : spI l ct qt = false) (he : spE l ct qt = er) : SpOut (.returned (.tuple #[.agg #[.string ⟨#[]⟩, .slice none 0 0, .string ⟨#[]⟩, .bool false], .bool false, .int .i64 er])) w w' l ct qt := by
  have hr : spR l ct qt = noRq := by unfold spR; rw [h]; rfl
  refine ⟨.slice none 0 0, ?_, ?_⟩
  · rw [hr, h, he]; rfl
  · rw [hr]; exact RowAt.nil
theorem spOk_eq (l : List UInt8) (ct qt : UInt8) : spOk l ct qt = (lineB l && ctB ct && ctB qt && !((ct.toNat : Int) == (qt.toNat : Int))) := by
  unfold spOk
  congr 2
  rw [Bool.eq_iff_iff, decide_eq_true_eq, beq_iff_eq]
  constructor
  · intro e; rw [e]
  · intro e; exact UInt8.toNat_inj.1 (by omega)
theorem u8_eqB (a b : UInt8) : decide (a = b) = ((a.toNat : Int) == (b.toNat : Int)) := by
  rw [Bool.eq_iff_iff, decide_eq_true_eq, beq_iff_eq]
  constructor
  · intro e; rw [e]
  · intro e; exact UInt8.toNat_inj.1 (by omega)
theorem u8_neB (a b : UInt8) : (!decide (a = b)) = ((a.toNat : Int) != (b.toNat : Int)) := by
  rw [u8_eqB]; rfl
theorem req_set {w : World} {g : Nat} {t : TypeId} {a b c d : Value} (hb : Blk w g t #[a, b, c, d]) (a' b' c' d' : Value) :
    Turn (· = g) w ((((w.setCell ⟨g, 0, none⟩ a').setCell ⟨g, 1, none⟩ b').setCell ⟨g, 2, none⟩ c').setCell ⟨g, 3, none⟩ d') ∧ Blk ((((w.setCell ⟨g, 0, none⟩ a').setCell ⟨g, 1, none⟩ b').setCell ⟨g, 2, none⟩ c').setCell ⟨g, 3, none⟩ d') g t #[a', b', c', d'] :=
  ⟨(((turn_set w g 0 a').trans (turn_set _ g 1 b') (fun _ _ h => h)).trans (turn_set _ g 2 c') (fun _ _ h => h)).trans (turn_set _ g 3 d') (fun _ _ h => h), blk_set (blk_set (blk_set (blk_set hb a') b') c') d'⟩
def reqZ : Array Value := #[.string ⟨#[]⟩, .slice none 0 0, .string ⟨#[]⟩, .bool false]
set_option maxRecDepth 100000 in
set_option maxHeartbeats 1600000 in
/-- The document's Split. -/
theorem nSplit (s : ByteArray) (ct qt : UInt8) (hs : s.size ≤ 1000000) (w : World) :
    Calls Tryd.prog 20 #[.string s, .int .u8 (ct.toNat : Int), .int .u8 (qt.toNat : Int)] w fun e w' => SpOut e w w' s.data.toList ct qt ∧ Below w.heap.size w w' := by
  have HL := Lib.hid (fun w => nIsLine s (by unfold maxLen; omega) w)
  have HC := Lib.hid (fun c w => nCtl c w)
  have HSk := Lib.hid (fun (i : Nat) (hi : i ≤ s.size) (w : World) => nSkip s (by unfold maxLen; omega) i hi w)
  have HWd := Lib.hid (fun (i : Nat) (hi : i ≤ s.size) (w : World) => nWord s (by unfold maxLen; omega) i hi w)
  have HWs := Lib.hid (fun (s : ByteArray) (hs : s.size ≤ 1000000) w => nWords s hs w)
  obtain ⟨w0, hw0⟩ : ∃ w0, w0 = w.alloc (.cells reqZ 46) := ⟨_, rfl⟩
  have hB0 : Below w.heap.size w w0 := by rw [hw0]; exact (Below.refl _ _).alloc (Nat.le_refl _) _
  have hs0 : w0.heap.size = w.heap.size + 1 := by rw [hw0]; simp
  have hrb : Blk w0 w.heap.size 46 reqZ := by rw [hw0]; exact Blk.new _ _ _
  have HB0 := Lib.hid hB0
  have HRb := Lib.hid hrb
  have HS0 := Lib.hid hs0
  clear hB0 hrb hs0
  go_enter Tryd.func20, Tryd.ntmps20
  go_upto_region 1 with fail
  unfold reqZ at hw0
  rw [← hw0]
  clear hw0
  go_cut [29] (fun v29 wx => v29 = .bool (!spOk s.data.toList ct qt) ∧ wx = w0)
  case first =>
    have hq := spOk_eq s.data.toList ct qt
    generalize spOk s.data.toList ct qt = b at *
    generalize lineB s.data.toList = b1 at *
    cases b1
    · have HQ : Hid (b = false) := Lib.hid (by rw [hq]; simp)
      clear hq
      go_wp2_with (first
        | (go_at_call 43; refine (HL.out _).mono ?_; rintro e w1 ⟨rfl, rfl⟩)
        | (go_at_call 44; refine (HC.out _ _).mono ?_; rintro e w1 ⟨rfl, rfl⟩; first | rw [H2.out] | rw [H3.out]))
      go_meet
      case rel =>
        refine ⟨?_, rfl⟩
        rw [HQ.out]
        rfl
    · cases h2 : ctB ct
      · have HQ : Hid (b = false) := Lib.hid (by rw [hq, h2]; simp)
        have H2 := Lib.hid h2
        clear hq h2
        go_wp2_with (first
          | (go_at_call 43; refine (HL.out _).mono ?_; rintro e w1 ⟨rfl, rfl⟩)
            | (go_at_call 44; refine (HC.out _ _).mono ?_; rintro e w1 ⟨rfl, rfl⟩; first | rw [H2.out] | rw [H3.out]))
        go_meet
        case rel =>
          refine ⟨?_, rfl⟩
          rw [HQ.out]
          rfl
      · cases h3 : ctB qt
        · have HQ : Hid (b = false) := Lib.hid (by rw [hq, h2, h3]; simp)
          have H2 := Lib.hid h2
          have H3 := Lib.hid h3
          clear hq h2 h3
          go_wp2_with (first
            | (go_at_call 43; refine (HL.out _).mono ?_; rintro e w1 ⟨rfl, rfl⟩)
                | (go_at_call 44; refine (HC.out _ _).mono ?_; rintro e w1 ⟨rfl, rfl⟩; first | rw [H2.out] | rw [H3.out]))
          go_meet
          case rel =>
            refine ⟨?_, rfl⟩
            rw [HQ.out]
            rfl
        · cases h4 : ((ct.toNat : Int) == (qt.toNat : Int))
          · have HQ : Hid (b = true) := Lib.hid (by rw [hq, h2, h3, h4]; rfl)
            have H2 := Lib.hid h2
            have H3 := Lib.hid h3
            clear hq h2 h3
            go_wp2_with (first
              | (go_at_call 43; refine (HL.out _).mono ?_; rintro e w1 ⟨rfl, rfl⟩)
                    | (go_at_call 44; refine (HC.out _ _).mono ?_; rintro e w1 ⟨rfl, rfl⟩; first | rw [H2.out] | rw [H3.out]))
            go_meet
            case rel =>
              refine ⟨?_, rfl⟩
              rw [HQ.out]
              rfl
          · have HQ : Hid (b = false) := Lib.hid (by rw [hq, h2, h3, h4]; rfl)
            have H2 := Lib.hid h2
            have H3 := Lib.hid h3
            clear hq h2 h3
            go_wp2_with (first
              | (go_at_call 43; refine (HL.out _).mono ?_; rintro e w1 ⟨rfl, rfl⟩)
                    | (go_at_call 44; refine (HC.out _ _).mono ?_; rintro e w1 ⟨rfl, rfl⟩; first | rw [H2.out] | rw [H3.out]))
            go_meet
            case rel =>
              refine ⟨?_, rfl⟩
              rw [HQ.out]
              rfl
  case rest =>
    obtain ⟨rfl, rfl⟩ := hcut
    have hr0 := HRb.out
    unfold reqZ at hr0
    have hf0 := hr0.frozen 0
    have hf1 := hr0.frozen 1
    have hf2 := hr0.frozen 2
    have hf3 := hr0.frozen 3
    have d0 := hr0.cell 0
    have d1 := hr0.cell 1
    have d2 := hr0.cell 2
    have d3 := hr0.cell 3
    simp only [List.getElem?_toArray, List.getElem?_cons_zero, List.getElem?_cons_succ] at d0 d1 d2 d3
    have HR := Lib.hid hr0
    clear hr0
    cases hok : spOk s.data.toList ct qt
    · have HOk := Lib.hid hok
      clear hok
      go_wp2_with fail
      obtain ⟨hT6, hR6⟩ := req_set HR.out (.string ⟨#[]⟩) (.slice none 0 0) (.string ⟨#[]⟩) (.bool false)
      have p0 := hR6.cell 0
      have p1 := hR6.cell 1
      have p2 := hR6.cell 2
      have p3 := hR6.cell 3
      simp only [List.getElem?_toArray, List.getElem?_cons_zero, List.getElem?_cons_succ] at p0 p1 p2 p3
      refine bodyPost_ret (v := .tuple #[.agg #[.string ⟨#[]⟩, .slice none 0 0, .string ⟨#[]⟩, .bool false], .bool false, .int .i64 1]) (by simp [results, Tryd.results20, go_sem, p0, p1, p2, p3]) rfl ⟨SpOut.none_ (by unfold spI; rw [HOk.out]; rfl) (by unfold spE; rw [HOk.out]; rfl), Turn.below HB0.out hT6 HB0.out.size (fun i e => by rw [e]; exact Nat.le_refl _)⟩
    · have HOk := Lib.hid hok
      clear hok
      go_upto_region 3 with fail
      go_cut [44] (fun v44 wx => v44 = .bool (!isCt s.data.toList ct qt) ∧ wx = wc)
      case first =>
        clear d0 d1 d2 d3 hf0 hf1 hf2 hf3
        by_cases h0 : s.size = 0
        · have e : s = ⟨#[]⟩ := by
            obtain ⟨⟨l⟩⟩ := s
            have : l = [] := List.length_eq_zero_iff.1 h0
            subst this; rfl
          subst e
          go_wp2_with fail
          go_meet
          case rel => exact ⟨rfl, rfl⟩
        · obtain ⟨he1, he2⟩ := toList_ne h0
          have h00 : 0 < s.size := by omega
          have hi : Hid ((!isCt s.data.toList ct qt) = (((s[0].toNat : Int) != (ct.toNat : Int)) && ((s[0].toNat : Int) != (qt.toNat : Int)))) := Lib.hid (by
            rw [← data_dr, dr_cons h00, ← u8_neB, ← u8_neB]
            show (!(decide (s[0] = ct) || decide (s[0] = qt))) = _
            rw [Bool.not_or])
          cases h1 : ((s[0].toNat : Int) != (ct.toNat : Int))
          · have H1 := Lib.hid h1
            go_wp2_with fail
            go_meet
            case rel => exact ⟨by rw [hi.out, H1.out]; rfl, rfl⟩
          · have H1 := Lib.hid h1
            go_wp2_with fail
            go_meet
            case rel => exact ⟨by rw [hi.out, H1.out]; rfl, rfl⟩
      case rest =>
        obtain ⟨rfl, rfl⟩ := hcut
        cases hic : isCt s.data.toList ct qt
        · have HIc := Lib.hid hic
          clear hic
          go_wp2_with fail
          obtain ⟨hT6, hR6⟩ := req_set HR.out (.string ⟨#[]⟩) (.slice none 0 0) (.string ⟨#[]⟩) (.bool false)
          have p0 := hR6.cell 0
          have p1 := hR6.cell 1
          have p2 := hR6.cell 2
          have p3 := hR6.cell 3
          simp only [List.getElem?_toArray, List.getElem?_cons_zero, List.getElem?_cons_succ] at p0 p1 p2 p3
          refine bodyPost_ret (v := .tuple #[.agg #[.string ⟨#[]⟩, .slice none 0 0, .string ⟨#[]⟩, .bool false], .bool false, .int .i64 0]) (by simp [results, Tryd.results20, go_sem, p0, p1, p2, p3]) rfl ⟨SpOut.none_ (by unfold spI; rw [HIc.out, Bool.and_false]) (by unfold spE; rw [HOk.out]; rfl), Turn.below HB0.out hT6 HB0.out.size (fun i e => by rw [e]; exact Nat.le_refl _)⟩
        · have HIc := Lib.hid hic
          clear hic
          have h00 : 0 < s.size := by
            rcases Nat.eq_zero_or_pos s.size with h | h
            · have e := HIc.out
              rw [← data_dr, dr_end (by omega)] at e
              cases e
            · exact h
          clear d0 d1 d2 d3 hf0 hf1 hf2 hf3
          go_upto_region 7 with (first
            | (go_at_call 23
               refine (HSk.out 1 h00 _).mono ?_
               rintro e w1 ⟨⟨fr, rfl, hf1, hf2, hf3⟩, rfl⟩
               have HF := Lib.hid hf3
               clear hf3)
            | (go_at_call 45
               refine (HWd.out fr hf2 _).mono ?_
               rintro e w1 ⟨⟨tn, rfl, ht1, ht2, ht3, ht4⟩, rfl⟩
               have HT3 := Lib.hid ht3
               have HT4 := Lib.hid ht4
               clear ht3 ht4))
          rename World => wa
          go_cut [11] (fun v11 wx => v11 = .pointer (some ⟨wa.heap.size, 0, none⟩) ∧ Blk wx wa.heap.size 46 #[.string (s.extract fr tn), .slice none 0 0, .string ⟨#[]⟩, .bool ((s[0].toNat : Int) == (qt.toNat : Int))] ∧ Below wa.heap.size wa wx)
          case first =>
            go_region
            all_goals go_wp2
            all_goals go_meet
            all_goals exact ⟨rfl, (Blk.new wa _ _).drew, ((Below.refl _ _).alloc (Nat.le_refl _) _).drew⟩
          case rest =>
            obtain ⟨rfl, hb, hbc⟩ := hcut
            generalize hq : ((s[0].toNat : Int) == (qt.toNat : Int)) = q at *
            have HQ := Lib.hid hq
            clear hq
            rename World => wb
            go_upto_if 63 with fail
            go_cut [9] (fun v9 wx => v9 = .int .i64 fr ∧ ∃ r : ByteArray, r = baO ((wdR (skL (dr s 1))).drop 1) ∧ r.size ≤ 1000000 ∧ Blk wx wa.heap.size 46 #[.string (s.extract fr tn), .slice none 0 0, .string r, .bool q] ∧ Below wa.heap.size wa wx)
            case first =>
              have hg0 := hb.cell 2
              have hg1 := hb.frozen 2
              simp only [List.getElem?_toArray, List.getElem?_cons_zero, List.getElem?_cons_succ] at hg0
              have HBb := Lib.hid hb
              have HBc := Lib.hid hbc
              clear hb hbc
              by_cases hlt : tn < s.size
              · go_wp2_with fail
                go_meet
                case rel =>
                  refine ⟨rfl, s.extract (tn + 1) s.size, ?_, ?_, ?_, ?_⟩
                  · refine baO_of ?_
                    rw [← HF.out, ← HT3.out, dr_drop, ext_dr, List.take_of_length_le (by rw [dr_len]; exact Nat.le_refl _)]
                  · rw [size_len, ext_dr, List.length_take, dr_len]; omega
                  · exact blk_set HBb.out _
                  · exact Turn.below HBc.out (turn_set _ _ _ _) HBc.out.size (fun i e => by rw [e]; exact Nat.le_refl _)
              · go_wp2_with fail
                go_meet
                case rel =>
                  refine ⟨rfl, ⟨#[]⟩, ?_, Nat.zero_le _, HBb.out, HBc.out⟩
                  rw [← HF.out, ← HT3.out, dr_end (i := tn) (by omega)]
                  rfl
            case rest =>
              obtain ⟨rfl, r, hr, hrz, hb2, hbc2⟩ := hcut
              rename World => wd
              have hg0 := hb2.cell 2
              simp only [List.getElem?_toArray, List.getElem?_cons_zero, List.getElem?_cons_succ] at hg0
              have HB2 := Lib.hid hb2
              have HBc2 := Lib.hid hbc2
              have HR0 := Lib.hid hr
              clear hb2 hbc2 hb hbc hr
              go_wp2_with (go_at_call 13
                           refine (HWs.out r hrz _).mono ?_
                           rintro e w1 ⟨v1, rfl, hv1, hb1⟩
                           obtain ⟨Av, cv, rfl, q1, q2, q3⟩ := hv1
                           have HV := Lib.hid (show SsAt (fun k => wd.heap.size ≤ k ∧ k < w1.heap.size) w1 (.slice Av (wdsT r).length cv) (wdsT r) from ⟨Av, cv, rfl, q1, q2, q3⟩)
                           have HB1 := Lib.hid hb1
                           have hbx := HB2.out.below hb1 HB2.out.lt
                           have hx1 := hbx.cell 1
                           have hg1 := hbx.frozen 1
                           have hby := blk_set (o := 1) hbx (.slice Av (wdsT r).length cv)
                           have y0 := hby.cell 0
                           have y1 := hby.cell 1
                           have y2 := hby.cell 2
                           have y3 := hby.cell 3
                           have hTy := turn_set w1 wa.heap.size 1 (.slice Av (wdsT r).length cv)
                           have hRw : Blk w1 w.heap.size 46 reqZ := (HRb.out.below (HBc2.out.trans (hb1.mono HBc2.out.size)) HRb.out.lt)
                           have hRy := hTy.blk hRw (by have := HS0.out; omega)
                           unfold reqZ at hRy
                           have z0 := hRy.cell 0
                           have z1 := hRy.cell 1
                           have z2 := hRy.cell 2
                           have z3 := hRy.cell 3
                           have f0 := hRy.frozen 0
                           have f1 := hRy.frozen 1
                           have f2 := hRy.frozen 2
                           have f3 := hRy.frozen 3
                           simp only [List.setIfInBounds_toArray, List.set_cons_succ, List.set_cons_zero, List.getElem?_toArray, List.getElem?_cons_zero, List.getElem?_cons_succ] at y0 y1 y2 y3 z0 z1 z2 z3 hx1
                           have HRY := Lib.hid hRy
                           have HTY := Lib.hid hTy
                           clear hb1 hbx hby hRw hRy hTy q1 q2 q3)
              obtain ⟨hT6, hR6⟩ := req_set HRY.out (.string (s.extract fr tn)) (.slice Av (wdsT r).length cv) (.string r) (.bool q)
              have p0 := hR6.cell 0
              have p1 := hR6.cell 1
              have p2 := hR6.cell 2
              have p3 := hR6.cell 3
              simp only [List.getElem?_toArray, List.getElem?_cons_zero, List.getElem?_cons_succ] at p0 p1 p2 p3
              have hT : Turn (fun i => i = wa.heap.size ∨ i = w.heap.size) w1 _ := (HTY.out.mono (fun i e => Or.inl e)).trans hT6 (fun i _ e => Or.inr e)
              have hg := HB2.out.lt
              have hsz := HS0.out
              have hbw : Below w.heap.size w w1 := HB0.out.trans ((HBc2.out.mono (by omega)).trans (HB1.out.mono (by omega)))
              have hl : s.data.toList = s[0] :: dr s 1 := by rw [← data_dr]; exact dr_cons h00
              have hI : spI s.data.toList ct qt = true := by unfold spI; rw [HOk.out, HIc.out]; rfl
              have hE : spE s.data.toList ct qt = 0 := by unfold spE; rw [HOk.out]; rfl
              have hrr : spR s.data.toList ct qt = ⟨wdL (skL (dr s 1)), wdsL ((wdR (skL (dr s 1))).drop 1), (wdR (skL (dr s 1))).drop 1, q⟩ := by
                unfold spR
                rw [if_pos hI, hl]
                have e : rqOf (s[0] :: dr s 1) qt = ⟨wdL (skL (dr s 1)), wdsL ((wdR (skL (dr s 1))).drop 1), (wdR (skL (dr s 1))).drop 1, decide (s[0] = qt)⟩ := rfl
                rw [e, u8_eqB, HQ.out]
              refine bodyPost_ret (v := .tuple #[.agg #[.string (s.extract fr tn), .slice Av (wdsT r).length cv, .string r, .bool q], .bool true, .int .i64 0]) (by simp [results, Tryd.results20, go_sem, p0, p1, p2, p3]) rfl ⟨⟨.slice Av (wdsT r).length cv, ?_, ?_⟩, Turn.below hbw hT hbw.size (fun i e => by rcases e with e | e <;> omega)⟩
              · rw [hI, hE, hrr, baO_of (HT4.out.trans (by rw [HF.out])), HR0.out]
              · rw [hrr]
                have e : (wdsL ((wdR (skL (dr s 1))).drop 1)).map baO = wdsT r := by rw [wdsT_O, HR0.out]; rfl
                rw [e]
                refine HV.out.stay (Kept.of_turn hT (fun i hi e => by rcases e with e | e <;> omega)) (fun i hi => ⟨by omega, Nat.lt_of_lt_of_le hi.2 hT.size⟩)
end Go.Proofs.YtfcbpehgkpmniaaDoor
