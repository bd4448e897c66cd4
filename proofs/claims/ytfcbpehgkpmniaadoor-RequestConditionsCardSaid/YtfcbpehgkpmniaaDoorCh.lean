/- Walk of the code's readCondition. -/
import Derived.Test.YtfcbpehgkpmniaaDoorCf
import Derived.Test.YtfcbpehgkpmniaaDoorAk
namespace Go.Proofs.YtfcbpehgkpmniaaDoor
open Go.RowKit Go.Maps Go.WideMaps

def cdAgg (k : Int) (a b c : ByteArray) : Value := .agg #[.bool false, .int .u8 k, .string a, .string b, .string c, .string ⟨#[]⟩]
/-- What readCondition answers. -/
def RcOut (s : ByteArray) (ba bt i : Nat) (w : World) (e : Ending) (w' : World) : Prop :=
  (∃ k a b c, e = .returned (.tuple #[cdAgg k a b c, .bool false]) ∧ cdK (dr s i) = none ∧ Turn (· = ba) w w') ∨
  ∃ (k : UInt8) (a b c : ByteArray) (j : Nat), e = .returned (.tuple #[cdAgg (k.toNat : Int) a b c, .bool true]) ∧ j ≤ s.size ∧ cdK (dr s i) = some ⟨false, k, a.data.toList, b.data.toList, c.data.toList, skL (dr s j)⟩ ∧ CutAt w' ba bt s j ∧ Turn (· = ba) w w'
theorem cu_no1 {l : List UInt8} {c : UInt8} {t : List UInt8} (h : l = c :: t) (hb : blB c = false) : cuA (fun c => !blB c) 1 l = [c] ∧ cuB (fun c => !blB c) 1 l = t := by
  subst h
  rw [cu_cons, cu_rest, hb]
  exact ⟨by simp [(cu_zero (fun c => !blB c) t).1], by simp [(cu_zero (fun c => !blB c) t).2]⟩
theorem cu_no0 {l : List UInt8} (h : ∀ c t, l = c :: t → blB c = true) : cuA (fun c => !blB c) 1 l = [] := by
  cases l with
  | nil => rfl
  | cons c t => rw [cu_cons, h c t rfl]; rfl
theorem cu_tx {q : UInt8} {l : List UInt8} (h : l.length ≤ 2000) : (q ∉ l ∧ cuA (fun c => !decide (c = q)) 2000 l = l ∧ cuB (fun c => !decide (c = q)) 2000 l = []) ∨ ∃ a r, upTo q l = some (a, r) ∧ cuA (fun c => !decide (c = q)) 2000 l = a ∧ cuB (fun c => !decide (c = q)) 2000 l = q :: r := by
  rw [(cu_all h).1, (cu_all h).2]
  clear h
  induction l with
  | nil => exact .inl ⟨by simp, rfl, rfl⟩
  | cons c t ih =>
    by_cases e : c = q
    · subst e
      exact .inr ⟨[], t, by rw [upTo_cons, if_pos rfl], by simp, by simp⟩
    · have h1 : (c :: t).takeWhile (fun c => !decide (c = q)) = c :: t.takeWhile (fun c => !decide (c = q)) := by simp [e]
      have h2 : (c :: t).dropWhile (fun c => !decide (c = q)) = t.dropWhile (fun c => !decide (c = q)) := by simp [e]
      rw [h1, h2, upTo_cons, if_neg e]
      rcases ih with ⟨i1, i2, i3⟩ | ⟨a, r, i1, i2, i3⟩
      · exact .inl ⟨by simp only [List.mem_cons, not_or]; exact ⟨fun h => e h.symm, i1⟩, by rw [i2], i3⟩
      · exact .inr ⟨c :: a, r, by rw [i1], by rw [i2], i3⟩
theorem q_all {c : UInt8} {t A1 B1 B2 A3 B3 X B4 : List UInt8} (ht : t.length ≤ 2000) (h1 : A1 = cuA (fun x => !decide (x = c)) 2000 t) (h2 : B1 = cuB (fun x => !decide (x = c)) 2000 t) (h3 : B2 = cuB (fun _ => true) 1 B1) (h4 : A3 = cuA (fun x => !decide (x = c)) 2000 B2) (h5 : B3 = cuB (fun x => !decide (x = c)) 2000 B2) (h6 : X = cuA (fun _ => true) 1 B3) (h7 : B4 = cuB (fun _ => true) 1 B3) :
    (X = [] ∧ (upTo c t = none ∨ ∃ a r, upTo c t = some (a, r) ∧ upTo c r = none)) ∨ (X ≠ [] ∧ upTo c t = some (A1, B2) ∧ upTo c B2 = some (A3, B4)) := by
  rcases cu_tx (q := c) ht with ⟨n1, n2, n3⟩ | ⟨a, r, m1, m2, m3⟩
  · rw [n3] at h2
    rw [h2, (cu_nil _ _).2] at h3
    rw [h3, (cu_nil _ _).2] at h5
    rw [h5, (cu_nil _ _).1] at h6
    exact .inl ⟨h6, .inl (upTo_none n1)⟩
  · rw [m2] at h1
    rw [m3] at h2
    rw [h2, cu_rest, if_pos rfl, (cu_zero _ _).2] at h3
    have hl : r.length ≤ 2000 := by
      have := congrArg List.length (upTo_some m1).1
      rw [List.length_append, List.length_cons] at this
      omega
    rw [h3] at h4 h5
    rcases cu_tx (q := c) hl with ⟨n1, n2, n3⟩ | ⟨b, r2, k1, k2, k3⟩
    · rw [n3] at h5
      rw [h5, (cu_nil _ _).1] at h6
      exact .inl ⟨h6, .inr ⟨a, r, m1, upTo_none n1⟩⟩
    · rw [k2] at h4
      rw [k3] at h5
      rw [h5, cu_cons, if_pos rfl] at h6
      rw [h5, cu_rest, if_pos rfl, (cu_zero _ _).2] at h7
      refine .inr ⟨by rw [h6]; simp, by rw [h1, h3]; exact m1, by rw [h3, h4, h7]; exact k1⟩
theorem rc_end {wx w : World} {g ba bt j : Nat} {T : TypeId} {s : ByteArray} {k : Int} {a b c : ByteArray} (hb : Blk wx g T #[.bool false, .int .u8 k, .string a, .string b, .string c, .string ⟨#[]⟩]) (hC : CutAt wx ba bt s j) (hT : Turn (· = ba) w wx) (h1 : g ≠ ba) (h2 : g ≠ bt) (hz : w.heap.size ≤ g) :
    ∃ wy, wy = ((((((wx.setCell ⟨g, 0, none⟩ (.bool false)).setCell ⟨g, 1, none⟩ (.int .u8 k)).setCell ⟨g, 2, none⟩ (.string a)).setCell ⟨g, 3, none⟩ (.string b)).setCell ⟨g, 4, none⟩ (.string c)).setCell ⟨g, 5, none⟩ (.string ⟨#[]⟩)) ∧ Blk wy g T #[.bool false, .int .u8 k, .string a, .string b, .string c, .string ⟨#[]⟩] ∧ CutAt wy ba bt s j ∧ Turn (· = ba) w wy := by
  obtain ⟨hT6, hR6⟩ := cnd_set hb (.bool false) (.int .u8 k) (.string a) (.string b) (.string c) (.string ⟨#[]⟩)
  exact ⟨_, rfl, hR6, ⟨hT6.blk hC.1 (fun e => h1 e.symm), hT6.blk hC.2 (fun e => h2 e.symm)⟩, hT.trans hT6 (fun k hk e => by omega)⟩
theorem fst_one {F : ByteArray} {l : List UInt8} (h : F.data.toList = cuA (fun c => !blB c) 1 l) : (F = ⟨#[]⟩ ∧ cdK l = none) ∨ ∃ c t, l = c :: t ∧ blB c = false ∧ F = ⟨#[c]⟩ := by
  cases l with
  | nil => exact .inl ⟨ba_eq (by rw [h]; rfl), rfl⟩
  | cons c t =>
    cases hb : blB c
    · exact .inr ⟨c, t, rfl, hb, ba_eq (by rw [h, (cu_no1 rfl hb).1])⟩
    · exact .inl ⟨ba_eq (by rw [h, cu_no0 (fun c' t' e => by injection e with e1 e2; rw [← e1]; exact hb)]), by rw [cdK_cons, if_pos hb]⟩
set_option maxRecDepth 100000 in
set_option maxHeartbeats 8000000 in
/-- readCondition. -/
theorem cReadCond (s : ByteArray) (hs : s.size ≤ 2000) (ba bt i : Nat) (hi : i ≤ s.size) (w : World) (h : CutAt w ba bt s i) :
    Calls Tryd.prog 30 #[.func (.func 55) #[] #[.pointer (some ⟨ba, 0, none⟩), .pointer (some ⟨bt, 0, none⟩)]] w (RcOut s ba bt i w) := by
  obtain ⟨g, hg⟩ : ∃ g, g = w.heap.size := ⟨_, rfl⟩
  obtain ⟨w0, hw0⟩ : ∃ w0, w0 = w.alloc (.cells cndZ 33) := ⟨_, rfl⟩
  have hal := h.1.lt
  have htl := h.2.lt
  have HT0 : Hid (Turn (· = ba) w w0) := Lib.hid (by rw [hw0]; exact Turn.of_below ((Below.refl _ _).alloc (Nat.le_refl _) _))
  have HC0 : Hid (CutAt w0 ba bt s i) := Lib.hid (by rw [hw0]; exact ⟨h.1.alloc _, h.2.alloc _⟩)
  have HG0 : Hid (Blk w0 g 33 cndZ) := Lib.hid (by rw [hw0, hg]; exact Blk.new _ _ _)
  have HGa : Hid (g ≠ ba ∧ g ≠ bt) := Lib.hid ⟨by omega, by omega⟩
  have HGz : Hid (w.heap.size ≤ g) := Lib.hid (by omega)
  go_enter Tryd.func30, Tryd.ntmps30
  go_upto_region 1 with fail
  unfold cndZ at hw0
  rw [← hw0, ← hg]
  clear hw0 h hal htl hg
  go_upto_region 2 with (go_at_call 55
                         refine (cutWd 1 rfl (by omega) hs hi HC0.out).mono ?_
                         rintro e w1 ⟨j1, rfl, hij, hj1, hf, hd1, hc1, hT1⟩
                         have HFx := Lib.hid hf
                         have HD1 := Lib.hid hd1
                         have HC1 := Lib.hid (show CutAt (w1.alloc (.cells #[.string (s.extract i j1)] 9)) ba bt s j1 from ⟨hc1.1.alloc _, hc1.2.alloc _⟩)
                         have HT1 := Lib.hid ((HT0.out.trans hT1 (fun _ _ h => h)).trans (S2 := fun _ => False) (Turn.of_below ((Below.refl w1.heap.size w1).alloc (Nat.le_refl _) (.cells #[.string (s.extract i j1)] 9))) (fun _ _ h => h.elim))
                         have HG1 := Lib.hid ((hT1.blk HG0.out HGa.out.1).alloc (.cells #[.string (s.extract i j1)] 9))
                         have HQ1 := Lib.hid (Blk.new w1 9 #[.string (s.extract i j1)])
                         have HQz : Hid (w1.heap.size ≠ ba ∧ w1.heap.size ≠ g) := Lib.hid ⟨by have := hc1.1.lt; omega, by have := (hT1.blk HG0.out HGa.out.1).lt; omega⟩
                         clear hf hd1 hc1 hT1)
  obtain ⟨F, hF⟩ : ∃ F, F = s.extract i j1 := ⟨_, rfl⟩
  rw [← hF] at HC1 HT1 HG1 HQ1 ⊢
  generalize hqb : w1.heap.size = qb at *
  generalize w1.alloc (.cells #[.string F] 9) = wb at *
  clear hqb HT0 HC0 HG0
  have hq0 := HQ1.out.cell 0
  simp only [List.getElem?_toArray, List.getElem?_cons_zero] at hq0
  have hgf : ∀ k, wb.frozen? ⟨g, k, none⟩ = false := fun k => HG1.out.frozen k
  have gf0 := hgf 0
  have gf1 := hgf 1
  have gf2 := hgf 2
  have gf3 := hgf 3
  have gf4 := hgf 4
  have gf5 := hgf 5
  have hgc := HG1.out
  unfold cndZ at hgc
  have g0 := hgc.cell 0
  have g1 := hgc.cell 1
  have g2 := hgc.cell 2
  have g3 := hgc.cell 3
  have g4 := hgc.cell 4
  have g5 := hgc.cell 5
  simp only [List.getElem?_toArray, List.getElem?_cons_zero, List.getElem?_cons_succ] at g0 g1 g2 g3 g4 g5
  clear hgf hgc
  have HF := Lib.hid hF
  clear hF
  rcases fst_one (F := F) (l := dr s i) (by rw [HF.out]; exact HFx.out) with ⟨hFe, hK⟩ | ⟨c, t, hd, hbk, hFc⟩
  · subst hFe
    have HK := Lib.hid hK
    clear hK HF
    have hgc := HG1.out
    unfold cndZ at hgc
    have HGc := Lib.hid hgc
    clear hgc
    go_wp2_with fail
    obtain ⟨wy, hwy, hR6, hC6, hT6⟩ := rc_end HGc.out HC1.out HT1.out HGa.out.1 HGa.out.2 HGz.out
    rw [← hwy]
    have p0 := hR6.cell 0
    have p1 := hR6.cell 1
    have p2 := hR6.cell 2
    have p3 := hR6.cell 3
    have p4 := hR6.cell 4
    have p5 := hR6.cell 5
    simp only [List.getElem?_toArray, List.getElem?_cons_zero, List.getElem?_cons_succ] at p0 p1 p2 p3 p4 p5
    refine bodyPost_ret (v := .tuple #[.agg #[.bool false, .int .u8 0, .string ⟨#[]⟩, .string ⟨#[]⟩, .string ⟨#[]⟩, .string ⟨#[]⟩], .bool false]) (by simp [results, Tryd.results30, go_sem, p0, p1, p2, p3, p4, p5]) rfl ?_
    exact .inl ⟨_, _, _, _, rfl, HK.out, hT6⟩
  · have hsz1 : ((⟨#[c]⟩ : ByteArray).size : Int) = 1 := rfl
    have hb0 : ((⟨#[c]⟩ : ByteArray)[0]'(Nat.zero_lt_one)) = c := rfl
    subst hFc
    clear HF
    go_upto_region 5 with fail
    have HGk := Lib.hid (blk_set (o := 1) HG1.out (.int .u8 (c.toNat : Int)))
    have HCk : Hid (CutAt (wb.setCell ⟨g, 1, none⟩ (.int .u8 (c.toNat : Int))) ba bt s j1) := Lib.hid ⟨HC1.out.1.far (fun e => HGa.out.1 e.symm) _, HC1.out.2.far (fun e => HGa.out.2 e.symm) _⟩
    have HTk := Lib.hid (HT1.out.trans (S2 := (· = g)) (turn_set wb g 1 (.int .u8 (c.toNat : Int))) (fun k hk e => by have := HGz.out; omega))
    have HQk := Lib.hid (HQ1.out.far (p := ⟨g, 1, none⟩) HQz.out.2 (.int .u8 (c.toNat : Int)))
    have hdt : dr s j1 = t := by rw [HD1.out, (cu_no1 hd hbk).2]
    have HDt := Lib.hid hdt
    have HDs := Lib.hid hd
    have HBk := Lib.hid hbk
    unfold cndZ at HGk
    simp only [List.setIfInBounds_toArray, List.set_cons_succ, List.set_cons_zero] at HGk
    clear HG1 HC1 HT1 HQ1 HFx HD1 hd hbk hdt hq0 gf0 gf1 gf2 gf3 gf4 gf5 g0 g1 g2 g3 g4 g5
    generalize wb.setCell ⟨g, 1, none⟩ (.int .u8 (c.toNat : Int)) = wk at *
    have hq0 := HQk.out.cell 0
    have g0 := HGk.out.cell 0
    have g1 := HGk.out.cell 1
    have g2 := HGk.out.cell 2
    have g3 := HGk.out.cell 3
    have g4 := HGk.out.cell 4
    have g5 := HGk.out.cell 5
    simp only [List.getElem?_toArray, List.getElem?_cons_zero, List.getElem?_cons_succ] at g0 g1 g2 g3 g4 g5 hq0
    have gf0 := HGk.out.frozen 0
    have gf1 := HGk.out.frozen 1
    have gf2 := HGk.out.frozen 2
    have gf3 := HGk.out.frozen 3
    have gf4 := HGk.out.frozen 4
    have gf5 := HGk.out.frozen 5
    have HI := Lib.hid (fun w => Tryd.strings_Contains_one ⟨#[111, 101, 116, 110]⟩ c w)
    rw [idx_mem] at HI
    cases hA : ([111, 101, 116, 110] : List UInt8).contains c
    · have HI2 : Hid (∀ w, Calls Tryd.prog 37 #[.string ⟨#[111, 101, 116, 110]⟩, .string ⟨#[c]⟩] w fun e w' => e = .returned (.bool false) ∧ w' = w) := Lib.hid (by rw [← hA]; exact HI.out)
      have HAc : Hid (¬ (c.toNat = 111 ∨ c.toNat = 101 ∨ c.toNat = 116 ∨ c.toNat = 110)) := Lib.hid (fun h => by
        have : c ∈ ([111, 101, 116, 110] : List UInt8) := by
          simp only [List.mem_cons, List.not_mem_nil, or_false]
          rcases h with h | h | h | h
          · exact .inl (UInt8.toNat_inj.1 h)
          · exact .inr (.inl (UInt8.toNat_inj.1 h))
          · exact .inr (.inr (.inl (UInt8.toNat_inj.1 h)))
          · exact .inr (.inr (.inr (UInt8.toNat_inj.1 h)))
        rw [← List.contains_iff_mem, hA] at this
        cases this)
      clear hA HI
      cases h100 : (c == 100)
      · cases h114 : (c == 114)
        · have HDc : Hid (¬ (c.toNat = 100 ∨ c.toNat = 114)) := Lib.hid (fun h => by
            rcases h with h | h
            · exact absurd (UInt8.toNat_inj.1 (show c.toNat = (100 : UInt8).toNat from h)) (by simpa using h100)
            · exact absurd (UInt8.toNat_inj.1 (show c.toNat = (114 : UInt8).toNat from h)) (by simpa using h114))
          cases hq : quB c
          · have HQu := Lib.hid (fun w => cQuote c w)
            rw [hq] at HQu
            have HK := Lib.hid (cdK_x (t := t) HBk.out HAc.out HDc.out hq)
            clear hq
            go_upto_region 16 with (first
              | (go_at_call 37; refine (HI2.out _).mono ?_; rintro e w2 ⟨rfl, rfl⟩)
              | (go_at_call 56; refine (HQu.out _).mono ?_; rintro e w2 ⟨rfl, rfl⟩))
            go_region_with (go_at_call 55
                            refine (cutWd 2000 rfl (by omega) hs hj1 HCk.out.drew).mono ?_
                            rintro e w3 ⟨j2, rfl, hj12, hj2, hn, hr, hc3, hT3⟩
                            rw [(cu_wd (dr_le hs _)).1, HDt.out] at hn
                            rw [(cu_wd (dr_le hs _)).2, HDt.out] at hr
                            have HN := Lib.hid hn
                            have HR := Lib.hid hr
                            have HC3 := Lib.hid hc3
                            have HT3 := Lib.hid ((HTk.out.trans (S2 := fun _ => False) (Turn.of_below ((Below.refl _ _).drew)) (fun _ _ h => h.elim)).trans hT3 (fun _ _ h => h))
                            have hg3 := hT3.blk HGk.out.drew HGa.out.1
                            have hq3 := (hT3.blk HQk.out.drew HQz.out.1).cell 0
                            simp only [List.getElem?_toArray, List.getElem?_cons_zero] at hq3
                            have hxz : (s.extract j1 j2).size ≤ 2000 := by rw [size_len, ext_dr, List.length_take, dr_len]; omega
                            have a0 := hg3.cell 0
                            have a1 := hg3.cell 1
                            have a2 := hg3.cell 2
                            have a3 := hg3.cell 3
                            have a4 := hg3.cell 4
                            have a5 := hg3.cell 5
                            simp only [List.getElem?_toArray, List.getElem?_cons_zero, List.getElem?_cons_succ] at a0 a1 a2 a3 a4 a5
                            have af0 := hg3.frozen 0
                            have af1 := hg3.frozen 1
                            have af2 := hg3.frozen 2
                            have af3 := hg3.frozen 3
                            have af4 := hg3.frozen 4
                            have af5 := hg3.frozen 5
                            have hy := blk_set (o := 2) (blk_set (o := 1) hg3 (.int .u8 120)) (.string (⟨#[c]⟩ ++ s.extract j1 j2))
                            simp only [List.setIfInBounds_toArray, List.set_cons_succ, List.set_cons_zero] at hy
                            have y0 := hy.cell 0
                            have y1 := hy.cell 1
                            have y2 := hy.cell 2
                            have y3 := hy.cell 3
                            have y4 := hy.cell 4
                            have y5 := hy.cell 5
                            simp only [List.getElem?_toArray, List.getElem?_cons_zero, List.getElem?_cons_succ] at y0 y1 y2 y3 y4 y5
                            have yf0 := hy.frozen 0
                            have yf1 := hy.frozen 1
                            have yf2 := hy.frozen 2
                            have yf3 := hy.frozen 3
                            have yf4 := hy.frozen 4
                            have yf5 := hy.frozen 5
                            have HY := Lib.hid hy
                            clear hn hr hc3 hT3 hg3 hy)
            all_goals
              go_wp2_with fail
              have hC9 : CutAt ((w3.setCell ⟨g, 1, none⟩ (.int .u8 120)).setCell ⟨g, 2, none⟩ (.string (⟨#[c]⟩ ++ s.extract j1 j2))) ba bt s j2 := ⟨(HC3.out.1.far (fun e => HGa.out.1 e.symm) _).far (fun e => HGa.out.1 e.symm) _, (HC3.out.2.far (fun e => HGa.out.2 e.symm) _).far (fun e => HGa.out.2 e.symm) _⟩
              have hT9 : Turn (· = ba) w ((w3.setCell ⟨g, 1, none⟩ (.int .u8 120)).setCell ⟨g, 2, none⟩ (.string (⟨#[c]⟩ ++ s.extract j1 j2))) := (HT3.out.trans (S2 := (· = g)) (turn_set w3 g 1 _) (fun k hk e => by have := HGz.out; omega)).trans (S2 := (· = g)) (turn_set _ g 2 _) (fun k hk e => by have := HGz.out; omega)
              obtain ⟨wy, hwy, hR6, hC6, hT6⟩ := rc_end HY.out hC9 hT9 HGa.out.1 HGa.out.2 HGz.out
              rw [← hwy]
              have p0 := hR6.cell 0
              have p1 := hR6.cell 1
              have p2 := hR6.cell 2
              have p3 := hR6.cell 3
              have p4 := hR6.cell 4
              have p5 := hR6.cell 5
              simp only [List.getElem?_toArray, List.getElem?_cons_zero, List.getElem?_cons_succ] at p0 p1 p2 p3 p4 p5
              refine bodyPost_ret (v := .tuple #[.agg #[.bool false, .int .u8 120, .string (⟨#[c]⟩ ++ s.extract j1 j2), .string ⟨#[]⟩, .string ⟨#[]⟩, .string ⟨#[]⟩], .bool true]) (by simp [results, Tryd.results30, go_sem, p0, p1, p2, p3, p4, p5]) rfl ?_
              refine .inr ⟨120, _, _, _, j2, rfl, hj2, ?_, hC6, hT6⟩
              rw [HDs.out, HK.out, wdL_cons, wdR_cons, HBk.out, app_data, HN.out, HR.out]
              rfl
          · have HQu := Lib.hid (fun w => cQuote c w)
            rw [hq] at HQu
            have HK := Lib.hid (cdK_q (t := t) HBk.out HAc.out HDc.out hq)
            clear hq
            go_upto_region 12 with (first
              | (go_at_call 37; refine (HI2.out _).mono ?_; rintro e w2 ⟨rfl, rfl⟩)
              | (go_at_call 56; refine (HQu.out _).mono ?_; rintro e w2 ⟨rfl, rfl⟩))
            go_upto_region 13 with (go_at_call 55
                                    refine (cutTx c qb 2000 rfl HQk.out HQz.out.1 (by omega) hs hj1 HCk.out).mono ?_
                                    rintro e w3 ⟨j2, rfl, hj12, hj2, hn, hr, hc3, hT3⟩
                                    rw [HDt.out] at hn hr
                                    have HN1 := Lib.hid hn
                                    have HR1 := Lib.hid hr
                                    have HC3 := Lib.hid hc3
                                    have HT3 := Lib.hid (HTk.out.trans hT3 (fun _ _ h => h))
                                    have hg3 := hT3.blk HGk.out HGa.out.1
                                    have HQ3 := Lib.hid (hT3.blk HQk.out HQz.out.1)
                                    have a0 := hg3.cell 0
                                    have a1 := hg3.cell 1
                                    have a2 := hg3.cell 2
                                    have a3 := hg3.cell 3
                                    have a4 := hg3.cell 4
                                    have a5 := hg3.cell 5
                                    simp only [List.getElem?_toArray, List.getElem?_cons_zero, List.getElem?_cons_succ] at a0 a1 a2 a3 a4 a5
                                    have af0 := hg3.frozen 0
                                    have af1 := hg3.frozen 1
                                    have af2 := hg3.frozen 2
                                    have af3 := hg3.frozen 3
                                    have af4 := hg3.frozen 4
                                    have af5 := hg3.frozen 5
                                    have HG3 := Lib.hid hg3
                                    clear hn hr hc3 hT3 hg3)
            have hg4 := blk_set (o := 3) (blk_set (o := 1) HG3.out (.int .u8 39)) (.string (s.extract j1 j2))
            simp only [List.setIfInBounds_toArray, List.set_cons_succ, List.set_cons_zero] at hg4
            have HC4 : Hid (CutAt ((w3.setCell ⟨g, 1, none⟩ (.int .u8 39)).setCell ⟨g, 3, none⟩ (.string (s.extract j1 j2))) ba bt s j2) := Lib.hid ⟨(HC3.out.1.far (fun e => HGa.out.1 e.symm) _).far (fun e => HGa.out.1 e.symm) _, (HC3.out.2.far (fun e => HGa.out.2 e.symm) _).far (fun e => HGa.out.2 e.symm) _⟩
            have HT4 : Hid (Turn (· = ba) w ((w3.setCell ⟨g, 1, none⟩ (.int .u8 39)).setCell ⟨g, 3, none⟩ (.string (s.extract j1 j2)))) := Lib.hid ((HT3.out.trans (S2 := (· = g)) (turn_set w3 g 1 _) (fun k hk e => by have := HGz.out; omega)).trans (S2 := (· = g)) (turn_set _ g 3 _) (fun k hk e => by have := HGz.out; omega))
            have HQ4 : Hid (Blk ((w3.setCell ⟨g, 1, none⟩ (.int .u8 39)).setCell ⟨g, 3, none⟩ (.string (s.extract j1 j2))) qb 9 #[.string ⟨#[c]⟩]) := Lib.hid ((HQ3.out.far HQz.out.2 _).far HQz.out.2 _)
            have HG4 := Lib.hid hg4
            clear hg4 a0 a1 a2 a3 a4 a5 af0 af1 af2 af3 af4 af5
            clear g0 g1 g2 g3 g4 g5 gf0 gf1 gf2 gf3 gf4 gf5
            generalize (w3.setCell ⟨g, 1, none⟩ (.int .u8 39)).setCell ⟨g, 3, none⟩ (.string (s.extract j1 j2)) = w4 at *
            go_upto_region 14 with (go_at_call 55
                                    refine (cutAn 1 rfl (by omega) hs hj2 HC4.out).mono ?_
                                    rintro e w5 ⟨j3, rfl, hj23, hj3, _, hr, hc5, hT5⟩
                                    have HR2 := Lib.hid hr
                                    have HC5 := Lib.hid hc5
                                    have HT5 := Lib.hid (HT4.out.trans hT5 (fun _ _ h => h))
                                    have HG5 := Lib.hid (hT5.blk HG4.out HGa.out.1)
                                    have HQ5 := Lib.hid (hT5.blk HQ4.out HQz.out.1)
                                    clear hr hc5 hT5)
            go_upto_region 15 with (go_at_call 55
                                    refine (cutTx c qb 2000 rfl HQ5.out HQz.out.1 (by omega) hs hj3 HC5.out).mono ?_
                                    rintro e w6 ⟨j4, rfl, hj34, hj4, hn, hr, hc6, hT6⟩
                                    have HN3 := Lib.hid hn
                                    have HR3 := Lib.hid hr
                                    have HC6 := Lib.hid hc6
                                    have HT6 := Lib.hid (HT5.out.trans hT6 (fun _ _ h => h))
                                    have hg6 := hT6.blk HG5.out HGa.out.1
                                    have a0 := hg6.cell 0
                                    have a1 := hg6.cell 1
                                    have a2 := hg6.cell 2
                                    have a3 := hg6.cell 3
                                    have a4 := hg6.cell 4
                                    have a5 := hg6.cell 5
                                    simp only [List.getElem?_toArray, List.getElem?_cons_zero, List.getElem?_cons_succ] at a0 a1 a2 a3 a4 a5
                                    have af0 := hg6.frozen 0
                                    have af1 := hg6.frozen 1
                                    have af2 := hg6.frozen 2
                                    have af3 := hg6.frozen 3
                                    have af4 := hg6.frozen 4
                                    have af5 := hg6.frozen 5
                                    have HG6 := Lib.hid hg6
                                    clear hn hr hc6 hT6 hg6)
            have hg7 := blk_set (o := 4) HG6.out (.string (s.extract j3 j4))
            simp only [List.setIfInBounds_toArray, List.set_cons_succ, List.set_cons_zero] at hg7
            have HC7 : Hid (CutAt (w6.setCell ⟨g, 4, none⟩ (.string (s.extract j3 j4))) ba bt s j4) := Lib.hid ⟨HC6.out.1.far (fun e => HGa.out.1 e.symm) _, HC6.out.2.far (fun e => HGa.out.2 e.symm) _⟩
            have HT7 : Hid (Turn (· = ba) w (w6.setCell ⟨g, 4, none⟩ (.string (s.extract j3 j4)))) := Lib.hid (HT6.out.trans (S2 := (· = g)) (turn_set w6 g 4 _) (fun k hk e => by have := HGz.out; omega))
            have HG7 := Lib.hid hg7
            clear hg7 a0 a1 a2 a3 a4 a5 af0 af1 af2 af3 af4 af5
            generalize w6.setCell ⟨g, 4, none⟩ (.string (s.extract j3 j4)) = w7 at *
            have b0 := HG7.out.cell 0
            have b1 := HG7.out.cell 1
            have b2 := HG7.out.cell 2
            have b3 := HG7.out.cell 3
            have b4 := HG7.out.cell 4
            have b5 := HG7.out.cell 5
            simp only [List.getElem?_toArray, List.getElem?_cons_zero, List.getElem?_cons_succ] at b0 b1 b2 b3 b4 b5
            have bf0 := HG7.out.frozen 0
            have bf1 := HG7.out.frozen 1
            have bf2 := HG7.out.frozen 2
            have bf3 := HG7.out.frozen 3
            have bf4 := HG7.out.frozen 4
            have bf5 := HG7.out.frozen 5
            go_region_with (go_at_call 55
                            refine (cutAn 1 rfl (by omega) hs hj4 HC7.out.drew).mono ?_
                            rintro e w8 ⟨j5, rfl, hj45, hj5, hn, hr, hc8, hT8⟩
                            have HN4 := Lib.hid hn
                            have HR4 := Lib.hid hr
                            have HC8 := Lib.hid hc8
                            have HT8 := Lib.hid ((HT7.out.trans (S2 := fun _ => False) (Turn.of_below ((Below.refl _ _).drew)) (fun _ _ h => h.elim)).trans hT8 (fun _ _ h => h))
                            have hg8 := hT8.blk HG7.out.drew HGa.out.1
                            have a0 := hg8.cell 0
                            have a1 := hg8.cell 1
                            have a2 := hg8.cell 2
                            have a3 := hg8.cell 3
                            have a4 := hg8.cell 4
                            have a5 := hg8.cell 5
                            simp only [List.getElem?_toArray, List.getElem?_cons_zero, List.getElem?_cons_succ] at a0 a1 a2 a3 a4 a5
                            have af0 := hg8.frozen 0
                            have af1 := hg8.frozen 1
                            have af2 := hg8.frozen 2
                            have af3 := hg8.frozen 3
                            have af4 := hg8.frozen 4
                            have af5 := hg8.frozen 5
                            have HG8 := Lib.hid hg8
                            clear hn hr hc8 hT8 hg8)
            all_goals
              have hqa := q_all (c := c) (t := t) (by have := dr_le hs j1; rw [HDt.out] at this; exact this) HN1.out HR1.out HR2.out HN3.out HR3.out HN4.out HR4.out
              rcases hqa with ⟨hx, hno⟩ | ⟨hx, hu1, hu2⟩
              · have hem : (s.extract j4 j5).toList.isEmpty = true := by rw [ByteArray.toList_eq, hx]; rfl
                have HKn : Hid (cdK (dr s i) = none) := Lib.hid (by
                  rw [HDs.out, HK.out]
                  rcases hno with h | ⟨a, r, h1, h2⟩
                  · rw [h]
                  · rw [h1]; simp only [h2])
                clear hx hno
                go_wp2_with fail
                obtain ⟨wy, hwy, hR6, hC6, hT6⟩ := rc_end HG8.out HC8.out HT8.out HGa.out.1 HGa.out.2 HGz.out
                rw [← hwy]
                have p0 := hR6.cell 0
                have p1 := hR6.cell 1
                have p2 := hR6.cell 2
                have p3 := hR6.cell 3
                have p4 := hR6.cell 4
                have p5 := hR6.cell 5
                simp only [List.getElem?_toArray, List.getElem?_cons_zero, List.getElem?_cons_succ] at p0 p1 p2 p3 p4 p5
                refine bodyPost_ret (v := .tuple #[.agg #[.bool false, .int .u8 39, .string ⟨#[]⟩, .string (s.extract j1 j2), .string (s.extract j3 j4), .string ⟨#[]⟩], .bool false]) (by simp [results, Tryd.results30, go_sem, p0, p1, p2, p3, p4, p5, hem]) rfl ?_
                exact .inl ⟨_, _, _, _, rfl, HKn.out, hT6⟩
              · have hne := toList_ne (s := s.extract j4 j5) (fun e => hx (List.eq_nil_of_length_eq_zero (by rw [← size_len]; exact e)))
                have hem := hne.1
                have HHm := Lib.hid hne.2
                have HKs : Hid (cdK (dr s i) = some ⟨false, 39, [], (s.extract j1 j2).data.toList, (s.extract j3 j4).data.toList, skL (dr s j5)⟩) := Lib.hid (by
                  rw [HDs.out, HK.out, hu1]
                  simp only [hu2])
                clear hx hu1 hu2 hne
                go_wp2_with fail
                obtain ⟨wy, hwy, hR6, hC6, hT6⟩ := rc_end HG8.out HC8.out HT8.out HGa.out.1 HGa.out.2 HGz.out
                rw [← hwy]
                have p0 := hR6.cell 0
                have p1 := hR6.cell 1
                have p2 := hR6.cell 2
                have p3 := hR6.cell 3
                have p4 := hR6.cell 4
                have p5 := hR6.cell 5
                simp only [List.getElem?_toArray, List.getElem?_cons_zero, List.getElem?_cons_succ] at p0 p1 p2 p3 p4 p5
                refine bodyPost_ret (v := .tuple #[.agg #[.bool false, .int .u8 39, .string ⟨#[]⟩, .string (s.extract j1 j2), .string (s.extract j3 j4), .string ⟨#[]⟩], .bool true]) (by simp [results, Tryd.results30, go_sem, p0, p1, p2, p3, p4, p5, hem]) rfl ?_
                exact .inr ⟨39, _, _, _, j5, rfl, hj5, HKs.out, hC6, hT6⟩
        · have hDc : c.toNat = 100 ∨ c.toNat = 114 := .inr (by rw [show c = 114 by simpa using h114]; rfl)
          have HDc : Hid (c.toNat = 100 ∨ c.toNat = 114) := Lib.hid hDc
          go_upto_region 9 with (first
            | (go_at_call 37; refine (HI2.out _).mono ?_; rintro e w2 ⟨rfl, rfl⟩)
            | (go_at_call 55
               refine (cutWd 2000 rfl (by omega) hs hj1 HCk.out).mono ?_
               rintro e w3 ⟨j2, rfl, hj12, hj2, hn, hr, hc3, hT3⟩
               rw [(cu_wd (dr_le hs _)).1, HDt.out] at hn
               rw [(cu_wd (dr_le hs _)).2, HDt.out] at hr
               have HN := Lib.hid hn
               have HR := Lib.hid hr
               have HC3 := Lib.hid hc3
               have HT3 := Lib.hid (HTk.out.trans hT3 (fun _ _ h => h))
               have hg3 := hT3.blk HGk.out HGa.out.1
               have HG3 := Lib.hid hg3
               have gg2 := hg3.frozen 2
               have gc2 := hg3.cell 2
               simp only [List.getElem?_toArray, List.getElem?_cons_zero, List.getElem?_cons_succ] at gc2
               clear hn hr hc3 hT3 hg3))
          have hg3 := blk_set (o := 2) HG3.out (.string (s.extract j1 j2))
          have HC4 : Hid (CutAt (w3.setCell ⟨g, 2, none⟩ (.string (s.extract j1 j2))) ba bt s j2) := Lib.hid ⟨HC3.out.1.far (fun e => HGa.out.1 e.symm) _, HC3.out.2.far (fun e => HGa.out.2 e.symm) _⟩
          have HT4 := Lib.hid (HT3.out.trans (S2 := (· = g)) (turn_set w3 g 2 (.string (s.extract j1 j2))) (fun k hk e => by have := HGz.out; omega))
          simp only [List.setIfInBounds_toArray, List.set_cons_succ, List.set_cons_zero] at hg3
          clear gc2 gg2
          clear g0 g1 g2 g3 g4 g5 gf0 gf1 gf2 gf3 gf4 gf5
          generalize w3.setCell ⟨g, 2, none⟩ (.string (s.extract j1 j2)) = w4 at *
          have g0 := hg3.cell 0
          have g1 := hg3.cell 1
          have g2 := hg3.cell 2
          have g3 := hg3.cell 3
          have g4 := hg3.cell 4
          have g5 := hg3.cell 5
          simp only [List.getElem?_toArray, List.getElem?_cons_zero, List.getElem?_cons_succ] at g0 g1 g2 g3 g4 g5
          have gf0 := hg3.frozen 0
          have gf1 := hg3.frozen 1
          have gf2 := hg3.frozen 2
          have gf3 := hg3.frozen 3
          have gf4 := hg3.frozen 4
          have gf5 := hg3.frozen 5
          have HG4 := Lib.hid hg3
          clear hg3
          by_cases hz : (s.extract j1 j2).size = 0
          · have hwl : wdL t = [] := by
              rw [← HN.out]
              exact List.eq_nil_of_length_eq_zero (by rw [← size_len]; exact hz)
            have HK := Lib.hid (show cdK (dr s i) = none by rw [HDs.out, cdK_two HBk.out HDc.out, if_pos hwl])
            have hem : (s.extract j1 j2).toList.isEmpty = true := by rw [ByteArray.toList_eq, HN.out, hwl]; rfl
            clear hwl
            go_wp2_with fail
            obtain ⟨wy, hwy, hR6, hC6, hT6⟩ := rc_end HG4.out HC4.out HT4.out HGa.out.1 HGa.out.2 HGz.out
            rw [← hwy]
            have p0 := hR6.cell 0
            have p1 := hR6.cell 1
            have p2 := hR6.cell 2
            have p3 := hR6.cell 3
            have p4 := hR6.cell 4
            have p5 := hR6.cell 5
            simp only [List.getElem?_toArray, List.getElem?_cons_zero, List.getElem?_cons_succ] at p0 p1 p2 p3 p4 p5
            refine bodyPost_ret (v := .tuple #[.agg #[.bool false, .int .u8 (c.toNat : Int), .string (s.extract j1 j2), .string ⟨#[]⟩, .string ⟨#[]⟩, .string ⟨#[]⟩], .bool false]) (by simp [results, Tryd.results30, go_sem, p0, p1, p2, p3, p4, p5]) rfl ?_
            exact .inl ⟨_, _, _, _, rfl, HK.out, hT6⟩
          · have hem := (toList_ne hz).1
            have HHm := Lib.hid (toList_ne hz).2
            have hwl : wdL t ≠ [] := by
              intro e
              rw [← HN.out] at e
              exact hz (by rw [size_len, e]; rfl)
            have HK := Lib.hid (show cdK (dr s i) = some ⟨false, c, (s.extract j1 j2).data.toList, [], [], skL (dr s j2)⟩ by rw [HDs.out, cdK_two HBk.out HDc.out, if_neg hwl, HN.out, HR.out])
            clear hwl
            go_wp2_with fail
            obtain ⟨wy, hwy, hR6, hC6, hT6⟩ := rc_end HG4.out HC4.out HT4.out HGa.out.1 HGa.out.2 HGz.out
            rw [← hwy]
            have p0 := hR6.cell 0
            have p1 := hR6.cell 1
            have p2 := hR6.cell 2
            have p3 := hR6.cell 3
            have p4 := hR6.cell 4
            have p5 := hR6.cell 5
            simp only [List.getElem?_toArray, List.getElem?_cons_zero, List.getElem?_cons_succ] at p0 p1 p2 p3 p4 p5
            refine bodyPost_ret (v := .tuple #[.agg #[.bool false, .int .u8 (c.toNat : Int), .string (s.extract j1 j2), .string ⟨#[]⟩, .string ⟨#[]⟩, .string ⟨#[]⟩], .bool true]) (by simp [results, Tryd.results30, go_sem, p0, p1, p2, p3, p4, p5]) rfl ?_
            exact .inr ⟨c, _, _, _, j2, rfl, hj2, HK.out, hC6, hT6⟩
      · have hDc : c.toNat = 100 ∨ c.toNat = 114 := .inl (by rw [show c = 100 by simpa using h100]; rfl)
        have HDc : Hid (c.toNat = 100 ∨ c.toNat = 114) := Lib.hid hDc
        go_upto_region 9 with (first
          | (go_at_call 37; refine (HI2.out _).mono ?_; rintro e w2 ⟨rfl, rfl⟩)
          | (go_at_call 55
             refine (cutWd 2000 rfl (by omega) hs hj1 HCk.out).mono ?_
             rintro e w3 ⟨j2, rfl, hj12, hj2, hn, hr, hc3, hT3⟩
             rw [(cu_wd (dr_le hs _)).1, HDt.out] at hn
             rw [(cu_wd (dr_le hs _)).2, HDt.out] at hr
             have HN := Lib.hid hn
             have HR := Lib.hid hr
             have HC3 := Lib.hid hc3
             have HT3 := Lib.hid (HTk.out.trans hT3 (fun _ _ h => h))
             have hg3 := hT3.blk HGk.out HGa.out.1
             have HG3 := Lib.hid hg3
             have gg2 := hg3.frozen 2
             have gc2 := hg3.cell 2
             simp only [List.getElem?_toArray, List.getElem?_cons_zero, List.getElem?_cons_succ] at gc2
             clear hn hr hc3 hT3 hg3))
        have hg3 := blk_set (o := 2) HG3.out (.string (s.extract j1 j2))
        have HC4 : Hid (CutAt (w3.setCell ⟨g, 2, none⟩ (.string (s.extract j1 j2))) ba bt s j2) := Lib.hid ⟨HC3.out.1.far (fun e => HGa.out.1 e.symm) _, HC3.out.2.far (fun e => HGa.out.2 e.symm) _⟩
        have HT4 := Lib.hid (HT3.out.trans (S2 := (· = g)) (turn_set w3 g 2 (.string (s.extract j1 j2))) (fun k hk e => by have := HGz.out; omega))
        simp only [List.setIfInBounds_toArray, List.set_cons_succ, List.set_cons_zero] at hg3
        clear gc2 gg2
        clear g0 g1 g2 g3 g4 g5 gf0 gf1 gf2 gf3 gf4 gf5
        generalize w3.setCell ⟨g, 2, none⟩ (.string (s.extract j1 j2)) = w4 at *
        have g0 := hg3.cell 0
        have g1 := hg3.cell 1
        have g2 := hg3.cell 2
        have g3 := hg3.cell 3
        have g4 := hg3.cell 4
        have g5 := hg3.cell 5
        simp only [List.getElem?_toArray, List.getElem?_cons_zero, List.getElem?_cons_succ] at g0 g1 g2 g3 g4 g5
        have gf0 := hg3.frozen 0
        have gf1 := hg3.frozen 1
        have gf2 := hg3.frozen 2
        have gf3 := hg3.frozen 3
        have gf4 := hg3.frozen 4
        have gf5 := hg3.frozen 5
        have HG4 := Lib.hid hg3
        clear hg3
        by_cases hz : (s.extract j1 j2).size = 0
        · have hwl : wdL t = [] := by
            rw [← HN.out]
            exact List.eq_nil_of_length_eq_zero (by rw [← size_len]; exact hz)
          have HK := Lib.hid (show cdK (dr s i) = none by rw [HDs.out, cdK_two HBk.out HDc.out, if_pos hwl])
          have hem : (s.extract j1 j2).toList.isEmpty = true := by rw [ByteArray.toList_eq, HN.out, hwl]; rfl
          clear hwl
          go_wp2_with fail
          obtain ⟨wy, hwy, hR6, hC6, hT6⟩ := rc_end HG4.out HC4.out HT4.out HGa.out.1 HGa.out.2 HGz.out
          rw [← hwy]
          have p0 := hR6.cell 0
          have p1 := hR6.cell 1
          have p2 := hR6.cell 2
          have p3 := hR6.cell 3
          have p4 := hR6.cell 4
          have p5 := hR6.cell 5
          simp only [List.getElem?_toArray, List.getElem?_cons_zero, List.getElem?_cons_succ] at p0 p1 p2 p3 p4 p5
          refine bodyPost_ret (v := .tuple #[.agg #[.bool false, .int .u8 (c.toNat : Int), .string (s.extract j1 j2), .string ⟨#[]⟩, .string ⟨#[]⟩, .string ⟨#[]⟩], .bool false]) (by simp [results, Tryd.results30, go_sem, p0, p1, p2, p3, p4, p5]) rfl ?_
          exact .inl ⟨_, _, _, _, rfl, HK.out, hT6⟩
        · have hem := (toList_ne hz).1
          have HHm := Lib.hid (toList_ne hz).2
          have hwl : wdL t ≠ [] := by
            intro e
            rw [← HN.out] at e
            exact hz (by rw [size_len, e]; rfl)
          have HK := Lib.hid (show cdK (dr s i) = some ⟨false, c, (s.extract j1 j2).data.toList, [], [], skL (dr s j2)⟩ by rw [HDs.out, cdK_two HBk.out HDc.out, if_neg hwl, HN.out, HR.out])
          clear hwl
          go_wp2_with fail
          obtain ⟨wy, hwy, hR6, hC6, hT6⟩ := rc_end HG4.out HC4.out HT4.out HGa.out.1 HGa.out.2 HGz.out
          rw [← hwy]
          have p0 := hR6.cell 0
          have p1 := hR6.cell 1
          have p2 := hR6.cell 2
          have p3 := hR6.cell 3
          have p4 := hR6.cell 4
          have p5 := hR6.cell 5
          simp only [List.getElem?_toArray, List.getElem?_cons_zero, List.getElem?_cons_succ] at p0 p1 p2 p3 p4 p5
          refine bodyPost_ret (v := .tuple #[.agg #[.bool false, .int .u8 (c.toNat : Int), .string (s.extract j1 j2), .string ⟨#[]⟩, .string ⟨#[]⟩, .string ⟨#[]⟩], .bool true]) (by simp [results, Tryd.results30, go_sem, p0, p1, p2, p3, p4, p5]) rfl ?_
          exact .inr ⟨c, _, _, _, j2, rfl, hj2, HK.out, hC6, hT6⟩
    · have HI2 : Hid (∀ w, Calls Tryd.prog 37 #[.string ⟨#[111, 101, 116, 110]⟩, .string ⟨#[c]⟩] w fun e w' => e = .returned (.bool true) ∧ w' = w) := Lib.hid (by rw [← hA]; exact HI.out)
      have HAc : Hid (c.toNat = 111 ∨ c.toNat = 101 ∨ c.toNat = 116 ∨ c.toNat = 110) := Lib.hid (by
        rw [List.contains_iff_mem] at hA
        simp only [List.mem_cons, List.not_mem_nil, or_false] at hA
        rcases hA with rfl | rfl | rfl | rfl <;> decide)
      clear hA HI
      go_wp2_with (go_at_call 37; refine (HI2.out _).mono ?_; rintro e w2 ⟨rfl, rfl⟩)
      obtain ⟨wy, hwy, hR6, hC6, hT6⟩ := rc_end HGk.out HCk.out HTk.out HGa.out.1 HGa.out.2 HGz.out
      rw [← hwy]
      have p0 := hR6.cell 0
      have p1 := hR6.cell 1
      have p2 := hR6.cell 2
      have p3 := hR6.cell 3
      have p4 := hR6.cell 4
      have p5 := hR6.cell 5
      simp only [List.getElem?_toArray, List.getElem?_cons_zero, List.getElem?_cons_succ] at p0 p1 p2 p3 p4 p5
      refine bodyPost_ret (v := .tuple #[.agg #[.bool false, .int .u8 (c.toNat : Int), .string ⟨#[]⟩, .string ⟨#[]⟩, .string ⟨#[]⟩, .string ⟨#[]⟩], .bool true]) (by simp [results, Tryd.results30, go_sem, p0, p1, p2, p3, p4, p5]) rfl ?_
      exact .inr ⟨c, _, _, _, j1, rfl, hj1, by rw [HDs.out, cdK_one HBk.out HAc.out, HDt.out], hC6, hT6⟩
end Go.Proofs.YtfcbpehgkpmniaaDoor
