/- Walk of the document's Condition. -/
import Derived.Test.YtfcbpehgkpmniaaDoorAi
import Derived.Test.YtfcbpehgkpmniaaDoorAj
import Derived.Deep.LoopGhost
namespace Go.Proofs.YtfcbpehgkpmniaaDoor
open Go.RowKit Go.Maps Go.WideMaps

/-- What Condition answers. -/
def cdR (l : List UInt8) : Option Cnd := if lineB l then cdL l else none
def cdEr (l : List UInt8) : Int := if lineB l then (match cdL l with | none => 4 | some _ => 0) else 1
def cdVal (c : Cnd) : Value := .agg #[.bool c.not_, .int .u8 (c.kind.toNat : Int), .string (baO c.name), .string (baO c.left), .string (baO c.right), .string (baO c.rest)]
def CdOut (e : Ending) (l : List UInt8) : Prop := e = .returned (.tuple #[cdVal ((cdR l).getD noCnd), .int .i64 (cdEr l)])
theorem CdOut.none_ {l : List UInt8} {er : Int} (h : cdR l = none) (he : cdEr l = er) : CdOut (.returned (.tuple #[.agg #[.bool false, .int .u8 0, .string ⟨#[]⟩, .string ⟨#[]⟩, .string ⟨#[]⟩, .string ⟨#[]⟩], .int .i64 er])) l := by
  unfold CdOut
  rw [h, he]
  rfl
theorem cnd_set {w : World} {g : Nat} {t : TypeId} {a b c d e f : Value} (hb : Blk w g t #[a, b, c, d, e, f]) (a' b' c' d' e' f' : Value) :
    Turn (· = g) w ((((((w.setCell ⟨g, 0, none⟩ a').setCell ⟨g, 1, none⟩ b').setCell ⟨g, 2, none⟩ c').setCell ⟨g, 3, none⟩ d').setCell ⟨g, 4, none⟩ e').setCell ⟨g, 5, none⟩ f') ∧ Blk ((((((w.setCell ⟨g, 0, none⟩ a').setCell ⟨g, 1, none⟩ b').setCell ⟨g, 2, none⟩ c').setCell ⟨g, 3, none⟩ d').setCell ⟨g, 4, none⟩ e').setCell ⟨g, 5, none⟩ f') g t #[a', b', c', d', e', f'] :=
  ⟨(((((turn_set w g 0 a').trans (turn_set _ g 1 b') (fun _ _ h => h)).trans (turn_set _ g 2 c') (fun _ _ h => h)).trans (turn_set _ g 3 d') (fun _ _ h => h)).trans (turn_set _ g 4 e') (fun _ _ h => h)).trans (turn_set _ g 5 f') (fun _ _ h => h), blk_set (blk_set (blk_set (blk_set (blk_set (blk_set hb a') b') c') d') e') f'⟩
def cndZ : Array Value := #[.bool false, .int .u8 0, .string ⟨#[]⟩, .string ⟨#[]⟩, .string ⟨#[]⟩, .string ⟨#[]⟩]
theorem nots_bang {c : UInt8} {t : List UInt8} (h : c.toNat = 33) : nots (c :: t) = (!(nots t).1, (nots t).2) := by
  conv => lhs; unfold nots
  rw [if_pos h]
theorem nots_stop {c : UInt8} {t : List UInt8} (h : c.toNat ≠ 33) : nots (c :: t) = (false, c :: t) := by
  conv => lhs; unfold nots
  rw [if_neg h]
theorem CdOut.some_ {l l2 : List UInt8} {b : Bool} {c : Cnd} {nm lf rt rs : ByteArray} {kd : Int} (hl : lineB l = true) (h : cdL l = cd1 b l2) (h2 : cdK l2 = some c) (hk : kd = (c.kind.toNat : Int)) (e1 : nm.data.toList = c.name) (e2 : lf.data.toList = c.left) (e3 : rt.data.toList = c.right) (e4 : rs.data.toList = c.rest) :
    CdOut (.returned (.tuple #[.agg #[.bool b, .int .u8 kd, .string nm, .string lf, .string rt, .string rs], .int .i64 0])) l := by
  unfold CdOut cdR cdEr
  rw [if_pos hl, if_pos hl, h]
  unfold cd1
  rw [h2, baO_of e1, baO_of e2, baO_of e3, baO_of e4, hk]
  rfl
theorem CdOut.form {l l2 : List UInt8} {b : Bool} (hl : lineB l = true) (h : cdL l = cd1 b l2) (h2 : cdK l2 = none) : cdR l = none ∧ cdEr l = 4 := by
  unfold cdR cdEr
  rw [if_pos hl, if_pos hl, h]
  unfold cd1
  rw [h2]
  exact ⟨rfl, rfl⟩
theorem word_tail {s : ByteArray} {k n : Nat} (hk : k < s.size) (hkn : k ≤ n) (h : blB s[k] = false) (h1 : dr s n = wdR (dr s k)) (h2 : (s.extract k n).data.toList = wdL (dr s k)) : k + 1 ≤ n ∧ dr s n = wdR (dr s (k + 1)) ∧ (s.extract (k + 1) n).data.toList = wdL (dr s (k + 1)) := by
  rw [dr_cons hk, wdR_cons, h] at h1
  rw [ext_dr, dr_cons hk, wdL_cons, h] at h2
  obtain ⟨m, rfl⟩ : ∃ m, n = k + m := ⟨n - k, by omega⟩
  cases m with
  | zero => rw [Nat.add_zero, Nat.sub_self] at h2; cases h2
  | succ m =>
    rw [show k + (m + 1) - k = m + 1 by omega, List.take_succ_cons] at h2
    injection h2 with _ h2
    refine ⟨by omega, h1, ?_⟩
    rw [ext_dr, show k + (m + 1) - (k + 1) = m by omega]
    exact h2
theorem ext_size {s : ByteArray} {i n : Nat} (hi : i ≤ n) (hn : n ≤ s.size) : (s.extract i n).data.toList.length = n - i := by
  rw [ext_dr, List.length_take, dr_len]; omega
theorem cdK_cons (k : UInt8) (t : List UInt8) : cdK (k :: t) = if blB k = true then none
    else if k.toNat = 111 ∨ k.toNat = 101 ∨ k.toNat = 116 ∨ k.toNat = 110 then some ⟨false, k, [], [], [], skL t⟩
    else if k.toNat = 100 ∨ k.toNat = 114 then (if wdL t = [] then none else some ⟨false, k, wdL t, [], [], skL (wdR t)⟩)
    else if quB k = true then match upTo k t with
      | none => none
      | some (a, r) => match upTo k r with
        | none => none
        | some (b, r2) => some ⟨false, 39, [], a, b, skL r2⟩
    else some ⟨false, 120, wdL (k :: t), [], [], skL (wdR (k :: t))⟩ := rfl
theorem cdK_one {c : UInt8} {t : List UInt8} (hb : blB c = false) (h : c.toNat = 111 ∨ c.toNat = 101 ∨ c.toNat = 116 ∨ c.toNat = 110) : cdK (c :: t) = some ⟨false, c, [], [], [], skL t⟩ := by
  rw [cdK_cons, if_neg (by rw [hb]; simp), if_pos h]
theorem cdK_two {c : UInt8} {t : List UInt8} (hb : blB c = false) (h : c.toNat = 100 ∨ c.toNat = 114) : cdK (c :: t) = if wdL t = [] then none else some ⟨false, c, wdL t, [], [], skL (wdR t)⟩ := by
  rw [cdK_cons, if_neg (show ¬ blB c = true by rw [hb]; simp), if_neg (by omega), if_pos h]
theorem cdK_q {c : UInt8} {t : List UInt8} (hb : blB c = false) (h1 : ¬ (c.toNat = 111 ∨ c.toNat = 101 ∨ c.toNat = 116 ∨ c.toNat = 110)) (h2 : ¬ (c.toNat = 100 ∨ c.toNat = 114)) (h : quB c = true) : cdK (c :: t) = match upTo c t with
      | none => none
      | some (a, r) => match upTo c r with
        | none => none
        | some (b, r2) => some ⟨false, 39, [], a, b, skL r2⟩ := by
  rw [cdK_cons, if_neg (show ¬ blB c = true by rw [hb]; simp), if_neg h1, if_neg h2, if_pos h]
theorem cdK_x {c : UInt8} {t : List UInt8} (hb : blB c = false) (h1 : ¬ (c.toNat = 111 ∨ c.toNat = 101 ∨ c.toNat = 116 ∨ c.toNat = 110)) (h2 : ¬ (c.toNat = 100 ∨ c.toNat = 114)) (h : quB c = false) : cdK (c :: t) = some ⟨false, 120, wdL (c :: t), [], [], skL (wdR (c :: t))⟩ := by
  rw [cdK_cons, if_neg (show ¬ blB c = true by rw [hb]; simp), if_neg h1, if_neg h2, if_neg (show ¬ quB c = true by rw [h]; simp)]
/-- While the ! are gone over. -/
def NotRel (s : ByteArray) (w : World) (g : Nat) (t : TypeId) (k : Nat) (b : Bool) (wr : World) : Prop :=
  k ≤ s.size ∧ Blk wr w.heap.size t cndZ ∧ Blk wr g t #[.bool b, .int .u8 0, .string ⟨#[]⟩, .string ⟨#[]⟩, .string ⟨#[]⟩, .string ⟨#[]⟩] ∧ Below w.heap.size w wr ∧ nots (skL s.data.toList) = (b != (nots (dr s k)).1, (nots (dr s k)).2)
set_option maxRecDepth 100000 in
set_option maxHeartbeats 6000000 in
/-- The document's Condition. -/
theorem nCond (s : ByteArray) (hs : s.size ≤ 1000000) (w : World) :
    Calls Tryd.prog 25 #[.string s] w fun e w' => CdOut e s.data.toList ∧ Below w.heap.size w w' := by
  have HL := Lib.hid (fun w => nIsLine s (by unfold maxLen; omega) w)
  have HSk := Lib.hid (fun (i : Nat) (hi : i ≤ s.size) (w : World) => nSkip s (by unfold maxLen; omega) i hi w)
  have HWd := Lib.hid (fun (i : Nat) (hi : i ≤ s.size) (w : World) => nWord s (by unfold maxLen; omega) i hi w)
  have HTo := Lib.hid (fun (i : Nat) (hi : i ≤ s.size) (c : UInt8) (w : World) => nTo s (by unfold maxLen; omega) i hi c w)
  have HBl := Lib.hid (fun c w => nBlank c w)
  have HQu := Lib.hid (fun c w => nQuotes c w)
  obtain ⟨w0, hw0⟩ : ∃ w0, w0 = w.alloc (.cells cndZ 54) := ⟨_, rfl⟩
  have hB0 : Below w.heap.size w w0 := by rw [hw0]; exact (Below.refl _ _).alloc (Nat.le_refl _) _
  have hs0 : w0.heap.size = w.heap.size + 1 := by rw [hw0]; simp
  have hrb : Blk w0 w.heap.size 54 cndZ := by rw [hw0]; exact Blk.new _ _ _
  have HB0 := Lib.hid hB0
  have HRb := Lib.hid hrb
  have HS0 := Lib.hid hs0
  have hf0 := hrb.frozen 0
  have hf1 := hrb.frozen 1
  have hf2 := hrb.frozen 2
  have hf3 := hrb.frozen 3
  have hf4 := hrb.frozen 4
  have hf5 := hrb.frozen 5
  have d0 := hrb.cell 0
  have d1 := hrb.cell 1
  have d2 := hrb.cell 2
  have d3 := hrb.cell 3
  have d4 := hrb.cell 4
  have d5 := hrb.cell 5
  unfold cndZ at d0 d1 d2 d3 d4 d5
  simp only [List.getElem?_toArray, List.getElem?_cons_zero, List.getElem?_cons_succ] at d0 d1 d2 d3 d4 d5
  clear hB0 hrb hs0
  go_enter Tryd.func25, Tryd.ntmps25
  go_upto_region 1 with fail
  unfold cndZ at hw0
  rw [← hw0]
  clear hw0
  cases hln : lineB s.data.toList
  · have HLn := Lib.hid hln
    rw [hln] at HL
    clear hln
    go_wp2_with (go_at_call 43; refine (HL.out _).mono ?_; rintro e w1 ⟨rfl, rfl⟩)
    obtain ⟨hT6, hR6⟩ := cnd_set HRb.out (.bool false) (.int .u8 0) (.string ⟨#[]⟩) (.string ⟨#[]⟩) (.string ⟨#[]⟩) (.string ⟨#[]⟩)
    have p0 := hR6.cell 0
    have p1 := hR6.cell 1
    have p2 := hR6.cell 2
    have p3 := hR6.cell 3
    have p4 := hR6.cell 4
    have p5 := hR6.cell 5
    simp only [List.getElem?_toArray, List.getElem?_cons_zero, List.getElem?_cons_succ] at p0 p1 p2 p3 p4 p5
    refine bodyPost_ret (v := .tuple #[.agg #[.bool false, .int .u8 0, .string ⟨#[]⟩, .string ⟨#[]⟩, .string ⟨#[]⟩, .string ⟨#[]⟩], .int .i64 1]) (by simp [results, Tryd.results25, go_sem, p0, p1, p2, p3, p4, p5]) rfl ⟨CdOut.none_ (by unfold cdR; rw [HLn.out]; rfl) (by unfold cdEr; rw [HLn.out]; rfl), Turn.below HB0.out hT6 HB0.out.size (fun i e => by rw [e]; exact Nat.le_refl _)⟩
  · have HLn := Lib.hid hln
    rw [hln] at HL
    clear hln
    go_upto_region 4 with (go_at_call 43; refine (HL.out _).mono ?_; rintro e w1 ⟨rfl, rfl⟩)
    clear d0 d1 d2 d3 d4 d5 hf0 hf1 hf2 hf3 hf4 hf5
    obtain ⟨g, hg⟩ : ∃ g, g = w0.heap.size := ⟨_, rfl⟩
    have hb1 : Below w.heap.size w (w0.alloc (.cells #[.bool false, .int .u8 0, .string ⟨#[]⟩, .string ⟨#[]⟩, .string ⟨#[]⟩, .string ⟨#[]⟩] 54)) := HB0.out.alloc HB0.out.size _
    have HBg := Lib.hid (Blk.new w0 54 #[.bool false, .int .u8 0, .string ⟨#[]⟩, .string ⟨#[]⟩, .string ⟨#[]⟩, .string ⟨#[]⟩])
    have HBr := Lib.hid (HRb.out.alloc (.cells #[.bool false, .int .u8 0, .string ⟨#[]⟩, .string ⟨#[]⟩, .string ⟨#[]⟩, .string ⟨#[]⟩] 54))
    have HB1 := Lib.hid hb1
    clear hb1
    have hgs : w.heap.size < g := by rw [hg]; have := HS0.out; omega
    rw [← hg] at HBg ⊢
    clear hg
    generalize w0.alloc (.cells #[.bool false, .int .u8 0, .string ⟨#[]⟩, .string ⟨#[]⟩, .string ⟨#[]⟩, .string ⟨#[]⟩] 54) = wb at *
    go_wp2_with (go_at_call 23
                 refine (HSk.out 0 (Nat.zero_le _) _).mono ?_
                 rintro e w1 ⟨⟨k0, rfl, _, hk0, hk1⟩, rfl⟩
                 have HK0 := Lib.hid hk1
                 clear hk1)
    rename World => wa
    go_loopw [5] (fun v5 wr => ∃ (k : Nat) (b : Bool), v5 = .int .i64 k ∧ NotRel s w g 54 k b wr) (fun v5 _ => s.size - (intOf v5).toNat)
    case atStart => exact ⟨k0, false, rfl, hk0, HBr.out, HBg.out, HB1.out, by rw [HK0.out]; show _ = (false != (nots (skL s.data.toList)).1, _); simp; rfl⟩
    case round =>
      obtain ⟨k, b, rfl, hk, hr0, hbg, hbw, hn⟩ := hrel
      have HN := Lib.hid hn
      have HR := Lib.hid hr0
      have HG := Lib.hid hbg
      have HW := Lib.hid hbw
      have g0 := hbg.cell 0
      have gf0 := hbg.frozen 0
      simp only [List.getElem?_toArray, List.getElem?_cons_zero] at g0
      clear hn hr0 hbg hbw
      by_cases hlt : k < s.size
      · have hc := Lib.hid (dr_cons hlt)
        by_cases h3 : (s[k].toNat : Int) = 33
        · have hB3 : ((s[k].toNat : Int) == 33) = true := by simp [h3]
          have h33 := Lib.hid (show s[k].toNat = 33 by omega)
          clear h3
          go_wp2_with fail
          go_roundw
          case rel =>
            refine ⟨k + 1, !b, by go_num, hlt, HR.out.far (by simp; omega) _, blk_set HG.out _, Turn.below HW.out (turn_set _ _ _ _) HW.out.size (fun i e => by rw [e]; omega), ?_⟩
            rw [HN.out, hc.out, nots_bang h33.out]
            cases b <;> cases (nots (dr s (k + 1))).1 <;> rfl
          case measure => simp [intOf]; omega
        · have hB3 : ((s[k].toNat : Int) == 33) = false := by simp [h3]
          have h33 := Lib.hid (show s[k].toNat ≠ 33 by omega)
          clear h3
          have hcd : Hid (cdL s.data.toList = cd1 b (dr s k)) := Lib.hid (by
            unfold cdL
            rw [HN.out, hc.out, nots_stop h33.out]
            simp)
          cases hbk : blB s[k]
          · have HBk := Lib.hid hbk
            clear hbk
            have hksB : ((k : Int) == (s.size : Int)) = false := by rw [beq_eq_false_iff_ne]; omega
            by_cases q111 : (s[k].toNat : Int) = 111
            · have hB111 : ((s[k].toNat : Int) == 111) = true := by simp [q111]
              have HV := Lib.hid (show s[k].toNat = 111 by omega)
              clear q111
              have HRes := Lib.hid (show cdK (dr s k) = some ⟨false, s[k], [], [], [], skL (dr s (k + 1))⟩ by
                have h := HV.out
                rw [hc.out]
                exact cdK_one HBk.out (.inl h))
              have gx1 := HG.out.frozen 1
              have gx2 := HG.out.frozen 2
              have gx3 := HG.out.frozen 3
              have gx4 := HG.out.frozen 4
              have gx5 := HG.out.frozen 5
              have gc1 := HG.out.cell 1
              have gc2 := HG.out.cell 2
              have gc3 := HG.out.cell 3
              have gc4 := HG.out.cell 4
              have gc5 := HG.out.cell 5
              simp only [List.getElem?_toArray, List.getElem?_cons_zero, List.getElem?_cons_succ] at gc1 gc2 gc3 gc4 gc5
              go_wp2_with (first
                | (go_at_call 52; refine (HBl.out _ _).mono ?_; rintro e w1 ⟨rfl, rfl⟩; rw [HBk.out])
                | (go_at_call 23
                   refine (HSk.out (k + 1) (by omega) _).mono ?_
                   rintro e w1 ⟨⟨q, rfl, hq1, hq2, hq3⟩, rfl⟩
                   have HQ3 := Lib.hid hq3
                   have hby := blk_set (o := 5) (blk_set (o := 1) HG.out (.int .u8 (s[k].toNat : Int))) (.string (s.extract q s.size))
                   have hRy := ((HR.out.far (p := ⟨g, 1, none⟩) (by simp; omega) (.int .u8 (s[k].toNat : Int))).far (p := ⟨g, 5, none⟩) (by simp; omega) (.string (s.extract q s.size)) : Blk _ w.heap.size 54 cndZ)
                   have HTy := Lib.hid (((Turn.refl (· = g) wr).trans (turn_set _ g 1 (.int .u8 (s[k].toNat : Int))) (fun _ _ h => h)).trans (turn_set _ g 5 (.string (s.extract q s.size))) (fun _ _ h => h))
                   have HRY := Lib.hid hRy
                   have y0 := hby.cell 0
                   have y1 := hby.cell 1
                   have y2 := hby.cell 2
                   have y3 := hby.cell 3
                   have y4 := hby.cell 4
                   have y5 := hby.cell 5
                   unfold cndZ at hRy
                   have z0 := hRy.cell 0
                   have z1 := hRy.cell 1
                   have z2 := hRy.cell 2
                   have z3 := hRy.cell 3
                   have z4 := hRy.cell 4
                   have z5 := hRy.cell 5
                   have f0 := hRy.frozen 0
                   have f1 := hRy.frozen 1
                   have f2 := hRy.frozen 2
                   have f3 := hRy.frozen 3
                   have f4 := hRy.frozen 4
                   have f5 := hRy.frozen 5
                   simp only [List.setIfInBounds_toArray, List.set_cons_succ, List.set_cons_zero, List.getElem?_toArray, List.getElem?_cons_zero, List.getElem?_cons_succ] at y0 y1 y2 y3 y4 y5 z0 z1 z2 z3 z4 z5
                   clear hq3 hby hRy))
              obtain ⟨hT6, hR6⟩ := cnd_set HRY.out (.bool b) (.int .u8 (s[k].toNat : Int)) (.string ⟨#[]⟩) (.string ⟨#[]⟩) (.string ⟨#[]⟩) (.string (s.extract q s.size))
              have p0 := hR6.cell 0
              have p1 := hR6.cell 1
              have p2 := hR6.cell 2
              have p3 := hR6.cell 3
              have p4 := hR6.cell 4
              have p5 := hR6.cell 5
              simp only [List.getElem?_toArray, List.getElem?_cons_zero, List.getElem?_cons_succ] at p0 p1 p2 p3 p4 p5
              have hT : Turn (fun i => i = g ∨ i = w.heap.size) wr _ := (HTy.out.mono (fun i e => Or.inl e)).trans hT6 (fun i _ e => Or.inr e)
              refine bodyPost_ret (v := .tuple #[.agg #[.bool b, .int .u8 (s[k].toNat : Int), .string ⟨#[]⟩, .string ⟨#[]⟩, .string ⟨#[]⟩, .string (s.extract q s.size)], .int .i64 0]) (by simp [results, Tryd.results25, go_sem, p0, p1, p2, p3, p4, p5]) rfl ⟨CdOut.some_ HLn.out hcd.out HRes.out rfl rfl rfl rfl ?_, Turn.below HW.out hT HW.out.size (fun i e => by rcases e with e | e <;> omega)⟩
              rw [ext_dr, List.take_of_length_le (by rw [dr_len]; exact Nat.le_refl _), HQ3.out]
            · have hB111 : ((s[k].toNat : Int) == 111) = false := by simp [q111]
              have N111 := Lib.hid (show s[k].toNat ≠ 111 by omega)
              clear q111
              by_cases q101 : (s[k].toNat : Int) = 101
              · have hB101 : ((s[k].toNat : Int) == 101) = true := by simp [q101]
                have HV := Lib.hid (show s[k].toNat = 101 by omega)
                clear q101
                have HRes := Lib.hid (show cdK (dr s k) = some ⟨false, s[k], [], [], [], skL (dr s (k + 1))⟩ by
                  have h := HV.out
                  rw [hc.out]
                  exact cdK_one HBk.out (.inr (.inl h)))
                have gx1 := HG.out.frozen 1
                have gx2 := HG.out.frozen 2
                have gx3 := HG.out.frozen 3
                have gx4 := HG.out.frozen 4
                have gx5 := HG.out.frozen 5
                have gc1 := HG.out.cell 1
                have gc2 := HG.out.cell 2
                have gc3 := HG.out.cell 3
                have gc4 := HG.out.cell 4
                have gc5 := HG.out.cell 5
                simp only [List.getElem?_toArray, List.getElem?_cons_zero, List.getElem?_cons_succ] at gc1 gc2 gc3 gc4 gc5
                go_wp2_with (first
                  | (go_at_call 52; refine (HBl.out _ _).mono ?_; rintro e w1 ⟨rfl, rfl⟩; rw [HBk.out])
                  | (go_at_call 23
                     refine (HSk.out (k + 1) (by omega) _).mono ?_
                     rintro e w1 ⟨⟨q, rfl, hq1, hq2, hq3⟩, rfl⟩
                     have HQ3 := Lib.hid hq3
                     have hby := blk_set (o := 5) (blk_set (o := 1) HG.out (.int .u8 (s[k].toNat : Int))) (.string (s.extract q s.size))
                     have hRy := ((HR.out.far (p := ⟨g, 1, none⟩) (by simp; omega) (.int .u8 (s[k].toNat : Int))).far (p := ⟨g, 5, none⟩) (by simp; omega) (.string (s.extract q s.size)) : Blk _ w.heap.size 54 cndZ)
                     have HTy := Lib.hid (((Turn.refl (· = g) wr).trans (turn_set _ g 1 (.int .u8 (s[k].toNat : Int))) (fun _ _ h => h)).trans (turn_set _ g 5 (.string (s.extract q s.size))) (fun _ _ h => h))
                     have HRY := Lib.hid hRy
                     have y0 := hby.cell 0
                     have y1 := hby.cell 1
                     have y2 := hby.cell 2
                     have y3 := hby.cell 3
                     have y4 := hby.cell 4
                     have y5 := hby.cell 5
                     unfold cndZ at hRy
                     have z0 := hRy.cell 0
                     have z1 := hRy.cell 1
                     have z2 := hRy.cell 2
                     have z3 := hRy.cell 3
                     have z4 := hRy.cell 4
                     have z5 := hRy.cell 5
                     have f0 := hRy.frozen 0
                     have f1 := hRy.frozen 1
                     have f2 := hRy.frozen 2
                     have f3 := hRy.frozen 3
                     have f4 := hRy.frozen 4
                     have f5 := hRy.frozen 5
                     simp only [List.setIfInBounds_toArray, List.set_cons_succ, List.set_cons_zero, List.getElem?_toArray, List.getElem?_cons_zero, List.getElem?_cons_succ] at y0 y1 y2 y3 y4 y5 z0 z1 z2 z3 z4 z5
                     clear hq3 hby hRy))
                obtain ⟨hT6, hR6⟩ := cnd_set HRY.out (.bool b) (.int .u8 (s[k].toNat : Int)) (.string ⟨#[]⟩) (.string ⟨#[]⟩) (.string ⟨#[]⟩) (.string (s.extract q s.size))
                have p0 := hR6.cell 0
                have p1 := hR6.cell 1
                have p2 := hR6.cell 2
                have p3 := hR6.cell 3
                have p4 := hR6.cell 4
                have p5 := hR6.cell 5
                simp only [List.getElem?_toArray, List.getElem?_cons_zero, List.getElem?_cons_succ] at p0 p1 p2 p3 p4 p5
                have hT : Turn (fun i => i = g ∨ i = w.heap.size) wr _ := (HTy.out.mono (fun i e => Or.inl e)).trans hT6 (fun i _ e => Or.inr e)
                refine bodyPost_ret (v := .tuple #[.agg #[.bool b, .int .u8 (s[k].toNat : Int), .string ⟨#[]⟩, .string ⟨#[]⟩, .string ⟨#[]⟩, .string (s.extract q s.size)], .int .i64 0]) (by simp [results, Tryd.results25, go_sem, p0, p1, p2, p3, p4, p5]) rfl ⟨CdOut.some_ HLn.out hcd.out HRes.out rfl rfl rfl rfl ?_, Turn.below HW.out hT HW.out.size (fun i e => by rcases e with e | e <;> omega)⟩
                rw [ext_dr, List.take_of_length_le (by rw [dr_len]; exact Nat.le_refl _), HQ3.out]
              · have hB101 : ((s[k].toNat : Int) == 101) = false := by simp [q101]
                have N101 := Lib.hid (show s[k].toNat ≠ 101 by omega)
                clear q101
                by_cases q116 : (s[k].toNat : Int) = 116
                · have hB116 : ((s[k].toNat : Int) == 116) = true := by simp [q116]
                  have HV := Lib.hid (show s[k].toNat = 116 by omega)
                  clear q116
                  have HRes := Lib.hid (show cdK (dr s k) = some ⟨false, s[k], [], [], [], skL (dr s (k + 1))⟩ by
                    have h := HV.out
                    rw [hc.out]
                    exact cdK_one HBk.out (.inr (.inr (.inl h))))
                  have gx1 := HG.out.frozen 1
                  have gx2 := HG.out.frozen 2
                  have gx3 := HG.out.frozen 3
                  have gx4 := HG.out.frozen 4
                  have gx5 := HG.out.frozen 5
                  have gc1 := HG.out.cell 1
                  have gc2 := HG.out.cell 2
                  have gc3 := HG.out.cell 3
                  have gc4 := HG.out.cell 4
                  have gc5 := HG.out.cell 5
                  simp only [List.getElem?_toArray, List.getElem?_cons_zero, List.getElem?_cons_succ] at gc1 gc2 gc3 gc4 gc5
                  go_wp2_with (first
                    | (go_at_call 52; refine (HBl.out _ _).mono ?_; rintro e w1 ⟨rfl, rfl⟩; rw [HBk.out])
                    | (go_at_call 23
                       refine (HSk.out (k + 1) (by omega) _).mono ?_
                       rintro e w1 ⟨⟨q, rfl, hq1, hq2, hq3⟩, rfl⟩
                       have HQ3 := Lib.hid hq3
                       have hby := blk_set (o := 5) (blk_set (o := 1) HG.out (.int .u8 (s[k].toNat : Int))) (.string (s.extract q s.size))
                       have hRy := ((HR.out.far (p := ⟨g, 1, none⟩) (by simp; omega) (.int .u8 (s[k].toNat : Int))).far (p := ⟨g, 5, none⟩) (by simp; omega) (.string (s.extract q s.size)) : Blk _ w.heap.size 54 cndZ)
                       have HTy := Lib.hid (((Turn.refl (· = g) wr).trans (turn_set _ g 1 (.int .u8 (s[k].toNat : Int))) (fun _ _ h => h)).trans (turn_set _ g 5 (.string (s.extract q s.size))) (fun _ _ h => h))
                       have HRY := Lib.hid hRy
                       have y0 := hby.cell 0
                       have y1 := hby.cell 1
                       have y2 := hby.cell 2
                       have y3 := hby.cell 3
                       have y4 := hby.cell 4
                       have y5 := hby.cell 5
                       unfold cndZ at hRy
                       have z0 := hRy.cell 0
                       have z1 := hRy.cell 1
                       have z2 := hRy.cell 2
                       have z3 := hRy.cell 3
                       have z4 := hRy.cell 4
                       have z5 := hRy.cell 5
                       have f0 := hRy.frozen 0
                       have f1 := hRy.frozen 1
                       have f2 := hRy.frozen 2
                       have f3 := hRy.frozen 3
                       have f4 := hRy.frozen 4
                       have f5 := hRy.frozen 5
                       simp only [List.setIfInBounds_toArray, List.set_cons_succ, List.set_cons_zero, List.getElem?_toArray, List.getElem?_cons_zero, List.getElem?_cons_succ] at y0 y1 y2 y3 y4 y5 z0 z1 z2 z3 z4 z5
                       clear hq3 hby hRy))
                  obtain ⟨hT6, hR6⟩ := cnd_set HRY.out (.bool b) (.int .u8 (s[k].toNat : Int)) (.string ⟨#[]⟩) (.string ⟨#[]⟩) (.string ⟨#[]⟩) (.string (s.extract q s.size))
                  have p0 := hR6.cell 0
                  have p1 := hR6.cell 1
                  have p2 := hR6.cell 2
                  have p3 := hR6.cell 3
                  have p4 := hR6.cell 4
                  have p5 := hR6.cell 5
                  simp only [List.getElem?_toArray, List.getElem?_cons_zero, List.getElem?_cons_succ] at p0 p1 p2 p3 p4 p5
                  have hT : Turn (fun i => i = g ∨ i = w.heap.size) wr _ := (HTy.out.mono (fun i e => Or.inl e)).trans hT6 (fun i _ e => Or.inr e)
                  refine bodyPost_ret (v := .tuple #[.agg #[.bool b, .int .u8 (s[k].toNat : Int), .string ⟨#[]⟩, .string ⟨#[]⟩, .string ⟨#[]⟩, .string (s.extract q s.size)], .int .i64 0]) (by simp [results, Tryd.results25, go_sem, p0, p1, p2, p3, p4, p5]) rfl ⟨CdOut.some_ HLn.out hcd.out HRes.out rfl rfl rfl rfl ?_, Turn.below HW.out hT HW.out.size (fun i e => by rcases e with e | e <;> omega)⟩
                  rw [ext_dr, List.take_of_length_le (by rw [dr_len]; exact Nat.le_refl _), HQ3.out]
                · have hB116 : ((s[k].toNat : Int) == 116) = false := by simp [q116]
                  have N116 := Lib.hid (show s[k].toNat ≠ 116 by omega)
                  clear q116
                  by_cases q110 : (s[k].toNat : Int) = 110
                  · have hB110 : ((s[k].toNat : Int) == 110) = true := by simp [q110]
                    have HV := Lib.hid (show s[k].toNat = 110 by omega)
                    clear q110
                    have HRes := Lib.hid (show cdK (dr s k) = some ⟨false, s[k], [], [], [], skL (dr s (k + 1))⟩ by
                      have h := HV.out
                      rw [hc.out]
                      exact cdK_one HBk.out (.inr (.inr (.inr h))))
                    have gx1 := HG.out.frozen 1
                    have gx2 := HG.out.frozen 2
                    have gx3 := HG.out.frozen 3
                    have gx4 := HG.out.frozen 4
                    have gx5 := HG.out.frozen 5
                    have gc1 := HG.out.cell 1
                    have gc2 := HG.out.cell 2
                    have gc3 := HG.out.cell 3
                    have gc4 := HG.out.cell 4
                    have gc5 := HG.out.cell 5
                    simp only [List.getElem?_toArray, List.getElem?_cons_zero, List.getElem?_cons_succ] at gc1 gc2 gc3 gc4 gc5
                    go_wp2_with (first
                      | (go_at_call 52; refine (HBl.out _ _).mono ?_; rintro e w1 ⟨rfl, rfl⟩; rw [HBk.out])
                      | (go_at_call 23
                         refine (HSk.out (k + 1) (by omega) _).mono ?_
                         rintro e w1 ⟨⟨q, rfl, hq1, hq2, hq3⟩, rfl⟩
                         have HQ3 := Lib.hid hq3
                         have hby := blk_set (o := 5) (blk_set (o := 1) HG.out (.int .u8 (s[k].toNat : Int))) (.string (s.extract q s.size))
                         have hRy := ((HR.out.far (p := ⟨g, 1, none⟩) (by simp; omega) (.int .u8 (s[k].toNat : Int))).far (p := ⟨g, 5, none⟩) (by simp; omega) (.string (s.extract q s.size)) : Blk _ w.heap.size 54 cndZ)
                         have HTy := Lib.hid (((Turn.refl (· = g) wr).trans (turn_set _ g 1 (.int .u8 (s[k].toNat : Int))) (fun _ _ h => h)).trans (turn_set _ g 5 (.string (s.extract q s.size))) (fun _ _ h => h))
                         have HRY := Lib.hid hRy
                         have y0 := hby.cell 0
                         have y1 := hby.cell 1
                         have y2 := hby.cell 2
                         have y3 := hby.cell 3
                         have y4 := hby.cell 4
                         have y5 := hby.cell 5
                         unfold cndZ at hRy
                         have z0 := hRy.cell 0
                         have z1 := hRy.cell 1
                         have z2 := hRy.cell 2
                         have z3 := hRy.cell 3
                         have z4 := hRy.cell 4
                         have z5 := hRy.cell 5
                         have f0 := hRy.frozen 0
                         have f1 := hRy.frozen 1
                         have f2 := hRy.frozen 2
                         have f3 := hRy.frozen 3
                         have f4 := hRy.frozen 4
                         have f5 := hRy.frozen 5
                         simp only [List.setIfInBounds_toArray, List.set_cons_succ, List.set_cons_zero, List.getElem?_toArray, List.getElem?_cons_zero, List.getElem?_cons_succ] at y0 y1 y2 y3 y4 y5 z0 z1 z2 z3 z4 z5
                         clear hq3 hby hRy))
                    obtain ⟨hT6, hR6⟩ := cnd_set HRY.out (.bool b) (.int .u8 (s[k].toNat : Int)) (.string ⟨#[]⟩) (.string ⟨#[]⟩) (.string ⟨#[]⟩) (.string (s.extract q s.size))
                    have p0 := hR6.cell 0
                    have p1 := hR6.cell 1
                    have p2 := hR6.cell 2
                    have p3 := hR6.cell 3
                    have p4 := hR6.cell 4
                    have p5 := hR6.cell 5
                    simp only [List.getElem?_toArray, List.getElem?_cons_zero, List.getElem?_cons_succ] at p0 p1 p2 p3 p4 p5
                    have hT : Turn (fun i => i = g ∨ i = w.heap.size) wr _ := (HTy.out.mono (fun i e => Or.inl e)).trans hT6 (fun i _ e => Or.inr e)
                    refine bodyPost_ret (v := .tuple #[.agg #[.bool b, .int .u8 (s[k].toNat : Int), .string ⟨#[]⟩, .string ⟨#[]⟩, .string ⟨#[]⟩, .string (s.extract q s.size)], .int .i64 0]) (by simp [results, Tryd.results25, go_sem, p0, p1, p2, p3, p4, p5]) rfl ⟨CdOut.some_ HLn.out hcd.out HRes.out rfl rfl rfl rfl ?_, Turn.below HW.out hT HW.out.size (fun i e => by rcases e with e | e <;> omega)⟩
                    rw [ext_dr, List.take_of_length_le (by rw [dr_len]; exact Nat.le_refl _), HQ3.out]
                  · have hB110 : ((s[k].toNat : Int) == 110) = false := by simp [q110]
                    have N110 := Lib.hid (show s[k].toNat ≠ 110 by omega)
                    clear q110
                    have NA := Lib.hid (show ¬ (s[k].toNat = 111 ∨ s[k].toNat = 101 ∨ s[k].toNat = 116 ∨ s[k].toNat = 110) from fun h => by
                      have h1 := N111.out
                      have h2 := N101.out
                      have h3 := N116.out
                      have h4 := N110.out
                      omega)
                    by_cases q100 : (s[k].toNat : Int) = 100
                    · have hB100 : ((s[k].toNat : Int) == 100) = true := by simp [q100]
                      have HV := Lib.hid (show s[k].toNat = 100 by omega)
                      clear q100
                      have HKt := Lib.hid (cdK_two (t := dr s (k + 1)) HBk.out (.inl HV.out))
                      by_cases hwl : wdL (dr s (k + 1)) = []
                      · have HWl := Lib.hid hwl
                        clear hwl
                        have HF := Lib.hid (CdOut.form HLn.out hcd.out (by rw [hc.out, HKt.out, if_pos HWl.out]))
                        have hr := HR.out
                        unfold cndZ at hr
                        have z0 := hr.cell 0
                        have z1 := hr.cell 1
                        have z2 := hr.cell 2
                        have z3 := hr.cell 3
                        have z4 := hr.cell 4
                        have z5 := hr.cell 5
                        have f0 := hr.frozen 0
                        have f1 := hr.frozen 1
                        have f2 := hr.frozen 2
                        have f3 := hr.frozen 3
                        have f4 := hr.frozen 4
                        have f5 := hr.frozen 5
                        simp only [List.getElem?_toArray, List.getElem?_cons_zero, List.getElem?_cons_succ] at z0 z1 z2 z3 z4 z5
                        clear hr
                        go_wp2_with (first
                          | (go_at_call 52; refine (HBl.out _ _).mono ?_; rintro e w1 ⟨rfl, rfl⟩; rw [HBk.out])
                          | (go_at_call 45
                             refine (HWd.out k (by omega) _).mono ?_
                             rintro e w1 ⟨⟨n, rfl, hn0, hn1, hn2, hn3⟩, rfl⟩
                             obtain ⟨hn4, hn5, hn6⟩ := word_tail hlt hn0 HBk.out hn2 hn3
                             have hln := ext_size hn4 hn1
                             rw [hn6] at hln
                             have HN5 := Lib.hid hn5
                             have HN6 := Lib.hid hn6
                             rw [HWl.out] at hln
                             have hnB : ((n : Int) == (k : Int) + 1) = true := by
                               rw [beq_iff_eq]
                               simp at hln
                               omega
                             clear hn2 hn3 hn5 hn6 hln))
                        obtain ⟨hT6, hR6⟩ := cnd_set HR.out (.bool false) (.int .u8 0) (.string ⟨#[]⟩) (.string ⟨#[]⟩) (.string ⟨#[]⟩) (.string ⟨#[]⟩)
                        have p0 := hR6.cell 0
                        have p1 := hR6.cell 1
                        have p2 := hR6.cell 2
                        have p3 := hR6.cell 3
                        have p4 := hR6.cell 4
                        have p5 := hR6.cell 5
                        simp only [List.getElem?_toArray, List.getElem?_cons_zero, List.getElem?_cons_succ] at p0 p1 p2 p3 p4 p5
                        refine bodyPost_ret (v := .tuple #[.agg #[.bool false, .int .u8 0, .string ⟨#[]⟩, .string ⟨#[]⟩, .string ⟨#[]⟩, .string ⟨#[]⟩], .int .i64 4]) (by simp [results, Tryd.results25, go_sem, p0, p1, p2, p3, p4, p5]) rfl ⟨CdOut.none_ HF.out.1 HF.out.2, Turn.below HW.out hT6 HW.out.size (fun i e => by rw [e]; exact Nat.le_refl _)⟩
                      · have HWl := Lib.hid hwl
                        clear hwl
                        have HRes := Lib.hid (show cdK (dr s k) = some ⟨false, s[k], wdL (dr s (k + 1)), [], [], skL (wdR (dr s (k + 1)))⟩ by rw [hc.out, HKt.out, if_neg HWl.out])
                        have gx1 := HG.out.frozen 1
                        have gx2 := HG.out.frozen 2
                        have gx3 := HG.out.frozen 3
                        have gx4 := HG.out.frozen 4
                        have gx5 := HG.out.frozen 5
                        have gc1 := HG.out.cell 1
                        have gc2 := HG.out.cell 2
                        have gc3 := HG.out.cell 3
                        have gc4 := HG.out.cell 4
                        have gc5 := HG.out.cell 5
                        simp only [List.getElem?_toArray, List.getElem?_cons_zero, List.getElem?_cons_succ] at gc1 gc2 gc3 gc4 gc5
                        go_wp2_with (first
                          | (go_at_call 52; refine (HBl.out _ _).mono ?_; rintro e w1 ⟨rfl, rfl⟩; rw [HBk.out])
                          | (go_at_call 45
                             refine (HWd.out k (by omega) _).mono ?_
                             rintro e w1 ⟨⟨n, rfl, hn0, hn1, hn2, hn3⟩, rfl⟩
                             obtain ⟨hn4, hn5, hn6⟩ := word_tail hlt hn0 HBk.out hn2 hn3
                             have hln := ext_size hn4 hn1
                             rw [hn6] at hln
                             have HN5 := Lib.hid hn5
                             have HN6 := Lib.hid hn6
                             have hpos := List.length_pos_iff.2 HWl.out
                             have hnB : ((n : Int) == (k : Int) + 1) = false := by
                               rw [beq_eq_false_iff_ne]
                               omega
                             clear hn2 hn3 hn5 hn6 hln)
                          | (go_at_call 23
                             refine (HSk.out n (by omega) _).mono ?_
                             rintro e w1 ⟨⟨q, rfl, hq1, hq2, hq3⟩, rfl⟩
                             have HQ3 := Lib.hid hq3
                             have hby := blk_set (o := 5) (blk_set (o := 2) (blk_set (o := 1) HG.out (.int .u8 (s[k].toNat : Int))) (.string (s.extract (k + 1) n))) (.string (s.extract q s.size))
                             have hRy := (((HR.out.far (p := ⟨g, 1, none⟩) (by simp; omega) (.int .u8 (s[k].toNat : Int))).far (p := ⟨g, 2, none⟩) (by simp; omega) (.string (s.extract (k + 1) n))).far (p := ⟨g, 5, none⟩) (by simp; omega) (.string (s.extract q s.size)) : Blk _ w.heap.size 54 cndZ)
                             have HTy := Lib.hid ((((Turn.refl (· = g) wr).trans (turn_set _ g 1 (.int .u8 (s[k].toNat : Int))) (fun _ _ h => h)).trans (turn_set _ g 2 (.string (s.extract (k + 1) n))) (fun _ _ h => h)).trans (turn_set _ g 5 (.string (s.extract q s.size))) (fun _ _ h => h))
                             have HRY := Lib.hid hRy
                             have y0 := hby.cell 0
                             have y1 := hby.cell 1
                             have y2 := hby.cell 2
                             have y3 := hby.cell 3
                             have y4 := hby.cell 4
                             have y5 := hby.cell 5
                             unfold cndZ at hRy
                             have z0 := hRy.cell 0
                             have z1 := hRy.cell 1
                             have z2 := hRy.cell 2
                             have z3 := hRy.cell 3
                             have z4 := hRy.cell 4
                             have z5 := hRy.cell 5
                             have f0 := hRy.frozen 0
                             have f1 := hRy.frozen 1
                             have f2 := hRy.frozen 2
                             have f3 := hRy.frozen 3
                             have f4 := hRy.frozen 4
                             have f5 := hRy.frozen 5
                             simp only [List.setIfInBounds_toArray, List.set_cons_succ, List.set_cons_zero, List.getElem?_toArray, List.getElem?_cons_zero, List.getElem?_cons_succ] at y0 y1 y2 y3 y4 y5 z0 z1 z2 z3 z4 z5
                             clear hq3 hby hRy))
                        obtain ⟨hT6, hR6⟩ := cnd_set HRY.out (.bool b) (.int .u8 (s[k].toNat : Int)) (.string (s.extract (k + 1) n)) (.string ⟨#[]⟩) (.string ⟨#[]⟩) (.string (s.extract q s.size))
                        have p0 := hR6.cell 0
                        have p1 := hR6.cell 1
                        have p2 := hR6.cell 2
                        have p3 := hR6.cell 3
                        have p4 := hR6.cell 4
                        have p5 := hR6.cell 5
                        simp only [List.getElem?_toArray, List.getElem?_cons_zero, List.getElem?_cons_succ] at p0 p1 p2 p3 p4 p5
                        have hT : Turn (fun i => i = g ∨ i = w.heap.size) wr _ := (HTy.out.mono (fun i e => Or.inl e)).trans hT6 (fun i _ e => Or.inr e)
                        refine bodyPost_ret (v := .tuple #[.agg #[.bool b, .int .u8 (s[k].toNat : Int), .string (s.extract (k + 1) n), .string ⟨#[]⟩, .string ⟨#[]⟩, .string (s.extract q s.size)], .int .i64 0]) (by simp [results, Tryd.results25, go_sem, p0, p1, p2, p3, p4, p5]) rfl ⟨CdOut.some_ HLn.out hcd.out HRes.out rfl HN6.out rfl rfl ?_, Turn.below HW.out hT HW.out.size (fun i e => by rcases e with e | e <;> omega)⟩
                        rw [ext_dr, List.take_of_length_le (by rw [dr_len]; exact Nat.le_refl _), HQ3.out]
                        rw [HN5.out]
                    · have hB100 : ((s[k].toNat : Int) == 100) = false := by simp [q100]
                      have N100 := Lib.hid (show s[k].toNat ≠ 100 by omega)
                      clear q100
                      by_cases q114 : (s[k].toNat : Int) = 114
                      · have hB114 : ((s[k].toNat : Int) == 114) = true := by simp [q114]
                        have HV := Lib.hid (show s[k].toNat = 114 by omega)
                        clear q114
                        have HKt := Lib.hid (cdK_two (t := dr s (k + 1)) HBk.out (.inr HV.out))
                        by_cases hwl : wdL (dr s (k + 1)) = []
                        · have HWl := Lib.hid hwl
                          clear hwl
                          have HF := Lib.hid (CdOut.form HLn.out hcd.out (by rw [hc.out, HKt.out, if_pos HWl.out]))
                          have hr := HR.out
                          unfold cndZ at hr
                          have z0 := hr.cell 0
                          have z1 := hr.cell 1
                          have z2 := hr.cell 2
                          have z3 := hr.cell 3
                          have z4 := hr.cell 4
                          have z5 := hr.cell 5
                          have f0 := hr.frozen 0
                          have f1 := hr.frozen 1
                          have f2 := hr.frozen 2
                          have f3 := hr.frozen 3
                          have f4 := hr.frozen 4
                          have f5 := hr.frozen 5
                          simp only [List.getElem?_toArray, List.getElem?_cons_zero, List.getElem?_cons_succ] at z0 z1 z2 z3 z4 z5
                          clear hr
                          go_wp2_with (first
                            | (go_at_call 52; refine (HBl.out _ _).mono ?_; rintro e w1 ⟨rfl, rfl⟩; rw [HBk.out])
                            | (go_at_call 45
                               refine (HWd.out k (by omega) _).mono ?_
                               rintro e w1 ⟨⟨n, rfl, hn0, hn1, hn2, hn3⟩, rfl⟩
                               obtain ⟨hn4, hn5, hn6⟩ := word_tail hlt hn0 HBk.out hn2 hn3
                               have hln := ext_size hn4 hn1
                               rw [hn6] at hln
                               have HN5 := Lib.hid hn5
                               have HN6 := Lib.hid hn6
                               rw [HWl.out] at hln
                               have hnB : ((n : Int) == (k : Int) + 1) = true := by
                                 rw [beq_iff_eq]
                                 simp at hln
                                 omega
                               clear hn2 hn3 hn5 hn6 hln))
                          obtain ⟨hT6, hR6⟩ := cnd_set HR.out (.bool false) (.int .u8 0) (.string ⟨#[]⟩) (.string ⟨#[]⟩) (.string ⟨#[]⟩) (.string ⟨#[]⟩)
                          have p0 := hR6.cell 0
                          have p1 := hR6.cell 1
                          have p2 := hR6.cell 2
                          have p3 := hR6.cell 3
                          have p4 := hR6.cell 4
                          have p5 := hR6.cell 5
                          simp only [List.getElem?_toArray, List.getElem?_cons_zero, List.getElem?_cons_succ] at p0 p1 p2 p3 p4 p5
                          refine bodyPost_ret (v := .tuple #[.agg #[.bool false, .int .u8 0, .string ⟨#[]⟩, .string ⟨#[]⟩, .string ⟨#[]⟩, .string ⟨#[]⟩], .int .i64 4]) (by simp [results, Tryd.results25, go_sem, p0, p1, p2, p3, p4, p5]) rfl ⟨CdOut.none_ HF.out.1 HF.out.2, Turn.below HW.out hT6 HW.out.size (fun i e => by rw [e]; exact Nat.le_refl _)⟩
                        · have HWl := Lib.hid hwl
                          clear hwl
                          have HRes := Lib.hid (show cdK (dr s k) = some ⟨false, s[k], wdL (dr s (k + 1)), [], [], skL (wdR (dr s (k + 1)))⟩ by rw [hc.out, HKt.out, if_neg HWl.out])
                          have gx1 := HG.out.frozen 1
                          have gx2 := HG.out.frozen 2
                          have gx3 := HG.out.frozen 3
                          have gx4 := HG.out.frozen 4
                          have gx5 := HG.out.frozen 5
                          have gc1 := HG.out.cell 1
                          have gc2 := HG.out.cell 2
                          have gc3 := HG.out.cell 3
                          have gc4 := HG.out.cell 4
                          have gc5 := HG.out.cell 5
                          simp only [List.getElem?_toArray, List.getElem?_cons_zero, List.getElem?_cons_succ] at gc1 gc2 gc3 gc4 gc5
                          go_wp2_with (first
                            | (go_at_call 52; refine (HBl.out _ _).mono ?_; rintro e w1 ⟨rfl, rfl⟩; rw [HBk.out])
                            | (go_at_call 45
                               refine (HWd.out k (by omega) _).mono ?_
                               rintro e w1 ⟨⟨n, rfl, hn0, hn1, hn2, hn3⟩, rfl⟩
                               obtain ⟨hn4, hn5, hn6⟩ := word_tail hlt hn0 HBk.out hn2 hn3
                               have hln := ext_size hn4 hn1
                               rw [hn6] at hln
                               have HN5 := Lib.hid hn5
                               have HN6 := Lib.hid hn6
                               have hpos := List.length_pos_iff.2 HWl.out
                               have hnB : ((n : Int) == (k : Int) + 1) = false := by
                                 rw [beq_eq_false_iff_ne]
                                 omega
                               clear hn2 hn3 hn5 hn6 hln)
                            | (go_at_call 23
                               refine (HSk.out n (by omega) _).mono ?_
                               rintro e w1 ⟨⟨q, rfl, hq1, hq2, hq3⟩, rfl⟩
                               have HQ3 := Lib.hid hq3
                               have hby := blk_set (o := 5) (blk_set (o := 2) (blk_set (o := 1) HG.out (.int .u8 (s[k].toNat : Int))) (.string (s.extract (k + 1) n))) (.string (s.extract q s.size))
                               have hRy := (((HR.out.far (p := ⟨g, 1, none⟩) (by simp; omega) (.int .u8 (s[k].toNat : Int))).far (p := ⟨g, 2, none⟩) (by simp; omega) (.string (s.extract (k + 1) n))).far (p := ⟨g, 5, none⟩) (by simp; omega) (.string (s.extract q s.size)) : Blk _ w.heap.size 54 cndZ)
                               have HTy := Lib.hid ((((Turn.refl (· = g) wr).trans (turn_set _ g 1 (.int .u8 (s[k].toNat : Int))) (fun _ _ h => h)).trans (turn_set _ g 2 (.string (s.extract (k + 1) n))) (fun _ _ h => h)).trans (turn_set _ g 5 (.string (s.extract q s.size))) (fun _ _ h => h))
                               have HRY := Lib.hid hRy
                               have y0 := hby.cell 0
                               have y1 := hby.cell 1
                               have y2 := hby.cell 2
                               have y3 := hby.cell 3
                               have y4 := hby.cell 4
                               have y5 := hby.cell 5
                               unfold cndZ at hRy
                               have z0 := hRy.cell 0
                               have z1 := hRy.cell 1
                               have z2 := hRy.cell 2
                               have z3 := hRy.cell 3
                               have z4 := hRy.cell 4
                               have z5 := hRy.cell 5
                               have f0 := hRy.frozen 0
                               have f1 := hRy.frozen 1
                               have f2 := hRy.frozen 2
                               have f3 := hRy.frozen 3
                               have f4 := hRy.frozen 4
                               have f5 := hRy.frozen 5
                               simp only [List.setIfInBounds_toArray, List.set_cons_succ, List.set_cons_zero, List.getElem?_toArray, List.getElem?_cons_zero, List.getElem?_cons_succ] at y0 y1 y2 y3 y4 y5 z0 z1 z2 z3 z4 z5
                               clear hq3 hby hRy))
                          obtain ⟨hT6, hR6⟩ := cnd_set HRY.out (.bool b) (.int .u8 (s[k].toNat : Int)) (.string (s.extract (k + 1) n)) (.string ⟨#[]⟩) (.string ⟨#[]⟩) (.string (s.extract q s.size))
                          have p0 := hR6.cell 0
                          have p1 := hR6.cell 1
                          have p2 := hR6.cell 2
                          have p3 := hR6.cell 3
                          have p4 := hR6.cell 4
                          have p5 := hR6.cell 5
                          simp only [List.getElem?_toArray, List.getElem?_cons_zero, List.getElem?_cons_succ] at p0 p1 p2 p3 p4 p5
                          have hT : Turn (fun i => i = g ∨ i = w.heap.size) wr _ := (HTy.out.mono (fun i e => Or.inl e)).trans hT6 (fun i _ e => Or.inr e)
                          refine bodyPost_ret (v := .tuple #[.agg #[.bool b, .int .u8 (s[k].toNat : Int), .string (s.extract (k + 1) n), .string ⟨#[]⟩, .string ⟨#[]⟩, .string (s.extract q s.size)], .int .i64 0]) (by simp [results, Tryd.results25, go_sem, p0, p1, p2, p3, p4, p5]) rfl ⟨CdOut.some_ HLn.out hcd.out HRes.out rfl HN6.out rfl rfl ?_, Turn.below HW.out hT HW.out.size (fun i e => by rcases e with e | e <;> omega)⟩
                          rw [ext_dr, List.take_of_length_le (by rw [dr_len]; exact Nat.le_refl _), HQ3.out]
                          rw [HN5.out]
                      · have hB114 : ((s[k].toNat : Int) == 114) = false := by simp [q114]
                        have N114 := Lib.hid (show s[k].toNat ≠ 114 by omega)
                        clear q114
                        have NB := Lib.hid (show ¬ (s[k].toNat = 100 ∨ s[k].toNat = 114) from fun h => by
                          have h1 := N100.out
                          have h2 := N114.out
                          omega)
                        cases hqk : quB s[k]
                        · have HQk := Lib.hid hqk
                          clear hqk
                          have HRes := Lib.hid (show cdK (dr s k) = some ⟨false, 120, wdL (dr s k), [], [], skL (wdR (dr s k))⟩ by rw [hc.out]; exact cdK_x HBk.out NA.out NB.out HQk.out)
                          have gx1 := HG.out.frozen 1
                          have gx2 := HG.out.frozen 2
                          have gx3 := HG.out.frozen 3
                          have gx4 := HG.out.frozen 4
                          have gx5 := HG.out.frozen 5
                          have gc1 := HG.out.cell 1
                          have gc2 := HG.out.cell 2
                          have gc3 := HG.out.cell 3
                          have gc4 := HG.out.cell 4
                          have gc5 := HG.out.cell 5
                          simp only [List.getElem?_toArray, List.getElem?_cons_zero, List.getElem?_cons_succ] at gc1 gc2 gc3 gc4 gc5
                          go_wp2_with (first
                            | (go_at_call 52; refine (HBl.out _ _).mono ?_; rintro e w1 ⟨rfl, rfl⟩; rw [HBk.out])
                            | (go_at_call 53; refine (HQu.out _ _).mono ?_; rintro e w1 ⟨rfl, rfl⟩; rw [HQk.out])
                            | (go_at_call 45
                               refine (HWd.out k (by omega) _).mono ?_
                               rintro e w1 ⟨⟨n, rfl, hn0, hn1, hn2, hn3⟩, rfl⟩
                               have HN5 := Lib.hid hn2
                               have HN6 := Lib.hid hn3
                               clear hn2 hn3)
                            | (go_at_call 23
                               refine (HSk.out n (by omega) _).mono ?_
                               rintro e w1 ⟨⟨q, rfl, hq1, hq2, hq3⟩, rfl⟩
                               have HQ3 := Lib.hid hq3
                               have hby := blk_set (o := 5) (blk_set (o := 2) (blk_set (o := 1) HG.out (.int .u8 120)) (.string (s.extract k n))) (.string (s.extract q s.size))
                               have hRy := (((HR.out.far (p := ⟨g, 1, none⟩) (by simp; omega) (.int .u8 120)).far (p := ⟨g, 2, none⟩) (by simp; omega) (.string (s.extract k n))).far (p := ⟨g, 5, none⟩) (by simp; omega) (.string (s.extract q s.size)) : Blk _ w.heap.size 54 cndZ)
                               have HTy := Lib.hid ((((Turn.refl (· = g) wr).trans (turn_set _ g 1 (.int .u8 120)) (fun _ _ h => h)).trans (turn_set _ g 2 (.string (s.extract k n))) (fun _ _ h => h)).trans (turn_set _ g 5 (.string (s.extract q s.size))) (fun _ _ h => h))
                               have HRY := Lib.hid hRy
                               have y0 := hby.cell 0
                               have y1 := hby.cell 1
                               have y2 := hby.cell 2
                               have y3 := hby.cell 3
                               have y4 := hby.cell 4
                               have y5 := hby.cell 5
                               unfold cndZ at hRy
                               have z0 := hRy.cell 0
                               have z1 := hRy.cell 1
                               have z2 := hRy.cell 2
                               have z3 := hRy.cell 3
                               have z4 := hRy.cell 4
                               have z5 := hRy.cell 5
                               have f0 := hRy.frozen 0
                               have f1 := hRy.frozen 1
                               have f2 := hRy.frozen 2
                               have f3 := hRy.frozen 3
                               have f4 := hRy.frozen 4
                               have f5 := hRy.frozen 5
                               simp only [List.setIfInBounds_toArray, List.set_cons_succ, List.set_cons_zero, List.getElem?_toArray, List.getElem?_cons_zero, List.getElem?_cons_succ] at y0 y1 y2 y3 y4 y5 z0 z1 z2 z3 z4 z5
                               clear hq3 hby hRy))
                          obtain ⟨hT6, hR6⟩ := cnd_set HRY.out (.bool b) (.int .u8 120) (.string (s.extract k n)) (.string ⟨#[]⟩) (.string ⟨#[]⟩) (.string (s.extract q s.size))
                          have p0 := hR6.cell 0
                          have p1 := hR6.cell 1
                          have p2 := hR6.cell 2
                          have p3 := hR6.cell 3
                          have p4 := hR6.cell 4
                          have p5 := hR6.cell 5
                          simp only [List.getElem?_toArray, List.getElem?_cons_zero, List.getElem?_cons_succ] at p0 p1 p2 p3 p4 p5
                          have hT : Turn (fun i => i = g ∨ i = w.heap.size) wr _ := (HTy.out.mono (fun i e => Or.inl e)).trans hT6 (fun i _ e => Or.inr e)
                          refine bodyPost_ret (v := .tuple #[.agg #[.bool b, .int .u8 120, .string (s.extract k n), .string ⟨#[]⟩, .string ⟨#[]⟩, .string (s.extract q s.size)], .int .i64 0]) (by simp [results, Tryd.results25, go_sem, p0, p1, p2, p3, p4, p5]) rfl ⟨CdOut.some_ HLn.out hcd.out HRes.out rfl HN6.out rfl rfl ?_, Turn.below HW.out hT HW.out.size (fun i e => by rcases e with e | e <;> omega)⟩
                          rw [ext_dr, List.take_of_length_le (by rw [dr_len]; exact Nat.le_refl _), HQ3.out]
                          rw [HN5.out]
                        · have HQk := Lib.hid hqk
                          clear hqk
                          have HKq := Lib.hid (cdK_q (t := dr s (k + 1)) HBk.out NA.out NB.out HQk.out)
                          cases hu : upTo s[k] (dr s (k + 1)) with
                          | none =>
                            have HU := Lib.hid hu
                            have HF := Lib.hid (CdOut.form HLn.out hcd.out (by rw [hc.out, HKq.out, hu]))
                            clear hu
                            have hr := HR.out
                            unfold cndZ at hr
                            have z0 := hr.cell 0
                            have z1 := hr.cell 1
                            have z2 := hr.cell 2
                            have z3 := hr.cell 3
                            have z4 := hr.cell 4
                            have z5 := hr.cell 5
                            have f0 := hr.frozen 0
                            have f1 := hr.frozen 1
                            have f2 := hr.frozen 2
                            have f3 := hr.frozen 3
                            have f4 := hr.frozen 4
                            have f5 := hr.frozen 5
                            simp only [List.getElem?_toArray, List.getElem?_cons_zero, List.getElem?_cons_succ] at z0 z1 z2 z3 z4 z5
                            clear hr
                            go_wp2_with (first
                              | (go_at_call 52; refine (HBl.out _ _).mono ?_; rintro e w1 ⟨rfl, rfl⟩; rw [HBk.out])
                              | (go_at_call 53; refine (HQu.out _ _).mono ?_; rintro e w1 ⟨rfl, rfl⟩; rw [HQk.out])
                              | (go_at_call 54
                                 refine (HTo.out (k + 1) (by omega) s[k] _).mono ?_
                                 rintro e w1 ⟨⟨rfl, hu1⟩ | ⟨m, rfl, hm1, hm2, hu1⟩, rfl⟩
                                 rotate_left
                                 (rw [HU.out] at hu1; cases hu1)
                                 clear hu1))
                            obtain ⟨hT6, hR6⟩ := cnd_set HR.out (.bool false) (.int .u8 0) (.string ⟨#[]⟩) (.string ⟨#[]⟩) (.string ⟨#[]⟩) (.string ⟨#[]⟩)
                            have p0 := hR6.cell 0
                            have p1 := hR6.cell 1
                            have p2 := hR6.cell 2
                            have p3 := hR6.cell 3
                            have p4 := hR6.cell 4
                            have p5 := hR6.cell 5
                            simp only [List.getElem?_toArray, List.getElem?_cons_zero, List.getElem?_cons_succ] at p0 p1 p2 p3 p4 p5
                            refine bodyPost_ret (v := .tuple #[.agg #[.bool false, .int .u8 0, .string ⟨#[]⟩, .string ⟨#[]⟩, .string ⟨#[]⟩, .string ⟨#[]⟩], .int .i64 4]) (by simp [results, Tryd.results25, go_sem, p0, p1, p2, p3, p4, p5]) rfl ⟨CdOut.none_ HF.out.1 HF.out.2, Turn.below HW.out hT6 HW.out.size (fun i e => by rw [e]; exact Nat.le_refl _)⟩
                          | some ar =>
                            obtain ⟨a, r⟩ := ar
                            have HU := Lib.hid hu
                            cases hv : upTo s[k] r with
                            | none =>
                              have HV2 := Lib.hid hv
                              have HF := Lib.hid (CdOut.form HLn.out hcd.out (by rw [hc.out, HKq.out, hu]; simp only [hv]))
                              clear hu hv
                              go_upto_region 29 with (first
                                | (go_at_call 52; refine (HBl.out _ _).mono ?_; rintro e w1 ⟨rfl, rfl⟩; rw [HBk.out])
                                | (go_at_call 53; refine (HQu.out _ _).mono ?_; rintro e w1 ⟨rfl, rfl⟩; rw [HQk.out])
                                | (go_at_call 54
                                   refine (HTo.out (k + 1) (by omega) s[k] _).mono ?_
                                   rintro e w1 ⟨⟨rfl, hu1⟩ | ⟨m, rfl, hm1, hm2, hu1⟩, rfl⟩
                                   (rw [HU.out] at hu1; cases hu1)
                                   rw [HU.out] at hu1
                                   injection hu1 with hu1
                                   injection hu1 with ha hrr
                                   have HAa := Lib.hid ha
                                   have HRr := Lib.hid hrr
                                   clear ha hrr))
                              have hr := HR.out
                              unfold cndZ at hr
                              have z0 := hr.cell 0
                              have z1 := hr.cell 1
                              have z2 := hr.cell 2
                              have z3 := hr.cell 3
                              have z4 := hr.cell 4
                              have z5 := hr.cell 5
                              have f0 := hr.frozen 0
                              have f1 := hr.frozen 1
                              have f2 := hr.frozen 2
                              have f3 := hr.frozen 3
                              have f4 := hr.frozen 4
                              have f5 := hr.frozen 5
                              simp only [List.getElem?_toArray, List.getElem?_cons_zero, List.getElem?_cons_succ] at z0 z1 z2 z3 z4 z5
                              clear hr
                              go_wp2_with (first
                                | (go_at_call 54
                                   refine (HTo.out (m + 1) (by omega) s[k] _).mono ?_
                                   rintro e w1 ⟨⟨rfl, hv1⟩ | ⟨n, rfl, hn1, hn2, hv1⟩, rfl⟩
                                   rotate_left
                                   (rw [← HRr.out, HV2.out] at hv1; cases hv1)
                                   clear hv1))
                              obtain ⟨hT6, hR6⟩ := cnd_set HR.out (.bool false) (.int .u8 0) (.string ⟨#[]⟩) (.string ⟨#[]⟩) (.string ⟨#[]⟩) (.string ⟨#[]⟩)
                              have p0 := hR6.cell 0
                              have p1 := hR6.cell 1
                              have p2 := hR6.cell 2
                              have p3 := hR6.cell 3
                              have p4 := hR6.cell 4
                              have p5 := hR6.cell 5
                              simp only [List.getElem?_toArray, List.getElem?_cons_zero, List.getElem?_cons_succ] at p0 p1 p2 p3 p4 p5
                              refine bodyPost_ret (v := .tuple #[.agg #[.bool false, .int .u8 0, .string ⟨#[]⟩, .string ⟨#[]⟩, .string ⟨#[]⟩, .string ⟨#[]⟩], .int .i64 4]) (by simp [results, Tryd.results25, go_sem, p0, p1, p2, p3, p4, p5]) rfl ⟨CdOut.none_ HF.out.1 HF.out.2, Turn.below HW.out hT6 HW.out.size (fun i e => by rw [e]; exact Nat.le_refl _)⟩
                            | some br =>
                              obtain ⟨b2, r2⟩ := br
                              have HV2 := Lib.hid hv
                              have HRes := Lib.hid (show cdK (dr s k) = some ⟨false, 39, [], a, b2, skL r2⟩ by rw [hc.out, HKq.out, hu]; simp only [hv])
                              clear hu hv
                              go_upto_region 29 with (first
                                | (go_at_call 52; refine (HBl.out _ _).mono ?_; rintro e w1 ⟨rfl, rfl⟩; rw [HBk.out])
                                | (go_at_call 53; refine (HQu.out _ _).mono ?_; rintro e w1 ⟨rfl, rfl⟩; rw [HQk.out])
                                | (go_at_call 54
                                   refine (HTo.out (k + 1) (by omega) s[k] _).mono ?_
                                   rintro e w1 ⟨⟨rfl, hu1⟩ | ⟨m, rfl, hm1, hm2, hu1⟩, rfl⟩
                                   (rw [HU.out] at hu1; cases hu1)
                                   rw [HU.out] at hu1
                                   injection hu1 with hu1
                                   injection hu1 with ha hrr
                                   have HAa := Lib.hid ha
                                   have HRr := Lib.hid hrr
                                   clear ha hrr))
                              have gx1 := HG.out.frozen 1
                              have gx2 := HG.out.frozen 2
                              have gx3 := HG.out.frozen 3
                              have gx4 := HG.out.frozen 4
                              have gx5 := HG.out.frozen 5
                              have gc1 := HG.out.cell 1
                              have gc2 := HG.out.cell 2
                              have gc3 := HG.out.cell 3
                              have gc4 := HG.out.cell 4
                              have gc5 := HG.out.cell 5
                              simp only [List.getElem?_toArray, List.getElem?_cons_zero, List.getElem?_cons_succ] at gc1 gc2 gc3 gc4 gc5
                              go_wp2_with (first
                                | (go_at_call 54
                                   refine (HTo.out (m + 1) (by omega) s[k] _).mono ?_
                                   rintro e w1 ⟨⟨rfl, hv1⟩ | ⟨n, rfl, hn1, hn2, hv1⟩, rfl⟩
                                   (rw [← HRr.out, HV2.out] at hv1; cases hv1)
                                   rw [← HRr.out, HV2.out] at hv1
                                   injection hv1 with hv1
                                   injection hv1 with hb1 hrr2
                                   have HBb := Lib.hid hb1
                                   have HR2 := Lib.hid hrr2
                                   clear hb1 hrr2)
                                | (go_at_call 23
                                   refine (HSk.out (n + 1) (by omega) _).mono ?_
                                   rintro e w1 ⟨⟨q, rfl, hq1, hq2, hq3⟩, rfl⟩
                                   have HQ3 := Lib.hid hq3
                                   have hby := blk_set (o := 5) (blk_set (o := 4) (blk_set (o := 3) (blk_set (o := 1) HG.out (.int .u8 39)) (.string (s.extract (k + 1) m))) (.string (s.extract (m + 1) n))) (.string (s.extract q s.size))
                                   have hRy := ((((HR.out.far (p := ⟨g, 1, none⟩) (by simp; omega) (.int .u8 39)).far (p := ⟨g, 3, none⟩) (by simp; omega) (.string (s.extract (k + 1) m))).far (p := ⟨g, 4, none⟩) (by simp; omega) (.string (s.extract (m + 1) n))).far (p := ⟨g, 5, none⟩) (by simp; omega) (.string (s.extract q s.size)) : Blk _ w.heap.size 54 cndZ)
                                   have HTy := Lib.hid (((((Turn.refl (· = g) wr).trans (turn_set _ g 1 (.int .u8 39)) (fun _ _ h => h)).trans (turn_set _ g 3 (.string (s.extract (k + 1) m))) (fun _ _ h => h)).trans (turn_set _ g 4 (.string (s.extract (m + 1) n))) (fun _ _ h => h)).trans (turn_set _ g 5 (.string (s.extract q s.size))) (fun _ _ h => h))
                                   have HRY := Lib.hid hRy
                                   have y0 := hby.cell 0
                                   have y1 := hby.cell 1
                                   have y2 := hby.cell 2
                                   have y3 := hby.cell 3
                                   have y4 := hby.cell 4
                                   have y5 := hby.cell 5
                                   unfold cndZ at hRy
                                   have z0 := hRy.cell 0
                                   have z1 := hRy.cell 1
                                   have z2 := hRy.cell 2
                                   have z3 := hRy.cell 3
                                   have z4 := hRy.cell 4
                                   have z5 := hRy.cell 5
                                   have f0 := hRy.frozen 0
                                   have f1 := hRy.frozen 1
                                   have f2 := hRy.frozen 2
                                   have f3 := hRy.frozen 3
                                   have f4 := hRy.frozen 4
                                   have f5 := hRy.frozen 5
                                   simp only [List.setIfInBounds_toArray, List.set_cons_succ, List.set_cons_zero, List.getElem?_toArray, List.getElem?_cons_zero, List.getElem?_cons_succ] at y0 y1 y2 y3 y4 y5 z0 z1 z2 z3 z4 z5
                                   clear hq3 hby hRy))
                              obtain ⟨hT6, hR6⟩ := cnd_set HRY.out (.bool b) (.int .u8 39) (.string ⟨#[]⟩) (.string (s.extract (k + 1) m)) (.string (s.extract (m + 1) n)) (.string (s.extract q s.size))
                              have p0 := hR6.cell 0
                              have p1 := hR6.cell 1
                              have p2 := hR6.cell 2
                              have p3 := hR6.cell 3
                              have p4 := hR6.cell 4
                              have p5 := hR6.cell 5
                              simp only [List.getElem?_toArray, List.getElem?_cons_zero, List.getElem?_cons_succ] at p0 p1 p2 p3 p4 p5
                              have hT : Turn (fun i => i = g ∨ i = w.heap.size) wr _ := (HTy.out.mono (fun i e => Or.inl e)).trans hT6 (fun i _ e => Or.inr e)
                              refine bodyPost_ret (v := .tuple #[.agg #[.bool b, .int .u8 39, .string ⟨#[]⟩, .string (s.extract (k + 1) m), .string (s.extract (m + 1) n), .string (s.extract q s.size)], .int .i64 0]) (by simp [results, Tryd.results25, go_sem, p0, p1, p2, p3, p4, p5]) rfl ⟨CdOut.some_ HLn.out hcd.out HRes.out rfl rfl HAa.out.symm HBb.out.symm ?_, Turn.below HW.out hT HW.out.size (fun i e => by rcases e with e | e <;> omega)⟩
                              rw [ext_dr, List.take_of_length_le (by rw [dr_len]; exact Nat.le_refl _), HQ3.out]
                              rw [HR2.out]
          · have hksB : ((k : Int) == (s.size : Int)) = false := by rw [beq_eq_false_iff_ne]; omega
            have HBk := Lib.hid hbk
            clear hbk
            have HF := Lib.hid (CdOut.form HLn.out hcd.out (by rw [hc.out, cdK_cons, if_pos HBk.out]))
            have hr := HR.out
            unfold cndZ at hr
            have z0 := hr.cell 0
            have z1 := hr.cell 1
            have z2 := hr.cell 2
            have z3 := hr.cell 3
            have z4 := hr.cell 4
            have z5 := hr.cell 5
            have f0 := hr.frozen 0
            have f1 := hr.frozen 1
            have f2 := hr.frozen 2
            have f3 := hr.frozen 3
            have f4 := hr.frozen 4
            have f5 := hr.frozen 5
            simp only [List.getElem?_toArray, List.getElem?_cons_zero, List.getElem?_cons_succ] at z0 z1 z2 z3 z4 z5
            clear hr
            go_wp2_with (go_at_call 52; refine (HBl.out _ _).mono ?_; rintro e w1 ⟨rfl, rfl⟩; rw [HBk.out])
            obtain ⟨hT6, hR6⟩ := cnd_set HR.out (.bool false) (.int .u8 0) (.string ⟨#[]⟩) (.string ⟨#[]⟩) (.string ⟨#[]⟩) (.string ⟨#[]⟩)
            have p0 := hR6.cell 0
            have p1 := hR6.cell 1
            have p2 := hR6.cell 2
            have p3 := hR6.cell 3
            have p4 := hR6.cell 4
            have p5 := hR6.cell 5
            simp only [List.getElem?_toArray, List.getElem?_cons_zero, List.getElem?_cons_succ] at p0 p1 p2 p3 p4 p5
            refine bodyPost_ret (v := .tuple #[.agg #[.bool false, .int .u8 0, .string ⟨#[]⟩, .string ⟨#[]⟩, .string ⟨#[]⟩, .string ⟨#[]⟩], .int .i64 4]) (by simp [results, Tryd.results25, go_sem, p0, p1, p2, p3, p4, p5]) rfl ⟨CdOut.none_ HF.out.1 HF.out.2, Turn.below HW.out hT6 HW.out.size (fun i e => by rw [e]; exact Nat.le_refl _)⟩
      · have he := Lib.hid (dr_end (s := s) (i := k) (by omega))
        have hcd : Hid (cdL s.data.toList = none) := Lib.hid (by
          unfold cdL
          rw [HN.out, he.out]
          rfl)
        have hks : k = s.size := by omega
        have HF := Lib.hid (show cdR s.data.toList = none ∧ cdEr s.data.toList = 4 by
          unfold cdR cdEr
          rw [if_pos HLn.out, if_pos HLn.out, hcd.out]
          exact ⟨rfl, rfl⟩)
        subst hks
        have hr := HR.out
        unfold cndZ at hr
        have z0 := hr.cell 0
        have z1 := hr.cell 1
        have z2 := hr.cell 2
        have z3 := hr.cell 3
        have z4 := hr.cell 4
        have z5 := hr.cell 5
        have f0 := hr.frozen 0
        have f1 := hr.frozen 1
        have f2 := hr.frozen 2
        have f3 := hr.frozen 3
        have f4 := hr.frozen 4
        have f5 := hr.frozen 5
        simp only [List.getElem?_toArray, List.getElem?_cons_zero, List.getElem?_cons_succ] at z0 z1 z2 z3 z4 z5
        clear hr
        go_wp2_with fail
        obtain ⟨hT6, hR6⟩ := cnd_set HR.out (.bool false) (.int .u8 0) (.string ⟨#[]⟩) (.string ⟨#[]⟩) (.string ⟨#[]⟩) (.string ⟨#[]⟩)
        have p0 := hR6.cell 0
        have p1 := hR6.cell 1
        have p2 := hR6.cell 2
        have p3 := hR6.cell 3
        have p4 := hR6.cell 4
        have p5 := hR6.cell 5
        simp only [List.getElem?_toArray, List.getElem?_cons_zero, List.getElem?_cons_succ] at p0 p1 p2 p3 p4 p5
        refine bodyPost_ret (v := .tuple #[.agg #[.bool false, .int .u8 0, .string ⟨#[]⟩, .string ⟨#[]⟩, .string ⟨#[]⟩, .string ⟨#[]⟩], .int .i64 4]) (by simp [results, Tryd.results25, go_sem, p0, p1, p2, p3, p4, p5]) rfl ⟨CdOut.none_ HF.out.1 HF.out.2, Turn.below HW.out hT6 HW.out.size (fun i e => by rw [e]; exact Nat.le_refl _)⟩
end Go.Proofs.YtfcbpehgkpmniaaDoor
