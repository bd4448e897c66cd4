/- Walk of the code's readWord: the argument at the front of a text. -/
import Derived.Test.YtfcbpehgkpmniaaDoorCc
import Derived.Test.YtfcbpehgkpmniaaDoorAe
import Derived.Deep.CutRange
namespace Go.Proofs.YtfcbpehgkpmniaaDoor
open Go.RowKit Go.Maps Go.WideMaps

/-- What is read from here on, within quotes or behind them. -/
def rdW (q : Bool) (l : List UInt8) : List UInt8 × List UInt8 := if q then ((qtL l).1 ++ (tlL (qtL l).2).1, (tlL (qtL l).2).2) else tlL l
theorem rd_first (c : UInt8) (t : List UInt8) : agL1 (c :: t) = rdW (decide (c.toNat = 34)) (if c.toNat = 34 then t else c :: t) := by
  unfold rdW
  by_cases h : c.toNat = 34
  · rw [agL1_q h, if_pos (by simp [h]), if_pos h]
  · rw [agL1_p h, if_neg (by simp [h]), if_neg h]
theorem rd_nil (q : Bool) : rdW q [] = ([], []) := by cases q <;> rfl
theorem rd_two {q : Bool} {c d : UInt8} {t : List UInt8} (h : c.toNat = 92) : rdW q (c :: d :: t) = (c :: d :: (rdW q t).1, (rdW q t).2) := by
  unfold rdW
  cases q
  · simp only [Bool.false_eq_true, if_false]
    rw [tlL_two (by unfold blB; simp [h]) h]
  · simp only [if_true]
    rw [qtL_two h]
    rfl
theorem rd_last {q : Bool} {c : UInt8} (h : c.toNat = 92) : rdW q [c] = ([c], []) := by
  unfold rdW
  cases q
  · simp only [Bool.false_eq_true, if_false]
    rw [tlL_one (by unfold blB; simp [h]) (.inr rfl)]
    rfl
  · simp only [if_true]
    rw [qtL_one (by omega) (.inr rfl)]
    rfl
theorem rd_dbl {c d : UInt8} {t : List UInt8} (h : c.toNat = 34) (h2 : d.toNat = 34) : rdW true (c :: d :: t) = (34 :: (rdW true t).1, (rdW true t).2) := by
  unfold rdW
  simp only [if_true]
  rw [qtL_dbl h h2, show d = 34 from UInt8.toNat_inj.1 h2]
  rfl
theorem rd_shut {c : UInt8} {t : List UInt8} (h : c.toNat = 34) (h2 : ∀ d r, t = d :: r → d.toNat ≠ 34) : rdW true (c :: t) = rdW false t := by
  unfold rdW
  simp only [if_true, Bool.false_eq_true, if_false]
  cases t with
  | nil => rw [qtL_end h]; rfl
  | cons d r => rw [qtL_stop h (h2 d r rfl)]; rfl
theorem rd_blank {c : UInt8} {t : List UInt8} (h : blB c = true) : rdW false (c :: t) = ([], c :: t) := by
  unfold rdW
  simp only [Bool.false_eq_true, if_false]
  rw [tlL_stop h]
theorem rd_one {q : Bool} {c : UInt8} {t : List UInt8} (h : c.toNat ≠ 92) (h1 : q = true → c.toNat ≠ 34) (h2 : q = false → blB c = false) : rdW q (c :: t) = (c :: (rdW q t).1, (rdW q t).2) := by
  unfold rdW
  cases q
  · simp only [Bool.false_eq_true, if_false]
    rw [tlL_one (h2 rfl) (.inl h)]
  · simp only [if_true]
    rw [qtL_one (h1 rfl) (.inl h)]
    rfl
/-- A builder that holds these bytes. -/
abbrev Bu (b : Nat) (a : List UInt8) (w : World) : Prop := Lib.IsBuilder 66 5 b b (Lib.byteCells a) w
theorem bu_new (w : World) : Bu w.heap.size [] (w.alloc (.cells #[.pointer none, .slice none 0 0] 66)) :=
  .inl ⟨Nat.le_refl _, .slice none 0 0, Blk.new w _ _, World.ownsRow_nil _ _ _ _, by simp [Value.ownBlock]⟩
theorem bu_str (a : List UInt8) (s : ByteArray) : Lib.byteCells a ++ Lib.strCells s = Lib.byteCells (a ++ s.data.toList) := (Lib.byteCells_append a s.data.toList).symm
theorem bu_one (a : List UInt8) (c : UInt8) : Lib.byteCells a ++ [.int .u8 (c.toNat : Int)] = Lib.byteCells (a ++ [c]) := (Lib.byteCells_append a [c]).symm
theorem bu_q (a : List UInt8) : Lib.byteCells a ++ [.int .u8 34] = Lib.byteCells (a ++ [34]) := (Lib.byteCells_append a [34]).symm
theorem pre_two (s : ByteArray) (j : Nat) : Lib.hasPrefix (s.extract j s.size).data.toList [34, 34] = match dr s j with
    | c :: d :: _ => decide (c.toNat = 34) && decide (d.toNat = 34)
    | _ => false := by
  rw [ext_dr, List.take_of_length_le (by rw [dr_len]; exact Nat.le_refl _)]
  unfold Lib.hasPrefix
  cases dr s j with
  | nil => rfl
  | cons c t =>
    cases t with
    | nil => simp [List.isPrefixOf]
    | cons d r =>
      simp only [List.isPrefixOf, Bool.and_true]
      rw [Bool.eq_iff_iff]
      simp only [Bool.and_eq_true, beq_iff_eq, decide_eq_true_eq]
      constructor
      · rintro ⟨rfl, rfl⟩; exact ⟨rfl, rfl⟩
      · rintro ⟨h1, h2⟩; exact ⟨UInt8.toNat_inj.1 h1.symm, UInt8.toNat_inj.1 h2.symm⟩
set_option maxRecDepth 100000 in
set_option maxHeartbeats 2000000 in
/-- readWord. -/
theorem cReadWord (s : ByteArray) (h0 : 0 < s.size) (hbl : blB s[0] = false) (hs : s.size ≤ 1000000) (w : World) :
    Calls Tryd.prog 22 #[.string s] w fun e w' => (∃ (o : ByteArray) (k : Nat), e = .returned (.tuple #[.string o, .int .i64 k]) ∧ 1 ≤ k ∧ k ≤ s.size ∧ o.size ≤ s.size ∧ o.data.toList = (agL1 (dr s 0)).1 ∧ dr s k = (agL1 (dr s 0)).2) ∧ Below w.heap.size w w' := by
  have HBl := Lib.hid (fun c w => cBlank c w)
  have HP := Lib.hid (fun (j : Nat) w => Tryd.strings_HasPrefix (s.extract j s.size) ⟨#[34, 34]⟩ w)
  have HB0 := Lib.hid (bu_new w)
  have HW0 := Lib.hid (show Below w.heap.size w (w.alloc (.cells #[.pointer none, .slice none 0 0] 66)) from (Below.refl _ _).alloc (Nat.le_refl _) _)
  have hc := Lib.hid (dr_cons h0)
  have HF := Lib.hid (rd_first s[0] (dr s 1))
  have HS : Hid (∀ c : UInt8, c.toNat = 92 → blB c = false) := Lib.hid (fun c h => by unfold blB; simp [h])
  go_enter Tryd.func22, Tryd.ntmps22
  obtain ⟨q0, hq0⟩ : ∃ q0, q0 = decide (s[0].toNat = 34) := ⟨_, rfl⟩
  rw [← hq0] at HF
  have hB0 : ((s[0].toNat : Int) == 34) = q0 := by
    rw [hq0, Bool.eq_iff_iff]
    simp only [beq_iff_eq, decide_eq_true_eq]
    omega
  have HQ0 := Lib.hid hq0
  clear hq0
  cases q0
  all_goals
    go_wp2_with fail
    go_loopw [3, 5] (fun v3 v5 wr => ∃ (j : Nat) (q : Bool) (a : List UInt8), (q = true → 1 ≤ j) ∧ j ≤ s.size ∧ v3 = .int .i64 j ∧ v5 = .bool q ∧ Bu w.heap.size a wr ∧ Below w.heap.size w wr ∧ a.length ≤ j ∧ a ++ (rdW q (dr s j)).1 = (agL1 (dr s 0)).1 ∧ (rdW q (dr s j)).2 = (agL1 (dr s 0)).2) (fun v3 _ _ => s.size - (intOf v3).toNat)
    case atStart =>
      have h := HF.out
      have hq := HQ0.out
      first
      | (rw [if_pos (by simpa using hq.symm)] at h
         exact ⟨1, true, [], fun _ => Nat.le_refl _, h0, by go_num, rfl, HB0.out, HW0.out, Nat.zero_le _, by rw [hc.out, Nat.zero_add, h]; rfl, by rw [hc.out, Nat.zero_add, h]⟩)
      | (rw [if_neg (by simpa using hq.symm)] at h
         exact ⟨0, false, [], fun h => (by cases h), Nat.zero_le _, rfl, rfl, HB0.out, HW0.out, Nat.zero_le _, by rw [hc.out, Nat.zero_add, h]; rfl, by rw [hc.out, Nat.zero_add, h]⟩)
    case round =>
      obtain ⟨j, q, a, hq1, hj, rfl, rfl, hbu, hb, hal, h1, h2⟩ := hrel
      have HU := Lib.hid hbu
      have HB := Lib.hid hb
      have H1 := Lib.hid h1
      have H2 := Lib.hid h2
      clear hbu hb h1 h2 HB0 HW0
      by_cases hjl : j < s.size
      · have hd := Lib.hid (dr_cons hjl)
        cases q
        · by_cases h9 : (s[j].toNat : Int) = 92
          · have hB : ((s[j].toNat : Int) == 92) = true := by simp [h9]
            have h92 := Lib.hid (show s[j].toNat = 92 by omega)
            clear h9
            by_cases hj2 : j + 1 < s.size
            · have hd2 := Lib.hid (dr_cons hj2)
              have hmin : min ((j : Int) + 2) (s.size : Int) = (j : Int) + 2 := by omega
              have hz : (s.extract j (j + 2)).size = 2 := by rw [size_len, ext_two hj2]; rfl
              go_wp2_with (first
                | (go_at_call 34
                   refine (bWrite w.heap.size w.heap.size _ (s.extract j (j + 2)) _ HU.out (by rw [Lib.byteCells_length]; omega) HB.out.size).mono ?_
                   rintro e w1 ⟨rfl, hu1, hb1, _⟩
                   rw [bu_str] at hu1
                   have HU1 := Lib.hid hu1
                   have HB1 := Lib.hid (HB.out.trans hb1)
                   clear hu1 hb1))
              go_roundw
              case rel => exact ⟨j + 2, false, a ++ (s.extract j (j + 2)).data.toList, by omega, by omega, by go_num, rfl, HU1.out, HB1.out, by rw [ext_two hj2]; simp; omega, by
                rw [← H1.out, hd.out, hd2.out, rd_two h92.out, ext_two hj2]; simp, by rw [← H2.out, hd.out, hd2.out, rd_two h92.out]⟩
              case measure => simp [intOf]; omega
            · have hd2 := Lib.hid (dr_end (s := s) (i := j + 1) (by omega))
              have hmin : min ((j : Int) + 2) (s.size : Int) = (j : Int) + 1 := by omega
              have hz : (s.extract j (j + 1)).size = 1 := by rw [size_len, ext_one hjl]; rfl
              go_wp2_with (first
                | (go_at_call 34
                   refine (bWrite w.heap.size w.heap.size _ (s.extract j (j + 1)) _ HU.out (by rw [Lib.byteCells_length]; omega) HB.out.size).mono ?_
                   rintro e w1 ⟨rfl, hu1, hb1, _⟩
                   rw [bu_str] at hu1
                   have HU1 := Lib.hid hu1
                   have HB1 := Lib.hid (HB.out.trans hb1)
                   clear hu1 hb1))
              go_roundw
              case rel => exact ⟨j + 1, false, a ++ (s.extract j (j + 1)).data.toList, by omega, by omega, by go_num, rfl, HU1.out, HB1.out, by rw [ext_one hjl]; simp; omega, by
                rw [← H1.out, hd.out, hd2.out, rd_last h92.out, ext_one hjl, rd_nil]; simp, by rw [← H2.out, hd.out, hd2.out, rd_last h92.out, rd_nil]⟩
              case measure => simp [intOf]; omega
          · have hB : ((s[j].toNat : Int) == 92) = false := by simp [h9]
            have h92 := Lib.hid (show s[j].toNat ≠ 92 by omega)
            clear h9
            cases hbk : blB s[j]
            · have HBk := Lib.hid hbk
              have HO := Lib.hid (rd_one (q := false) (t := dr s (j + 1)) h92.out (fun h => by cases h) (fun _ => hbk))
              clear hbk
              go_wp2_with (first
                | (go_at_call 28; refine (HBl.out _ _).mono ?_; rintro e w1 ⟨rfl, rfl⟩; rw [HBk.out])
                | (go_at_call 51
                   refine (bByte w.heap.size w.heap.size _ (s[j].toNat : Int) _ HU.out (by rw [Lib.byteCells_length]; omega) HB.out.size).mono ?_
                   rintro e w1 ⟨rfl, hu1, hb1, _⟩
                   rw [bu_one] at hu1
                   have HU1 := Lib.hid hu1
                   have HB1 := Lib.hid (HB.out.trans hb1)
                   clear hu1 hb1))
              go_roundw
              case rel => exact ⟨j + 1, false, a ++ [s[j]], by omega, by omega, by go_num, rfl, HU1.out, HB1.out, by simp; omega, by
                rw [← H1.out, hd.out, HO.out]; simp, by rw [← H2.out, hd.out, HO.out]⟩
              case measure => simp [intOf]; omega
            · have HBk := Lib.hid hbk
              have HO := Lib.hid (rd_blank (t := dr s (j + 1)) hbk)
              clear hbk
              go_wp2_with (first
                | (go_at_call 28; refine (HBl.out _ _).mono ?_; rintro e w1 ⟨rfl, rfl⟩; rw [HBk.out])
                | (go_at_call 40
                   refine (Tryd.Builder_String_any w.heap.size w.heap.size a _ HU.out HB.out.size).mono ?_
                   rintro e w1 ⟨rfl, hb1⟩
                   have HB1 := Lib.hid (HB.out.trans hb1)
                   clear hb1))
              go_ret2
              refine ⟨⟨⟨a.toArray⟩, j, rfl, Nat.pos_of_ne_zero (fun e => by subst e; have h := HBk.out; rw [hbl] at h; cases h), by omega, by show a.toArray.size ≤ s.size; rw [List.size_toArray]; omega, ?_, ?_⟩, HB1.out⟩
              · rw [← H1.out, hd.out, HO.out]; simp
              · rw [← H2.out, hd.out, HO.out]
        · by_cases h9 : (s[j].toNat : Int) = 92
          · have hB : ((s[j].toNat : Int) == 92) = true := by simp [h9]
            have h92 := Lib.hid (show s[j].toNat = 92 by omega)
            clear h9
            by_cases hj2 : j + 1 < s.size
            · have hd2 := Lib.hid (dr_cons hj2)
              have hmin : min ((j : Int) + 2) (s.size : Int) = (j : Int) + 2 := by omega
              have hz : (s.extract j (j + 2)).size = 2 := by rw [size_len, ext_two hj2]; rfl
              go_wp2_with (first
                | (go_at_call 34
                   refine (bWrite w.heap.size w.heap.size _ (s.extract j (j + 2)) _ HU.out (by rw [Lib.byteCells_length]; omega) HB.out.size).mono ?_
                   rintro e w1 ⟨rfl, hu1, hb1, _⟩
                   rw [bu_str] at hu1
                   have HU1 := Lib.hid hu1
                   have HB1 := Lib.hid (HB.out.trans hb1)
                   clear hu1 hb1))
              go_roundw
              case rel => exact ⟨j + 2, true, a ++ (s.extract j (j + 2)).data.toList, by omega, by omega, by go_num, rfl, HU1.out, HB1.out, by rw [ext_two hj2]; simp; omega, by
                rw [← H1.out, hd.out, hd2.out, rd_two h92.out, ext_two hj2]; simp, by rw [← H2.out, hd.out, hd2.out, rd_two h92.out]⟩
              case measure => simp [intOf]; omega
            · have hd2 := Lib.hid (dr_end (s := s) (i := j + 1) (by omega))
              have hmin : min ((j : Int) + 2) (s.size : Int) = (j : Int) + 1 := by omega
              have hz : (s.extract j (j + 1)).size = 1 := by rw [size_len, ext_one hjl]; rfl
              go_wp2_with (first
                | (go_at_call 34
                   refine (bWrite w.heap.size w.heap.size _ (s.extract j (j + 1)) _ HU.out (by rw [Lib.byteCells_length]; omega) HB.out.size).mono ?_
                   rintro e w1 ⟨rfl, hu1, hb1, _⟩
                   rw [bu_str] at hu1
                   have HU1 := Lib.hid hu1
                   have HB1 := Lib.hid (HB.out.trans hb1)
                   clear hu1 hb1))
              go_roundw
              case rel => exact ⟨j + 1, true, a ++ (s.extract j (j + 1)).data.toList, by omega, by omega, by go_num, rfl, HU1.out, HB1.out, by rw [ext_one hjl]; simp; omega, by
                rw [← H1.out, hd.out, hd2.out, rd_last h92.out, ext_one hjl, rd_nil]; simp, by rw [← H2.out, hd.out, hd2.out, rd_last h92.out, rd_nil]⟩
              case measure => simp [intOf]; omega
          · have hB : ((s[j].toNat : Int) == 92) = false := by simp [h9]
            have h92 := Lib.hid (show s[j].toNat ≠ 92 by omega)
            clear h9
            cases hpj : Lib.hasPrefix (s.extract j s.size).data.toList [34, 34]
            · have HPj := Lib.hid hpj
              rw [pre_two, hd.out] at hpj
              have HPq := Lib.hid hpj
              clear hpj
              by_cases h3 : (s[j].toNat : Int) = 34
              · have hB3 : ((s[j].toNat : Int) == 34) = true := by simp [h3]
                have h34 := Lib.hid (show s[j].toNat = 34 by omega)
                have HSh := Lib.hid (rd_shut (t := dr s (j + 1)) h34.out (fun d r e h => by
                  have := HPq.out
                  rw [e] at this
                  simp [h34.out, h] at this))
                clear h3
                go_wp2_with (first
                  | (go_at_call 50; refine (HP.out j _).mono ?_; rintro e w1 ⟨rfl, rfl⟩; rw [HPj.out]))
                go_roundw
                case rel => exact ⟨j + 1, false, a, by omega, by omega, by go_num, rfl, HU.out, HB.out, by omega, by rw [← H1.out, hd.out, HSh.out], by rw [← H2.out, hd.out, HSh.out]⟩
                case measure => simp [intOf]; omega
              · have hB3 : ((s[j].toNat : Int) == 34) = false := by simp [h3]
                have h34 := Lib.hid (show s[j].toNat ≠ 34 by omega)
                have HO := Lib.hid (rd_one (q := true) (t := dr s (j + 1)) h92.out (fun _ => h34.out) (fun h => by cases h))
                clear h3
                go_wp2_with (first
                  | (go_at_call 50; refine (HP.out j _).mono ?_; rintro e w1 ⟨rfl, rfl⟩; rw [HPj.out])
                  | (go_at_call 51
                     refine (bByte w.heap.size w.heap.size _ (s[j].toNat : Int) _ HU.out (by rw [Lib.byteCells_length]; omega) HB.out.size).mono ?_
                     rintro e w1 ⟨rfl, hu1, hb1, _⟩
                     rw [bu_one] at hu1
                     have HU1 := Lib.hid hu1
                     have HB1 := Lib.hid (HB.out.trans hb1)
                     clear hu1 hb1))
                go_roundw
                case rel => exact ⟨j + 1, true, a ++ [s[j]], by omega, by omega, by go_num, rfl, HU1.out, HB1.out, by simp; omega, by
                  rw [← H1.out, hd.out, HO.out]; simp, by rw [← H2.out, hd.out, HO.out]⟩
                case measure => simp [intOf]; omega
            · have HPj := Lib.hid hpj
              rw [pre_two, hd.out] at hpj
              by_cases hj2 : j + 1 < s.size
              · have hd2 := Lib.hid (dr_cons hj2)
                rw [hd2.out] at hpj
                simp only [Bool.and_eq_true, decide_eq_true_eq] at hpj
                have HO := Lib.hid (rd_dbl (t := dr s (j + 1 + 1)) hpj.1 hpj.2)
                clear hpj
                go_wp2_with (first
                  | (go_at_call 50; refine (HP.out j _).mono ?_; rintro e w1 ⟨rfl, rfl⟩; rw [HPj.out])
                  | (go_at_call 51
                     refine (bByte w.heap.size w.heap.size _ 34 _ HU.out (by rw [Lib.byteCells_length]; omega) HB.out.size).mono ?_
                     rintro e w1 ⟨rfl, hu1, hb1, _⟩
                     rw [bu_q] at hu1
                     have HU1 := Lib.hid hu1
                     have HB1 := Lib.hid (HB.out.trans hb1)
                     clear hu1 hb1))
                go_roundw
                case rel => exact ⟨j + 2, true, a ++ [34], by omega, by omega, by go_num, rfl, HU1.out, HB1.out, by simp; omega, by
                  rw [← H1.out, hd.out, hd2.out, HO.out]; simp, by rw [← H2.out, hd.out, hd2.out, HO.out]⟩
                case measure => simp [intOf]; omega
              · rw [dr_end (s := s) (i := j + 1) (by omega)] at hpj
                cases hpj
      · have he := Lib.hid (dr_end (s := s) (i := j) (by omega))
        go_wp2_with (first
          | (go_at_call 40
             refine (Tryd.Builder_String_any w.heap.size w.heap.size a _ HU.out HB.out.size).mono ?_
             rintro e w1 ⟨rfl, hb1⟩
             have HB1 := Lib.hid (HB.out.trans hb1)
             clear hb1))
        go_ret2
        refine ⟨⟨⟨a.toArray⟩, j, rfl, by omega, hj, by show a.toArray.size ≤ s.size; rw [List.size_toArray]; omega, ?_, ?_⟩, HB1.out⟩
        · rw [← H1.out, he.out, rd_nil]; simp
        · rw [← H2.out, he.out, rd_nil]
end Go.Proofs.YtfcbpehgkpmniaaDoor
