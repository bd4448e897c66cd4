/- Walk of the document's Words: the arguments of a text. -/
import Derived.Test.YtfcbpehgkpmniaaDoorAd
import Derived.Deep.CutRange
namespace Go.Proofs.YtfcbpehgkpmniaaDoor
open Go.RowKit Go.Maps Go.WideMaps

theorem qtL_end {c : UInt8} (h : c.toNat = 34) : qtL [c] = ([], []) := by
  unfold qtL; rw [if_pos h]
theorem qtL_stop {c d : UInt8} {t : List UInt8} (h : c.toNat = 34) (h2 : d.toNat ≠ 34) : qtL (c :: d :: t) = ([], d :: t) := by
  conv => lhs; unfold qtL
  rw [if_pos h, if_neg h2]
theorem qtL_dbl {c d : UInt8} {t : List UInt8} (h : c.toNat = 34) (h2 : d.toNat = 34) : qtL (c :: d :: t) = (d :: (qtL t).1, (qtL t).2) := by
  conv => lhs; unfold qtL
  rw [if_pos h, if_pos h2]
theorem qtL_two {c d : UInt8} {t : List UInt8} (h : c.toNat = 92) : qtL (c :: d :: t) = (c :: d :: (qtL t).1, (qtL t).2) := by
  conv => lhs; unfold qtL
  rw [if_neg (by omega), if_pos h]
theorem qtL_one {c : UInt8} {t : List UInt8} (h : c.toNat ≠ 34) (h2 : c.toNat ≠ 92 ∨ t = []) : qtL (c :: t) = (c :: (qtL t).1, (qtL t).2) := by
  cases t with
  | nil => unfold qtL; rw [if_neg h]
  | cons d t =>
    have h2 : c.toNat ≠ 92 := h2.resolve_right (by simp)
    conv => lhs; unfold qtL
    rw [if_neg h, if_neg h2]
theorem agL1_q {c : UInt8} {t : List UInt8} (h : c.toNat = 34) : agL1 (c :: t) = ((qtL t).1 ++ (tlL (qtL t).2).1, (tlL (qtL t).2).2) := by
  unfold agL1; simp only [h, if_true]
theorem agL1_p {c : UInt8} {t : List UInt8} (h : c.toNat ≠ 34) : agL1 (c :: t) = tlL (c :: t) := by
  unfold agL1; simp only [h, if_false]
/-- The arguments of a text. -/
def wdsT (s : ByteArray) : List ByteArray := (wdsL s.data.toList).map fun l => ⟨l.toArray⟩
theorem skL_twice (l : List UInt8) : skL (skL l) = skL l := by
  cases h : skL l with
  | nil => rfl
  | cons c t => rw [skL_cons, skL_head h]; rfl
theorem wdsL_sk (l : List UInt8) : wdsL (skL l) = wdsL l := by
  rw [wdsL_eq, wdsL_eq l, skL_twice]
theorem wdsL_at {l : List UInt8} {c : UInt8} {t : List UInt8} (h : l = c :: t) (hb : blB c = false) : wdsL l = (agL1 l).1 :: wdsL (agL1 l).2 := by
  subst h
  rw [wdsL_eq, skL_cons, hb]
  rfl
theorem ba_back {L : List ByteArray} : (L.map fun x => x.data.toList).map (fun l => (⟨l.toArray⟩ : ByteArray)) = L := by
  rw [List.map_map]
  exact (List.map_congr_left (fun x _ => rfl)).trans (List.map_id L)
set_option maxRecDepth 100000 in
set_option maxHeartbeats 1000000 in
/-- The document's Words. -/
theorem nWords (s : ByteArray) (hs : s.size ≤ 1000000) (w : World) :
    Calls Tryd.prog 13 #[.string s] w fun e w' => ∃ v, e = .returned v ∧ SsAt (fun k => w.heap.size ≤ k ∧ k < w'.heap.size) w' v (wdsT s) ∧ Below w.heap.size w w' := by
  have HSk := Lib.hid (fun (i : Nat) (hi : i ≤ s.size) (w : World) => nSkip s (by unfold maxLen; omega) i hi w)
  have HTl := Lib.hid (fun (i : Nat) (hi : i ≤ s.size) (w : World) => nTail s hs i hi w)
  obtain ⟨i0, hi0, hz0, hz1, hz2⟩ := info_parts string_info
  go_enter Tryd.func13, Tryd.ntmps13
  go_wp2_with (go_at_call 23; refine (HSk.out 0 (by omega) _).mono ?_; rintro e w1 ⟨⟨k0, rfl, hk1, hk2, hk3⟩, rfl⟩)
  have HK0 := Lib.hid hk3
  clear hk3
  go_loopw [3, 4] (fun v3 v4 wr => ∃ (k : Nat) (L : List ByteArray), k ≤ s.size ∧ v4 = .int .i64 k ∧ L.length ≤ k ∧ wr.ownsRow w.heap.size 9 1 v3 L.length (L.map Value.string) ∧ Below w.heap.size w wr ∧ (∀ x ∈ L, x.size ≤ 2000000) ∧ skL (dr s k) = dr s k ∧ wdsL s.data.toList = (L.map fun x => x.data.toList) ++ wdsL (dr s k)) (fun _ v4 _ => s.size - (intOf v4).toNat)
  case atStart => exact ⟨k0, [], hk2, rfl, Nat.zero_le _, World.ownsRow_nil _ _ _ _, Below.refl _ _, (fun x hx => by cases hx), by rw [HK0.out, skL_twice], by rw [HK0.out, wdsL_sk]; rfl⟩
  case round =>
    obtain ⟨k, L, hk, rfl, hL, hown, hb, hz, hsk, he⟩ := hrel
    have HE := Lib.hid he
    have HSK := Lib.hid hsk
    have HZ := Lib.hid hz
    clear he hsk hz
    obtain ⟨A3, c3, rfl, _, _⟩ := own_form2 hown
    by_cases hlt : k < s.size
    · have hc := Lib.hid (dr_cons hlt)
      have HN := Lib.hid (skL_head (show skL (dr s k) = s[k] :: dr s (k + 1) by rw [HSK.out]; exact hc.out))
      have HO0 := Lib.hid hown
      have HB0 := Lib.hid hb
      clear hown hb
      go_upto_if 18 with fail
      go_cut [4, 5] from 11 to 87 (fun v4 v5 wx => ∃ (j : Nat) (o : ByteArray), k ≤ j ∧ j ≤ s.size ∧ v4 = .int .i64 j ∧ v5 = .string o ∧ o.size ≤ s.size ∧ o.data.toList ++ (tlL (dr s j)).1 = (agL1 (dr s k)).1 ∧ (tlL (dr s j)).2 = (agL1 (dr s k)).2 ∧ wx = wr)
      case first =>
        cases h3 : ((s[k].toNat : Int) == 34)
        · have h34 := Lib.hid (show s[k].toNat ≠ 34 by
            have := beq_eq_false_iff_ne.1 h3
            omega)
          clear h3
          go_wp2_with fail
          go_meet
          case rel => exact ⟨k, ⟨#[]⟩, Nat.le_refl _, hk, rfl, rfl, Nat.zero_le _, by rw [hc.out, agL1_p h34.out]; rfl, by rw [hc.out, agL1_p h34.out], rfl⟩
        · have h34 := Lib.hid (show s[k].toNat = 34 by
            have := beq_iff_eq.1 h3
            omega)
          clear h3
          go_wp2_with fail
          go_loop [4, 5] (fun v4 v5 => ∃ (j : Nat) (o : ByteArray), k + 1 ≤ j ∧ j ≤ s.size ∧ v4 = .int .i64 j ∧ v5 = .string o ∧ o.size ≤ j ∧ o.data.toList ++ (qtL (dr s j)).1 = (qtL (dr s (k + 1))).1 ∧ (qtL (dr s j)).2 = (qtL (dr s (k + 1))).2) (fun v4 _ => s.size - (intOf v4).toNat)
          case atStart => exact ⟨k + 1, ⟨#[]⟩, Nat.le_refl _, hlt, by go_num, rfl, Nat.zero_le _, rfl, rfl⟩
          case round =>
            obtain ⟨j, o, hkj, hj, rfl, rfl, ho, hq1, hq2⟩ := hrel
            have H1 := Lib.hid hq1
            have H2 := Lib.hid hq2
            clear hq1 hq2
            by_cases hjl : j < s.size
            · have hd := Lib.hid (dr_cons hjl)
              by_cases h5 : (s[j].toNat : Int) = 34
              · have hB5 : ((s[j].toNat : Int) == 34) = true := by simp [h5]
                have h534 := Lib.hid (show s[j].toNat = 34 by omega)
                clear h5
                by_cases hj2 : j + 1 < s.size
                · have hd2 := Lib.hid (dr_cons hj2)
                  have hne1 : ((j : Int) + 1 == (s.size : Int)) = false := by rw [beq_eq_false_iff_ne]; omega
                  by_cases h6 : (s[j + 1].toNat : Int) = 34
                  · have hB6 : ((s[j + 1].toNat : Int) != 34) = false := by simp [h6]
                    have h634 := Lib.hid (show s[j + 1].toNat = 34 by omega)
                    clear h6
                    go_wp2_with fail
                    go_round
                    case rel =>
                      refine ⟨j + 2, o ++ s.extract (j + 1) (j + 2), by omega, by omega, by go_num, by go_num, ?_, ?_, ?_⟩
                      · rw [ByteArray.size_append, size_len (s.extract (j + 1) (j + 2)), ext_one hj2]; simp; omega
                      · rw [← H1.out, hd.out, hd2.out, qtL_dbl h534.out h634.out, app_data, ext_one hj2, List.append_assoc]; rfl
                      · rw [← H2.out, hd.out, hd2.out, qtL_dbl h534.out h634.out]
                    case measure => simp [intOf]; omega
                  · have hB6 : ((s[j + 1].toNat : Int) != 34) = true := by simp [h6]
                    have h634 := Lib.hid (show s[j + 1].toNat ≠ 34 by omega)
                    clear h6
                    go_wp2_with fail
                    go_meet
                    case rel =>
                      have q1 := H1.out
                      have q2 := H2.out
                      rw [hd.out, hd2.out, qtL_stop h534.out h634.out] at q1 q2
                      refine ⟨j + 1, o, by omega, by omega, by go_num, rfl, by omega, ?_, ?_, rfl⟩
                      · rw [hc.out, agL1_q h34.out, ← q1, ← q2, ← hd2.out, List.append_nil]
                      · rw [hc.out, agL1_q h34.out, ← q2, ← hd2.out]
                · have hne1 : ((j : Int) + 1 == (s.size : Int)) = true := by rw [beq_iff_eq]; omega
                  have hd2 := Lib.hid (dr_end (s := s) (i := j + 1) (by omega))
                  go_wp2_with fail
                  go_meet
                  case rel =>
                    have q1 := H1.out
                    have q2 := H2.out
                    rw [hd.out, hd2.out, qtL_end h534.out] at q1 q2
                    refine ⟨j + 1, o, by omega, by omega, by go_num, rfl, by omega, ?_, ?_, rfl⟩
                    · rw [hc.out, agL1_q h34.out, ← q1, ← q2, hd2.out, List.append_nil]
                    · rw [hc.out, agL1_q h34.out, ← q2, hd2.out]
              · have hB5 : ((s[j].toNat : Int) == 34) = false := by simp [h5]
                have h534 := Lib.hid (show s[j].toNat ≠ 34 by omega)
                clear h5
                by_cases h9 : (s[j].toNat : Int) = 92
                · have hB9 : ((s[j].toNat : Int) == 92) = true := by simp [h9]
                  have h92 := Lib.hid (show s[j].toNat = 92 by omega)
                  clear h9
                  by_cases hj2 : j + 1 < s.size
                  · have hd2 := Lib.hid (dr_cons hj2)
                    go_wp2_with fail
                    go_round
                    case rel =>
                      refine ⟨j + 2, o ++ s.extract j (j + 2), by omega, by omega, by go_num, by go_num, ?_, ?_, ?_⟩
                      · rw [ByteArray.size_append, size_len (s.extract j (j + 2)), ext_two hj2]; simp; omega
                      · rw [← H1.out, hd.out, hd2.out, qtL_two h92.out, app_data, ext_two hj2, List.append_assoc]; rfl
                      · rw [← H2.out, hd.out, hd2.out, qtL_two h92.out]
                    case measure => simp [intOf]; omega
                  · have hd2 := Lib.hid (dr_end (s := s) (i := j + 1) (by omega))
                    go_wp2_with fail
                    go_round
                    case rel =>
                      refine ⟨j + 1, o ++ s.extract j (j + 1), by omega, by omega, by go_num, by go_num, ?_, ?_, ?_⟩
                      · rw [ByteArray.size_append, size_len (s.extract j (j + 1)), ext_one hjl]; simp; omega
                      · rw [← H1.out, hd.out, qtL_one h534.out (.inr hd2.out), app_data, ext_one hjl, List.append_assoc]; rfl
                      · rw [← H2.out, hd.out, qtL_one h534.out (.inr hd2.out)]
                    case measure => simp [intOf]; omega
                · have hB9 : ((s[j].toNat : Int) == 92) = false := by simp [h9]
                  have h92 := Lib.hid (show s[j].toNat ≠ 92 by omega)
                  clear h9
                  go_wp2_with fail
                  go_round
                  case rel =>
                    refine ⟨j + 1, o ++ s.extract j (j + 1), by omega, by omega, by go_num, by go_num, ?_, ?_, ?_⟩
                    · rw [ByteArray.size_append, size_len (s.extract j (j + 1)), ext_one hjl]; simp; omega
                    · rw [← H1.out, hd.out, qtL_one h534.out (.inl h92.out), app_data, ext_one hjl, List.append_assoc]; rfl
                    · rw [← H2.out, hd.out, qtL_one h534.out (.inl h92.out)]
                  case measure => simp [intOf]; omega
            · have hd := Lib.hid (dr_end (s := s) (i := j) (by omega))
              go_wp2_with fail
              go_meet
              case rel =>
                have q1 := H1.out
                have q2 := H2.out
                rw [hd.out, show qtL [] = ([], []) from rfl] at q1 q2
                refine ⟨j, o, by omega, by omega, rfl, rfl, by omega, ?_, ?_, rfl⟩
                · rw [hc.out, agL1_q h34.out, ← q1, ← q2, hd.out, List.append_nil]
                · rw [hc.out, agL1_q h34.out, ← q2, hd.out]
      case rest =>
        obtain ⟨j, o, hkj, hj, rfl, rfl, ho, hr1, hr2, rfl⟩ := hcut
        have HR1 := Lib.hid hr1
        have HR2 := Lib.hid hr2
        clear hr1 hr2
        go_wp2_with (first
          | (go_at_call 24
             refine (HTl.out j hj _).mono ?_
             rintro e w1 ⟨⟨m, n, rfl, hn1, hn2, hm1, hm2, hm3⟩, rfl⟩
             have HM2 := Lib.hid hm2
             have HM3 := Lib.hid hm3
             clear hm2 hm3
             have HO := Lib.hid (HO0.out.alloc (.cells #[.string (o ++ m)] 9))
             have hnb := Lib.hid (Blk.new wc 9 #[.string (o ++ m)])
             have HS := Lib.hid HB0.out.size)
          | (go_at_call 23
             refine (HSk.out n hn2 _).mono ?_
             rintro e w3 ⟨⟨q, rfl, hq1, hq2, hq3⟩, rfl⟩
             have HQ3 := Lib.hid hq3
             clear hq3)
          | (at_builtin
             have hsz := HS.out
             refine wpList_append_own_at _ rfl (.tmp 79) (.tmp 83) _ rfl w.heap.size 9 i0 _ 1 16 Tryd.underlying25 hi0 hz0 hz1 hz2 rfl (by omega) (.slice A3 L.length c3) L.length _ rfl HO.out ⟨wc.heap.size, 0, none⟩ 1 1 [.string (o ++ m)] rfl rfl (cells_new hnb.out) (by intro u hu; rw [List.mem_singleton.1 hu]; rfl) (by unfold maxLen; omega) (by omega) (by simp; omega) ?_
             intro v1 w2 hown1 hg1 _ _
             have hb2 : Below w.heap.size w w2 := (HB0.out.alloc HB0.out.size _).grown hg1 (by simp; omega) (fun q hq => own_ge HO.out hq)
             have HO2 := Lib.hid hown1
             have HB2 := Lib.hid hb2
             clear hown1 hg1 hb2 hsz))
        go_roundw
        case rel =>
          have e1 : (agL1 (dr s k)).1 = (o ++ m).data.toList := by rw [app_data, HM2.out, HR1.out]
          have e2 : (agL1 (dr s k)).2 = dr s n := by rw [HM3.out, HR2.out]
          have hl : (agL1 (dr s k)).2.length < (dr s k).length := by rw [hc.out]; exact agL1_lt HN.out
          rw [e2, dr_len, dr_len] at hl
          refine ⟨q, L ++ [o ++ m], hq2, rfl, by simp; omega, by rw [List.length_append, List.map_append]; exact HO2.out, HB2.out, fun x hx => ?_, by rw [HQ3.out, skL_twice], ?_⟩
          · rcases List.mem_append.1 hx with hx | hx
            · exact HZ.out x hx
            · rw [List.mem_singleton.1 hx, ByteArray.size_append]; omega
          · rw [HE.out, wdsL_at hc.out HN.out, e1, e2, List.map_append, List.append_assoc, HQ3.out, wdsL_sk]
            rfl
        case measure =>
          have e2 : (agL1 (dr s k)).2 = dr s n := by rw [HM3.out, HR2.out]
          have hl : (agL1 (dr s k)).2.length < (dr s k).length := by rw [hc.out]; exact agL1_lt HN.out
          rw [e2, dr_len, dr_len] at hl
          simp [intOf]; omega
    · have HO := Lib.hid hown
      clear hown
      have he := Lib.hid (dr_end (s := s) (i := k) (by omega))
      go_wp2
      go_ret
      have e : wdsT s = L := by unfold wdsT; rw [HE.out, he.out, show wdsL [] = [] from rfl, List.append_nil, ba_back]
      refine ⟨_, rfl, ?_, hb⟩
      rw [e]
      exact own_strs HO.out (fun x hx => Nat.le_trans (HZ.out x hx) (by omega))
end Go.Proofs.YtfcbpehgkpmniaaDoor
