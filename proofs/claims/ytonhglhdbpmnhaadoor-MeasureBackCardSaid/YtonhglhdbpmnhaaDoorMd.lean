/- Walks of package measure's reader: numbers. -/
import Derived.Test.YtonhglhdbpmnhaaDoorMc
namespace Go.Proofs.YtonhglhdbpmnhaaDoor
open Go.RowKit

/-- 58: number, no part behind a point. -/
theorem c58a (g : Nat) (s : ByteArray) (M : Md) (pos deep : Nat) (w : World) (h : Rd w g s M pos deep) (hs : s.size ≤ 100000) (hp : pos ≤ s.size) (hM : M.okay)
    (hpart : nPart s pos = false) (hz : ¬ dCount s pos = 0) (m : Int) (hb : bdd M.fm (nVal s M pos) = some m) :
    Calls Tryd.prog 58 #[.pointer (some ⟨g, 0, none⟩)] w fun e w' => e = .returned (.int .i64 m) ∧ Moved w g s M (nTo s M pos) deep w' := by
  have hsz : s.size ≤ maxLen := by unfold maxLen; omega
  have hds := dCount_size (s := s) hp
  have hd9 := dCount_le s pos
  have hval : nVal s M pos = dVal s pos (dCount s pos) * nOne s M pos := by unfold nVal; rw [hpart]; rfl
  have hend : nEnd s pos = pos + dCount s pos := by unfold nEnd; rw [hpart]; rfl
  have ho := nOne_bd (s := s) hM pos
  have hX := mul_bd (dVal_bd' s pos) ho.1 ho.2
  have h78 := c78 g s M (pos + dCount s pos) deep
  have hto : pos + dCount s pos + (if (unitF (bt s (pos + dCount s pos)) M.sz M.vs).isSome then 1 else 0) = nTo s M pos := by unfold nTo; rw [hend]
  have hone : (unitF (bt s (pos + dCount s pos)) M.sz M.vs).getD M.one = nOne s M pos := by unfold nOne; rw [hend]
  rw [hto, hone] at h78
  rw [hval] at hb
  have H78 := Lib.hid h78
  have HB := Lib.hid hb
  have HP := Lib.hid hpart
  clear h78 hb hto hone hval hend hpart
  have hz' : 0 < dCount s pos := by omega
  have hcase : ((bt s (pos + dCount s pos) : Int) == 46) = false ∨ (((bt s (pos + dCount s pos) : Int) == 46) = true ∧ isDig (bt s (pos + dCount s pos + 1)) = false) := by
    have := HP.out
    simp only [nPart, Bool.and_eq_false_iff] at this
    by_cases e : ((bt s (pos + dCount s pos) : Int) == 46) = true
    · rcases this with h | h
      · rw [e] at h; cases h
      · exact .inr ⟨e, h⟩
    · exact .inl (by simpa using e)
  rcases hcase with e1 | ⟨e1, e2⟩
  all_goals
    go_enter Tryd.func58, Tryd.ntmps58
    go_wp2_with (first
      | (go_at_call 76; refine (c76 g s M pos deep w h hs hp).mono ?_; rintro e w1 ⟨rfl, hm1⟩; have h0 := hm1.1.c0; have h1 := hm1.1.c1)
      | (go_at_call 56; (with_reducible refine (c56i g s (pos + dCount s pos) (↑pos + ↑(dCount s pos)) (by omega) _ h0 hsz).mono ?_); rintro e w' ⟨rfl, rfl⟩)
      | (go_at_call 56; (with_reducible refine (c56i g s (pos + dCount s pos + 1) (↑pos + ↑(dCount s pos) + 1) (by omega) _ h0 hsz).mono ?_); rintro e w' ⟨rfl, rfl⟩)
      | (go_at_call 77; refine (c77 _ _).mono ?_; rintro e w' ⟨rfl, rfl⟩)
      | (go_at_call 51; refine (c51t _ _).mono ?_; rintro e w' ⟨rfl, rfl⟩)
      | (go_at_call 78; refine (H78.out w1 hm1.1 hs hds hM).mono ?_; rintro e w2 ⟨rfl, hm2⟩; have g7 := hm2.1.c7)
      | (go_at_call 73; refine (c73s HB.out g _ g7).mono ?_; rintro e w' ⟨rfl, rfl⟩))
    go_ret
    exact ⟨rfl, hm1.trans hm2⟩
/-- 58: number, no part behind a point, out of range. -/
theorem c58ax (g : Nat) (s : ByteArray) (M : Md) (pos deep : Nat) (w : World) (h : Rd w g s M pos deep) (hs : s.size ≤ 100000) (hp : pos ≤ s.size) (hM : M.okay)
    (hpart : nPart s pos = false) (hz : ¬ dCount s pos = 0) (hb : bdd M.fm (nVal s M pos) = none) :
    Calls Tryd.prog 58 #[.pointer (some ⟨g, 0, none⟩)] w fun e w' => e = thrown 5 ∧ w.grownBy w' (some g) := by
  have hsz : s.size ≤ maxLen := by unfold maxLen; omega
  have hds := dCount_size (s := s) hp
  have hd9 := dCount_le s pos
  have hval : nVal s M pos = dVal s pos (dCount s pos) * nOne s M pos := by unfold nVal; rw [hpart]; rfl
  have hend : nEnd s pos = pos + dCount s pos := by unfold nEnd; rw [hpart]; rfl
  have ho := nOne_bd (s := s) hM pos
  have hX := mul_bd (dVal_bd' s pos) ho.1 ho.2
  have h78 := c78 g s M (pos + dCount s pos) deep
  have hto : pos + dCount s pos + (if (unitF (bt s (pos + dCount s pos)) M.sz M.vs).isSome then 1 else 0) = nTo s M pos := by unfold nTo; rw [hend]
  have hone : (unitF (bt s (pos + dCount s pos)) M.sz M.vs).getD M.one = nOne s M pos := by unfold nOne; rw [hend]
  rw [hto, hone] at h78
  rw [hval] at hb
  have H78 := Lib.hid h78
  have HB := Lib.hid hb
  have HP := Lib.hid hpart
  clear h78 hb hto hone hval hend hpart
  have hz' : 0 < dCount s pos := by omega
  have hcase : ((bt s (pos + dCount s pos) : Int) == 46) = false ∨ (((bt s (pos + dCount s pos) : Int) == 46) = true ∧ isDig (bt s (pos + dCount s pos + 1)) = false) := by
    have := HP.out
    simp only [nPart, Bool.and_eq_false_iff] at this
    by_cases e : ((bt s (pos + dCount s pos) : Int) == 46) = true
    · rcases this with h | h
      · rw [e] at h; cases h
      · exact .inr ⟨e, h⟩
    · exact .inl (by simpa using e)
  rcases hcase with e1 | ⟨e1, e2⟩
  all_goals
    go_enter Tryd.func58, Tryd.ntmps58
    go_wp2_with (first
      | (go_at_call 76; refine (c76 g s M pos deep w h hs hp).mono ?_; rintro e w1 ⟨rfl, hm1⟩; have h0 := hm1.1.c0; have h1 := hm1.1.c1)
      | (go_at_call 56; (with_reducible refine (c56i g s (pos + dCount s pos) (↑pos + ↑(dCount s pos)) (by omega) _ h0 hsz).mono ?_); rintro e w' ⟨rfl, rfl⟩)
      | (go_at_call 56; (with_reducible refine (c56i g s (pos + dCount s pos + 1) (↑pos + ↑(dCount s pos) + 1) (by omega) _ h0 hsz).mono ?_); rintro e w' ⟨rfl, rfl⟩)
      | (go_at_call 77; refine (c77 _ _).mono ?_; rintro e w' ⟨rfl, rfl⟩)
      | (go_at_call 51; refine (c51t _ _).mono ?_; rintro e w' ⟨rfl, rfl⟩)
      | (go_at_call 78; refine (H78.out w1 hm1.1 hs hds hM).mono ?_; rintro e w2 ⟨rfl, hm2⟩; have g7 := hm2.1.c7)
      | (go_at_call 73; refine (c73n HB.out g _ g7).mono ?_; rintro e w' ⟨rfl, rfl⟩))
    exact ⟨rfl, rfl, (hm1.trans hm2).2⟩
/-- 58: number, no digit. -/
theorem c58z (g : Nat) (s : ByteArray) (M : Md) (pos deep : Nat) (w : World) (h : Rd w g s M pos deep) (hs : s.size ≤ 100000) (hp : pos ≤ s.size)
    (hpart : nPart s pos = false) (hz : dCount s pos = 0) :
    Calls Tryd.prog 58 #[.pointer (some ⟨g, 0, none⟩)] w fun e w' => e = thrown 4 ∧ w.grownBy w' (some g) := by
  have hsz : s.size ≤ maxLen := by unfold maxLen; omega
  have h76 := c76 g s M pos deep w h hs hp
  simp only [nPart] at hpart
  rw [hz] at h76 hpart
  have H76 := Lib.hid h76
  have hcase : ((bt s (pos + 0) : Int) == 46) = false ∨ (((bt s (pos + 0) : Int) == 46) = true ∧ isDig (bt s (pos + 0 + 1)) = false) := by
    simp only [Bool.and_eq_false_iff] at hpart
    by_cases e : ((bt s (pos + 0) : Int) == 46) = true
    · rcases hpart with h | h
      · rw [e] at h; cases h
      · exact .inr ⟨e, h⟩
    · exact .inl (by simpa using e)
  clear h76 hpart hz
  simp only [Nat.add_zero] at hcase
  rcases hcase with e1 | ⟨e1, e2⟩
  all_goals
    go_enter Tryd.func58, Tryd.ntmps58
    go_wp2_with (first
      | (go_at_call 76; refine H76.out.mono ?_; rintro e w1 ⟨rfl, hm1⟩; have h0 := hm1.1.c0; have h1 := hm1.1.c1)
      | (go_at_call 56; (with_reducible refine (c56i g s pos (↑pos) rfl _ h0 hsz).mono ?_); rintro e w' ⟨rfl, rfl⟩)
      | (go_at_call 56; (with_reducible refine (c56i g s (pos + 1) (↑pos + 1) (by omega) _ h0 hsz).mono ?_); rintro e w' ⟨rfl, rfl⟩)
      | (go_at_call 77; refine (c77 _ _).mono ?_; rintro e w' ⟨rfl, rfl⟩)
      | (go_at_call 51; refine (c51f _ _).mono ?_; rintro e w' ⟨rfl, rfl⟩))
    exact ⟨rfl, rfl, hm1.2⟩

/-- 58: number, with a part behind a point. -/
theorem c58b (g : Nat) (s : ByteArray) (M : Md) (pos deep : Nat) (w : World) (h : Rd w g s M pos deep) (hs : s.size ≤ 100000) (hp : pos ≤ s.size) (hM : M.okay)
    (hpart : nPart s pos = true) (m : Int) (hb : bdd M.fm (nVal s M pos) = some m) :
    Calls Tryd.prog 58 #[.pointer (some ⟨g, 0, none⟩)] w fun e w' => e = .returned (.int .i64 m) ∧ Moved w g s M (nTo s M pos) deep w' := by
  have hsz : s.size ≤ maxLen := by unfold maxLen; omega
  have hds := dCount_size (s := s) hp
  have hd9 := dCount_le s pos
  have hval : nVal s M pos = dVal s pos (dCount s pos) * nOne s M pos + dVal s (pos + dCount s pos + 1) (dCount s (pos + dCount s pos + 1)) * nOne s M pos / p10 (dCount s (pos + dCount s pos + 1)) := by unfold nVal; rw [hpart]; rfl
  have hend : nEnd s pos = pos + dCount s pos + 1 + dCount s (pos + dCount s pos + 1) := by unfold nEnd; rw [hpart]; rfl
  have hel := nEnd_le (s := s) hp
  rw [hend] at hel
  have ho := nOne_bd (s := s) hM pos
  have hX := mul_bd (dVal_bd' s pos) ho.1 ho.2
  have hY := mul_bd (dVal_bd' s (pos + dCount s pos + 1)) ho.1 ho.2
  have hd92 := dCount_le s (pos + dCount s pos + 1)
  have hp1 := p10_pos (dCount s (pos + dCount s pos + 1))
  have hq := div_bd hY.1 hY.2 hp1
  have h78 := c78 g s M (pos + dCount s pos + 1 + dCount s (pos + dCount s pos + 1)) deep
  have hto : pos + dCount s pos + 1 + dCount s (pos + dCount s pos + 1) + (if (unitF (bt s (pos + dCount s pos + 1 + dCount s (pos + dCount s pos + 1))) M.sz M.vs).isSome then 1 else 0) = nTo s M pos := by unfold nTo; rw [hend]
  have hone : (unitF (bt s (pos + dCount s pos + 1 + dCount s (pos + dCount s pos + 1))) M.sz M.vs).getD M.one = nOne s M pos := by unfold nOne; rw [hend]
  rw [hto, hone] at h78
  rw [hval] at hb
  simp only [nPart, Bool.and_eq_true] at hpart
  obtain ⟨e1, e2⟩ := hpart
  have hdg := isDig_iff.1 e2
  have hlt : pos + dCount s pos + 1 < s.size := bt_lt (by omega)
  have hle : pos + dCount s pos + 1 ≤ s.size := Nat.le_of_lt hlt
  have hk0 : 0 < dCount s (pos + dCount s pos + 1) := dCount_pos e2
  have H78 := Lib.hid h78
  have HB := Lib.hid hb
  clear h78 hb hto hone hval hend hdg
  go_enter Tryd.func58, Tryd.ntmps58
  go_wp2_with (first
    | (go_at_call 76; (with_reducible refine (c76 g s M pos deep w h hs hp).mono ?_); rintro e w1 ⟨rfl, hm1⟩; have h0 := hm1.1.c0; have h1 := hm1.1.c1; have hf := hm1.1.fz 1; have hm1' := hm1.step (↑pos + ↑(dCount s pos) + 1) (pos + dCount s pos + 1) (by omega); have hr1 := hm1'.1)
    | (go_at_call 76; (with_reducible refine (c76 g s M (pos + dCount s pos + 1) deep _ hr1 hs hle).mono ?_); rintro e w2 ⟨rfl, hm2⟩)
    | (go_at_call 56; (with_reducible refine (c56i g s (pos + dCount s pos) (↑pos + ↑(dCount s pos)) (by omega) _ h0 hsz).mono ?_); rintro e w' ⟨rfl, rfl⟩)
    | (go_at_call 56; (with_reducible refine (c56i g s (pos + dCount s pos + 1) (↑pos + ↑(dCount s pos) + 1) (by omega) _ h0 hsz).mono ?_); rintro e w' ⟨rfl, rfl⟩)
    | (go_at_call 77; refine (c77 _ _).mono ?_; rintro e w' ⟨rfl, rfl⟩))
  have hm := hm1'.trans hm2
  clear hm1' hm1 hm2 h0 h1 hf hr1
  go_loop [6, 43] (fun v6 v43 => ∃ j : Nat, j ≤ dCount s (pos + dCount s pos + 1) ∧ v43 = .int .i64 j ∧ v6 = .int .i64 (p10 j)) (fun _ v43 => dCount s (pos + dCount s pos + 1) - (intOf v43).toNat)
  case atStart => exact ⟨0, by omega, rfl, rfl⟩
  case round =>
    obtain ⟨j, hj, rfl, rfl⟩ := hrel
    have hpj := p10_le (k := j) (by omega)
    have hpp := p10_pos j
    by_cases hjl : j < dCount s (pos + dCount s pos + 1)
    · go_wp2
      go_round
      case rel => exact ⟨j + 1, by omega, by go_num, by rw [p10_succ]; go_num⟩
      case measure => simp [intOf]; omega
    · obtain rfl : j = dCount s (pos + dCount s pos + 1) := by omega
      go_wp2_with (first
        | (go_at_call 51; refine (c51t _ _).mono ?_; rintro e w' ⟨rfl, rfl⟩)
        | (go_at_call 78; refine (H78.out _ hm.1 hs hel hM).mono ?_; rintro e w2 ⟨rfl, hm2⟩; have g7 := hm2.1.c7)
        | (go_at_call 73; refine (c73s HB.out g _ g7).mono ?_; rintro e w' ⟨rfl, rfl⟩))
      go_ret
      exact ⟨rfl, (hm.trans hm2)⟩

/-- 58: number, with a part behind a point, out of range. -/
theorem c58bx (g : Nat) (s : ByteArray) (M : Md) (pos deep : Nat) (w : World) (h : Rd w g s M pos deep) (hs : s.size ≤ 100000) (hp : pos ≤ s.size) (hM : M.okay)
    (hpart : nPart s pos = true) (hb : bdd M.fm (nVal s M pos) = none) :
    Calls Tryd.prog 58 #[.pointer (some ⟨g, 0, none⟩)] w fun e w' => e = thrown 5 ∧ w.grownBy w' (some g) := by
  have hsz : s.size ≤ maxLen := by unfold maxLen; omega
  have hds := dCount_size (s := s) hp
  have hd9 := dCount_le s pos
  have hval : nVal s M pos = dVal s pos (dCount s pos) * nOne s M pos + dVal s (pos + dCount s pos + 1) (dCount s (pos + dCount s pos + 1)) * nOne s M pos / p10 (dCount s (pos + dCount s pos + 1)) := by unfold nVal; rw [hpart]; rfl
  have hend : nEnd s pos = pos + dCount s pos + 1 + dCount s (pos + dCount s pos + 1) := by unfold nEnd; rw [hpart]; rfl
  have hel := nEnd_le (s := s) hp
  rw [hend] at hel
  have ho := nOne_bd (s := s) hM pos
  have hX := mul_bd (dVal_bd' s pos) ho.1 ho.2
  have hY := mul_bd (dVal_bd' s (pos + dCount s pos + 1)) ho.1 ho.2
  have hd92 := dCount_le s (pos + dCount s pos + 1)
  have hp1 := p10_pos (dCount s (pos + dCount s pos + 1))
  have hq := div_bd hY.1 hY.2 hp1
  have h78 := c78 g s M (pos + dCount s pos + 1 + dCount s (pos + dCount s pos + 1)) deep
  have hto : pos + dCount s pos + 1 + dCount s (pos + dCount s pos + 1) + (if (unitF (bt s (pos + dCount s pos + 1 + dCount s (pos + dCount s pos + 1))) M.sz M.vs).isSome then 1 else 0) = nTo s M pos := by unfold nTo; rw [hend]
  have hone : (unitF (bt s (pos + dCount s pos + 1 + dCount s (pos + dCount s pos + 1))) M.sz M.vs).getD M.one = nOne s M pos := by unfold nOne; rw [hend]
  rw [hto, hone] at h78
  rw [hval] at hb
  simp only [nPart, Bool.and_eq_true] at hpart
  obtain ⟨e1, e2⟩ := hpart
  have hdg := isDig_iff.1 e2
  have hlt : pos + dCount s pos + 1 < s.size := bt_lt (by omega)
  have hle : pos + dCount s pos + 1 ≤ s.size := Nat.le_of_lt hlt
  have hk0 : 0 < dCount s (pos + dCount s pos + 1) := dCount_pos e2
  have H78 := Lib.hid h78
  have HB := Lib.hid hb
  clear h78 hb hto hone hval hend hdg
  go_enter Tryd.func58, Tryd.ntmps58
  go_wp2_with (first
    | (go_at_call 76; (with_reducible refine (c76 g s M pos deep w h hs hp).mono ?_); rintro e w1 ⟨rfl, hm1⟩; have h0 := hm1.1.c0; have h1 := hm1.1.c1; have hf := hm1.1.fz 1; have hm1' := hm1.step (↑pos + ↑(dCount s pos) + 1) (pos + dCount s pos + 1) (by omega); have hr1 := hm1'.1)
    | (go_at_call 76; (with_reducible refine (c76 g s M (pos + dCount s pos + 1) deep _ hr1 hs hle).mono ?_); rintro e w2 ⟨rfl, hm2⟩)
    | (go_at_call 56; (with_reducible refine (c56i g s (pos + dCount s pos) (↑pos + ↑(dCount s pos)) (by omega) _ h0 hsz).mono ?_); rintro e w' ⟨rfl, rfl⟩)
    | (go_at_call 56; (with_reducible refine (c56i g s (pos + dCount s pos + 1) (↑pos + ↑(dCount s pos) + 1) (by omega) _ h0 hsz).mono ?_); rintro e w' ⟨rfl, rfl⟩)
    | (go_at_call 77; refine (c77 _ _).mono ?_; rintro e w' ⟨rfl, rfl⟩))
  have hm := hm1'.trans hm2
  clear hm1' hm1 hm2 h0 h1 hf hr1
  go_loop [6, 43] (fun v6 v43 => ∃ j : Nat, j ≤ dCount s (pos + dCount s pos + 1) ∧ v43 = .int .i64 j ∧ v6 = .int .i64 (p10 j)) (fun _ v43 => dCount s (pos + dCount s pos + 1) - (intOf v43).toNat)
  case atStart => exact ⟨0, by omega, rfl, rfl⟩
  case round =>
    obtain ⟨j, hj, rfl, rfl⟩ := hrel
    have hpj := p10_le (k := j) (by omega)
    have hpp := p10_pos j
    by_cases hjl : j < dCount s (pos + dCount s pos + 1)
    · go_wp2
      go_round
      case rel => exact ⟨j + 1, by omega, by go_num, by rw [p10_succ]; go_num⟩
      case measure => simp [intOf]; omega
    · obtain rfl : j = dCount s (pos + dCount s pos + 1) := by omega
      go_wp2_with (first
        | (go_at_call 51; refine (c51t _ _).mono ?_; rintro e w' ⟨rfl, rfl⟩)
        | (go_at_call 78; refine (H78.out _ hm.1 hs hel hM).mono ?_; rintro e w2 ⟨rfl, hm2⟩; have g7 := hm2.1.c7)
        | (go_at_call 73; refine (c73n HB.out g _ g7).mono ?_; rintro e w' ⟨rfl, rfl⟩))
      exact ⟨rfl, rfl, (hm.trans hm2).2⟩

end Go.Proofs.YtonhglhdbpmnhaaDoor
