/- Walks of package expand: the text of \w; names. -/
import Derived.Test.YtbkcnopkibdlbaaDoorAc
namespace Go.Proofs.YtbkcnopkibdlbaaDoor
open Go.RowKit

theorem bdrew (w : World) (n : Nat) : Below w.heap.size w (w.drewN n) := ⟨rfl, rfl, rfl, Nat.le_refl _, fun _ _ => rfl⟩
def txV (s : ByteArray) : Value := match txF s with
  | some t => .tuple #[.string t, .bool true]
  | none => .tuple #[.string ⟨#[]⟩, .bool false]
theorem ba_nil {s : ByteArray} (h : s.size = 0) : s = ⟨#[]⟩ := by
  obtain ⟨⟨l⟩⟩ := s
  have : l = [] := List.length_eq_zero_iff.1 h
  subst this; rfl
theorem txV_none {s : ByteArray} (h : txF s = none) : txV s = .tuple #[.string ⟨#[]⟩, .bool false] := by unfold txV; rw [h]
theorem txV_some {s t : ByteArray} (h : txF s = some t) : txV s = .tuple #[.string t, .bool true] := by unfold txV; rw [h]
/-- readText. -/
theorem cTx (s : ByteArray) (hs : s.size ≤ maxLen) (w : World) :
    Calls Tryd.prog 49 #[.string s] w fun e w' => e = .returned (txV s) ∧ Below w.heap.size w w' := by
  unfold maxLen at hs
  by_cases h0 : s.size = 0
  · rw [txV_none (by unfold txF; rw [if_pos (.inl h0)])]
    have hn := ba_nil h0
    subst hn
    clear h0
    go_enter Tryd.func49, Tryd.ntmps49
    go_wp2
    go_ret2
    exact ⟨rfl, Below.refl _ _⟩
  · obtain ⟨he1, he2⟩ := toList_ne h0
    have hlt : 0 < s.size := by omega
    have hb : bt s 0 = s[0].toNat := bt_in hlt
    by_cases h3 : (s[0].toNat : Int) = 92
    · rw [txV_none (by unfold txF; rw [if_pos (.inr (by omega))])]
      have hB : ((s[0].toNat : Int) == 92) = true := by simp [h3]
      clear h3 hb
      go_enter Tryd.func49, Tryd.ntmps49
      go_wp2
      go_ret2
      exact ⟨rfl, Below.refl _ _⟩
    · have e : txF s = if Lib.indexByte (s.extract 1 s.size).data.toList s[0] < 0 then none else some (s.extract 1 (1 + (Lib.indexByte (s.extract 1 s.size).data.toList s[0]).toNat)) := by
        unfold txF
        rw [if_neg (by omega), hb, UInt8.ofNat_toNat]
      have hB : ((s[0].toNat : Int) == 92) = false := by simp [h3]
      have hI := fun w => Tryd.strings_IndexByte (s.extract 1 s.size) (s[0].toNat : Nat) w
      have hl := ib_lt (s.extract 1 s.size).data.toList s[0]
      have hg := Lib.indexByte_ge (s.extract 1 s.size).data.toList s[0]
      rw [← size_len, extract_size _ _ _ (Nat.le_refl _)] at hl
      rw [show ((s[0].toNat : Int)).toNat.toUInt8 = s[0] by simp] at hI
      have HI := Lib.hid hI
      clear h3 hb hI
      generalize Lib.indexByte (s.extract 1 s.size).data.toList s[0] = r at *
      by_cases hr : r < 0
      · rw [if_pos hr] at e
        rw [txV_none e]
        clear e
        go_enter Tryd.func49, Tryd.ntmps49
        go_wp2
        go_quiet ((go_at_call 59; exact Calls.quiet_of_same (HI.out _)))
        go_wp2
        go_ret2
        exact ⟨rfl, bdrew _ _⟩
      · rw [if_neg hr] at e
        rw [txV_some e]
        clear e
        obtain ⟨k, rfl⟩ : ∃ k : Nat, r = k := ⟨r.toNat, by omega⟩
        go_enter Tryd.func49, Tryd.ntmps49
        go_wp2
        go_quiet ((go_at_call 59; exact Calls.quiet_of_same (HI.out _)))
        go_wp2
        go_ret2
        exact ⟨rfl, bdrew _ _⟩
/-- readName. -/
def nmV (s : ByteArray) : Value := .tuple #[.string (nmF s).1, .int .i64 (nmF s).2]
theorem cNm (s : ByteArray) (hs : s.size ≤ maxLen) (w : World) :
    Calls Tryd.prog 58 #[.string s] w fun e w' => e = .returned (nmV s) ∧ w = w' := by
  have H0 := Lib.hid (fun w => cAt0 s hs w)
  have H1 := Lib.hid (fun w => cAt1 s hs w)
  have H2 := Lib.hid (fun w => cAt2 s hs w)
  have S0 := Lib.hid (fun w => cShort (bt s 0) (bt_lt _ _) w)
  have S1 := Lib.hid (fun w => cShort (bt s 1) (bt_lt _ _) w)
  have S2 := Lib.hid (fun w => cShort (bt s 2) (bt_lt _ _) w)
  have b0 := bt_lt s 0
  unfold maxLen at hs
  by_cases h0 : bt s 0 = 40
  · have e : nmV s = if shB (bt s 1) && shB (bt s 2) then .tuple #[.string (s.extract 1 3), .int .i64 3] else .tuple #[.string ⟨#[]⟩, .int .i64 0] := by
      unfold nmV nmF; rw [if_pos h0]; split <;> rfl
    rw [e]
    rw [h0] at H0
    clear S0
    have S0 : Hid (∀ w, Calls Tryd.prog 63 #[.int .u8 40] w fun e w' => e = .returned (.bool false) ∧ w = w') := Lib.hid (fun w => cShort 40 (by omega) w)
    have hz2 : shB (bt s 2) = true → 3 ≤ s.size := fun h => bt_size (shB_ne h)
    clear e h0 b0
    generalize bt s 1 = c1 at *
    generalize bt s 2 = c2 at *
    cases h1 : shB c1
    · rw [h1] at S1
      go_enter Tryd.func58, Tryd.ntmps58
      go_wp2_with (first
        | (go_at_call 57; with_reducible refine (H0.out _).mono ?_; rintro e w1 ⟨rfl, rfl⟩)
        | (go_at_call 57; with_reducible refine (H1.out _).mono ?_; rintro e w1 ⟨rfl, rfl⟩)
        | (go_at_call 63; with_reducible refine (S1.out _).mono ?_; rintro e w1 ⟨rfl, rfl⟩)
        | (go_at_call 63; with_reducible refine (S0.out _).mono ?_; rintro e w1 ⟨rfl, rfl⟩))
      go_ret2
      exact ⟨rfl, rfl⟩
    · rw [h1] at S1
      cases h2 : shB c2
      · rw [h2] at S2
        go_enter Tryd.func58, Tryd.ntmps58
        go_wp2_with (first
          | (go_at_call 57; with_reducible refine (H0.out _).mono ?_; rintro e w1 ⟨rfl, rfl⟩)
          | (go_at_call 57; with_reducible refine (H1.out _).mono ?_; rintro e w1 ⟨rfl, rfl⟩)
          | (go_at_call 57; with_reducible refine (H2.out _).mono ?_; rintro e w1 ⟨rfl, rfl⟩)
          | (go_at_call 63; with_reducible refine (S1.out _).mono ?_; rintro e w1 ⟨rfl, rfl⟩)
          | (go_at_call 63; with_reducible refine (S2.out _).mono ?_; rintro e w1 ⟨rfl, rfl⟩)
          | (go_at_call 63; with_reducible refine (S0.out _).mono ?_; rintro e w1 ⟨rfl, rfl⟩))
        go_ret2
        exact ⟨rfl, rfl⟩
      · rw [h2] at S2
        have hz2 := hz2 h2
        go_enter Tryd.func58, Tryd.ntmps58
        go_wp2_with (first
          | (go_at_call 57; with_reducible refine (H0.out _).mono ?_; rintro e w1 ⟨rfl, rfl⟩)
          | (go_at_call 57; with_reducible refine (H1.out _).mono ?_; rintro e w1 ⟨rfl, rfl⟩)
          | (go_at_call 57; with_reducible refine (H2.out _).mono ?_; rintro e w1 ⟨rfl, rfl⟩)
          | (go_at_call 63; with_reducible refine (S1.out _).mono ?_; rintro e w1 ⟨rfl, rfl⟩)
          | (go_at_call 63; with_reducible refine (S2.out _).mono ?_; rintro e w1 ⟨rfl, rfl⟩))
        go_ret2
        exact ⟨rfl, rfl⟩
  · by_cases h1 : bt s 0 = 91
    · have e : nmV s = if decide (1 < brI s) && allB grB (s.extract 1 (brI s).toNat) then .tuple #[.string (s.extract 1 (brI s).toNat), .int .i64 (brI s + 1)] else .tuple #[.string ⟨#[]⟩, .int .i64 0] := by
        unfold nmV nmF; rw [if_neg h0, if_pos h1]
        split
        · rename_i h
          simp only [Bool.and_eq_true, decide_eq_true_eq] at h
          have : ((((brI s).toNat + 1 : Nat)) : Int) = brI s + 1 := by omega
          rw [this]
        · rfl
      rw [e]
      rw [h1] at H0
      have hI := fun w => Tryd.strings_IndexByte (s.extract 0 (min s.size 22)) 93 w
      have hl := ib_lt (s.extract 0 (min s.size 22)).data.toList 93
      have hg := Lib.indexByte_ge (s.extract 0 (min s.size 22)).data.toList 93
      rw [← size_len, extract_size _ _ _ (Nat.min_le_left _ _)] at hl
      change ∀ w, Calls _ _ _ w fun e w' => e = .returned (.int .i64 (brI s)) ∧ w' = w at hI
      rw [show min s.size 22 = (min (s.size : Int) 22).toNat by omega] at hI
      change brI s < _ at hl
      change -1 ≤ brI s at hg
      have HI := Lib.hid hI
      have HG := Lib.hid (fun (h : (s.extract 1 (brI s).toNat).size ≤ maxLen) w => cGraphic (s.extract 1 (brI s).toNat) h w)
      clear e h0 h1 b0 hI S0 S1 S2 H1 H2
      generalize brI s = r at *
      by_cases hr : 1 < r
      · obtain ⟨k, rfl⟩ : ∃ k : Nat, r = k := ⟨r.toNat, by omega⟩
        have hG := fun w => HG.out (by unfold maxLen; rw [extract_size _ _ _ (by omega)]; omega) w
        simp only [Int.toNat_natCast] at hG ⊢
        rw [decide_eq_true hr, Bool.true_and]
        generalize allB grB (s.extract 1 k) = g at *
        have HG := Lib.hid hG
        clear hG
        cases g
        all_goals
          go_enter Tryd.func58, Tryd.ntmps58
          go_wp2_with (first
            | (go_at_call 57; with_reducible refine (H0.out _).mono ?_; rintro e w1 ⟨rfl, rfl⟩)
            | (go_at_call 59; with_reducible refine (HI.out _).mono ?_; rintro e w1 ⟨rfl, rfl⟩)
            | (go_at_call 64; refine (HG.out _).mono ?_; rintro e w1 ⟨rfl, rfl⟩))
          go_ret2
          exact ⟨rfl, rfl⟩
      · rw [decide_eq_false hr, Bool.false_and]
        go_enter Tryd.func58, Tryd.ntmps58
        go_wp2_with (first
          | (go_at_call 57; with_reducible refine (H0.out _).mono ?_; rintro e w1 ⟨rfl, rfl⟩)
          | (go_at_call 59; with_reducible refine (HI.out _).mono ?_; rintro e w1 ⟨rfl, rfl⟩))
        go_ret2
        exact ⟨rfl, rfl⟩
    · have e : nmV s = if shB (bt s 0) then .tuple #[.string (s.extract 0 1), .int .i64 1] else .tuple #[.string ⟨#[]⟩, .int .i64 0] := by
        unfold nmV nmF; rw [if_neg h0, if_neg h1]; split <;> rfl
      rw [e]
      have hz : shB (bt s 0) = true → 1 ≤ s.size := fun h => bt_size (shB_ne h)
      have hB0 : ((bt s 0 : Int) == 40) = false := by
        rw [beq_eq_false_iff_ne]; omega
      have hB1 : ((bt s 0 : Int) == 91) = false := by
        rw [beq_eq_false_iff_ne]; omega
      clear e h0 h1 S1 S2 H1 H2
      generalize bt s 0 = c at *
      cases h2 : shB c
      · rw [h2] at S0
        go_enter Tryd.func58, Tryd.ntmps58
        go_wp2_with (first
          | (go_at_call 57; with_reducible refine (H0.out _).mono ?_; rintro e w1 ⟨rfl, rfl⟩)
          | (go_at_call 63; with_reducible refine (S0.out _).mono ?_; rintro e w1 ⟨rfl, rfl⟩))
        go_ret2
        exact ⟨rfl, rfl⟩
      · rw [h2] at S0
        have hz := hz h2
        go_enter Tryd.func58, Tryd.ntmps58
        go_wp2_with (first
          | (go_at_call 57; with_reducible refine (H0.out _).mono ?_; rintro e w1 ⟨rfl, rfl⟩)
          | (go_at_call 63; with_reducible refine (S0.out _).mono ?_; rintro e w1 ⟨rfl, rfl⟩))
        go_ret2
        exact ⟨rfl, rfl⟩
end Go.Proofs.YtbkcnopkibdlbaaDoor
