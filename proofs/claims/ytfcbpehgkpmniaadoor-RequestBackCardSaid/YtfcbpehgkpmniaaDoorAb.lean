/- Walks of the document's bytes: letters, digits, blanks, control bytes; blanks and words in a text; lines. -/
import Derived.Test.YtfcbpehgkpmniaaDoorAa
import Derived.Test.YtfcbpehgkpmniaaDoorRc
namespace Go.Proofs.YtfcbpehgkpmniaaDoor
open Go.RowKit

/-- The document's letter. -/
theorem nLetter (c : UInt8) (w : World) :
    Calls Tryd.prog 65 #[.int .u8 (c.toNat : Int)] w fun e w' => e = .returned (.bool (ltB c)) ∧ w = w' := by
  have hn : ltB c = ((decide (97 ≤ (c.toNat : Int)) && decide ((c.toNat : Int) ≤ 122)) || (decide (65 ≤ (c.toNat : Int)) && decide ((c.toNat : Int) ≤ 90))) := by
    unfold ltB
    rw [Bool.eq_iff_iff]
    simp only [Bool.or_eq_true, Bool.and_eq_true, decide_eq_true_eq]
    omega
  rw [hn]
  clear hn
  generalize (c.toNat : Int) = n
  by_cases h1 : 97 ≤ n <;> by_cases h2 : n ≤ 122 <;> by_cases h3 : 65 ≤ n <;> by_cases h4 : n ≤ 90
  all_goals
    go_enter Tryd.func65, Tryd.ntmps65
    go_wp2
    go_ret
    refine ⟨ret_b ?_, rfl⟩
    simp [h1, h2, h3, h4]
/-- The document's digit. -/
theorem nDigit (c : UInt8) (w : World) :
    Calls Tryd.prog 66 #[.int .u8 (c.toNat : Int)] w fun e w' => e = .returned (.bool (dgB c)) ∧ w = w' := by
  have hn : dgB c = (decide (48 ≤ (c.toNat : Int)) && decide ((c.toNat : Int) ≤ 57)) := by
    unfold dgB
    rw [Bool.eq_iff_iff]
    simp only [Bool.and_eq_true, decide_eq_true_eq]
    omega
  rw [hn]
  clear hn
  generalize (c.toNat : Int) = n
  by_cases h1 : 48 ≤ n <;> by_cases h2 : n ≤ 57
  all_goals
    go_enter Tryd.func66, Tryd.ntmps66
    go_wp2
    go_ret
    refine ⟨ret_b ?_, rfl⟩
    simp [h1, h2]
theorem bl_eq (c : UInt8) : blB c = (((c.toNat : Int) == 32) || ((c.toNat : Int) == 9)) := by
  unfold blB
  rw [Bool.eq_iff_iff]
  simp only [Bool.or_eq_true, decide_eq_true_eq, beq_iff_eq]
  omega
/-- The document's blank. -/
theorem nBlank (c : UInt8) (w : World) :
    Calls Tryd.prog 52 #[.int .u8 (c.toNat : Int)] w fun e w' => e = .returned (.bool (blB c)) ∧ w = w' := by
  rw [bl_eq]
  generalize (c.toNat : Int) = n
  cases h1 : (n == 32) <;> cases h2 : (n == 9)
  all_goals
    go_enter Tryd.func52, Tryd.ntmps52
    go_wp2
    go_ret
    exact ⟨rfl, rfl⟩
/-- The document's IsControl. -/
theorem nCtl (c : UInt8) (w : World) :
    Calls Tryd.prog 44 #[.int .u8 (c.toNat : Int)] w fun e w' => e = .returned (.bool (ctB c)) ∧ w = w' := by
  have HL := Lib.hid (fun w => nLetter c w)
  have HD := Lib.hid (fun w => nDigit c w)
  have HB := Lib.hid (fun w => nBlank c w)
  have hn : ctB c = (!ltB c && !dgB c && !blB c && ((c.toNat : Int) != 92)) := by
    unfold ctB
    congr 1
    rw [Bool.eq_iff_iff]
    simp only [Bool.not_eq_true', decide_eq_false_iff_not, bne_iff_ne, ne_eq]
    omega
  rw [hn]
  clear hn
  generalize ltB c = b1 at *
  generalize dgB c = b2 at *
  generalize blB c = b3 at *
  generalize (c.toNat : Int) = n at *
  cases b1 <;> cases b2 <;> cases b3 <;> cases h4 : (n != 92)
  all_goals
    go_enter Tryd.func44, Tryd.ntmps44
    go_wp2_with (first
      | (go_at_call 65; refine (HL.out _).mono ?_; rintro e w1 ⟨rfl, rfl⟩)
      | (go_at_call 66; refine (HD.out _).mono ?_; rintro e w1 ⟨rfl, rfl⟩)
      | (go_at_call 52; refine (HB.out _).mono ?_; rintro e w1 ⟨rfl, rfl⟩))
    go_ret
    exact ⟨rfl, rfl⟩
/-- The document's skip. -/
theorem nSkip (s : ByteArray) (hs : s.size ≤ maxLen) (i : Nat) (hi : i ≤ s.size) (w : World) :
    Calls Tryd.prog 23 #[.string s, .int .i64 i] w fun e w' => (∃ k : Nat, e = .returned (.int .i64 k) ∧ i ≤ k ∧ k ≤ s.size ∧ dr s k = skL (dr s i)) ∧ w = w' := by
  have HB := Lib.hid (fun (c : UInt8) w => nBlank c w)
  unfold maxLen at hs
  go_enter Tryd.func23, Tryd.ntmps23
  go_wp2
  go_loop [1] (fun v1 => ∃ k : Nat, i ≤ k ∧ k ≤ s.size ∧ v1 = .int .i64 k ∧ skL (dr s k) = skL (dr s i)) (fun v1 => s.size - (intOf v1).toNat)
  case atStart => exact ⟨i, Nat.le_refl _, hi, rfl, rfl⟩
  case round =>
    obtain ⟨k, hik, hk, rfl, hb⟩ := hrel
    have HE := Lib.hid hb
    clear hb
    by_cases hlt : k < s.size
    · have hc := Lib.hid (dr_cons hlt)
      cases h3 : blB s[k]
      · have h := Lib.hid h3
        go_wp2_with (go_at_call 52; refine (HB.out _ _).mono ?_; rintro e w1 ⟨rfl, rfl⟩; rw [h3])
        go_ret
        refine ⟨⟨k, rfl, hik, hk, ?_⟩, rfl⟩
        rw [← HE.out, hc.out, skL_cons, h.out]
        rfl
      · have h := Lib.hid h3
        go_wp2_with (go_at_call 52; refine (HB.out _ _).mono ?_; rintro e w1 ⟨rfl, rfl⟩; rw [h3])
        go_round
        case rel => exact ⟨k + 1, by omega, by omega, by go_num, by rw [← HE.out, hc.out, skL_cons, h.out]; rfl⟩
        case measure => simp [intOf]; omega
    · have he := Lib.hid (dr_end (s := s) (i := k) (by omega))
      go_wp2
      go_ret
      refine ⟨⟨k, rfl, hik, hk, ?_⟩, rfl⟩
      rw [← HE.out, he.out]
      rfl
theorem wdL_cons (c : UInt8) (t : List UInt8) : wdL (c :: t) = if blB c then [] else c :: wdL t := by
  unfold wdL
  rw [List.takeWhile_cons]
  cases blB c <;> rfl
theorem wdR_cons (c : UInt8) (t : List UInt8) : wdR (c :: t) = if blB c then c :: t else wdR t := by
  unfold wdR
  rw [List.dropWhile_cons]
  cases blB c <;> rfl
theorem ext_step {s : ByteArray} {i k : Nat} (hik : i ≤ k) (hk : k < s.size) : (s.extract i (k + 1)).data.toList = (s.extract i k).data.toList ++ [s[k]] := by
  rw [ext_dr, ext_dr, show k + 1 - i = (k - i) + 1 by omega, List.take_add_one]
  congr 1
  unfold dr
  rw [List.getElem?_drop, show i + (k - i) = k by omega, List.getElem?_eq_getElem (show k < s.data.toList.length from hk)]
  rfl
theorem ext_none (s : ByteArray) (i : Nat) : (s.extract i i).data.toList = [] := by
  rw [ext_dr, Nat.sub_self, List.take_zero]
/-- The document's word. -/
theorem nWord (s : ByteArray) (hs : s.size ≤ maxLen) (i : Nat) (hi : i ≤ s.size) (w : World) :
    Calls Tryd.prog 45 #[.string s, .int .i64 i] w fun e w' => (∃ k : Nat, e = .returned (.int .i64 k) ∧ i ≤ k ∧ k ≤ s.size ∧ dr s k = wdR (dr s i) ∧ (s.extract i k).data.toList = wdL (dr s i)) ∧ w = w' := by
  have HB := Lib.hid (fun (c : UInt8) w => nBlank c w)
  unfold maxLen at hs
  go_enter Tryd.func45, Tryd.ntmps45
  go_wp2
  go_loop [1] (fun v1 => ∃ k : Nat, i ≤ k ∧ k ≤ s.size ∧ v1 = .int .i64 k ∧ wdR (dr s k) = wdR (dr s i) ∧ (s.extract i k).data.toList ++ wdL (dr s k) = wdL (dr s i)) (fun v1 => s.size - (intOf v1).toNat)
  case atStart => exact ⟨i, Nat.le_refl _, hi, rfl, rfl, by rw [ext_none]; rfl⟩
  case round =>
    obtain ⟨k, hik, hk, rfl, hb⟩ := hrel
    have HE := Lib.hid hb
    clear hb
    by_cases hlt : k < s.size
    · have hc := Lib.hid (dr_cons hlt)
      cases h3 : blB s[k]
      · have h := Lib.hid h3
        go_wp2_with (go_at_call 52; refine (HB.out _ _).mono ?_; rintro e w1 ⟨rfl, rfl⟩; rw [h3])
        go_round
        case rel =>
          refine ⟨k + 1, by omega, by omega, by go_num, ?_, ?_⟩
          · rw [← HE.out.1, hc.out, wdR_cons, h.out]; rfl
          · rw [← HE.out.2, hc.out, wdL_cons, h.out, ext_step hik hlt, List.append_assoc]; rfl
        case measure => simp [intOf]; omega
      · have h := Lib.hid h3
        go_wp2_with (go_at_call 52; refine (HB.out _ _).mono ?_; rintro e w1 ⟨rfl, rfl⟩; rw [h3])
        go_ret
        refine ⟨⟨k, rfl, hik, hk, ?_, ?_⟩, rfl⟩
        · rw [← HE.out.1, hc.out, wdR_cons, h.out]; rfl
        · rw [← HE.out.2, hc.out, wdL_cons, h.out]; exact (List.append_nil _).symm
    · have he := Lib.hid (dr_end (s := s) (i := k) (by omega))
      go_wp2
      go_ret
      refine ⟨⟨k, rfl, hik, hk, ?_, ?_⟩, rfl⟩
      · rw [← HE.out.1, he.out]; rfl
      · rw [← HE.out.2, he.out, show wdL [] = [] from rfl, List.append_nil]; exact (ext_dr s i k).symm
end Go.Proofs.YtfcbpehgkpmniaaDoor
