/- Walks of the code's bytes: letters, digits, blanks, control bytes, bytes around the texts of a condition; lines. -/
import Derived.Test.YtfcbpehgkpmniaaDoorAc
import Derived.Test.YtfcbpehgkpmniaaDoorAj
import Derived.Test.YtfcbpehgkpmniaaDoorShelf
namespace Go.Proofs.YtfcbpehgkpmniaaDoor
open Go.RowKit

/-- isLetter. -/
theorem cLetter (c : UInt8) (w : World) :
    Calls Tryd.prog 63 #[.int .u8 (c.toNat : Int)] w fun e w' => e = .returned (.bool (ltB c)) ∧ w = w' := by
  have hn : ltB c = ((decide (97 ≤ (c.toNat : Int)) && decide ((c.toNat : Int) ≤ 122)) || (decide (65 ≤ (c.toNat : Int)) && decide ((c.toNat : Int) ≤ 90))) := by
    unfold ltB
    rw [Bool.eq_iff_iff]
    simp only [Bool.or_eq_true, Bool.and_eq_true, decide_eq_true_eq]
    omega
  rw [hn]
  clear hn
  generalize (c.toNat : Int) = n
  by_cases h1 : 97 ≤ n <;> by_cases h2 : n ≤ 122 <;> by_cases h3 : 65 ≤ n <;> by_cases h4 : n ≤ 90
  all_goals
    go_enter Tryd.func63, Tryd.ntmps63
    go_wp2
    go_ret
    refine ⟨ret_b ?_, rfl⟩
    simp [h1, h2, h3, h4]
/-- isDigit. -/
theorem cDigit (c : UInt8) (w : World) :
    Calls Tryd.prog 64 #[.int .u8 (c.toNat : Int)] w fun e w' => e = .returned (.bool (dgB c)) ∧ w = w' := by
  have hn : dgB c = (decide (48 ≤ (c.toNat : Int)) && decide ((c.toNat : Int) ≤ 57)) := by
    unfold dgB
    rw [Bool.eq_iff_iff]
    simp only [Bool.and_eq_true, decide_eq_true_eq]
    omega
  rw [hn]
  clear hn
  generalize (c.toNat : Int) = n
  by_cases h1 : 48 ≤ n <;> by_cases h2 : n ≤ 57
  all_goals
    go_enter Tryd.func64, Tryd.ntmps64
    go_wp2
    go_ret
    refine ⟨ret_b ?_, rfl⟩
    simp [h1, h2]
/-- isBlank. -/
theorem cBlank (c : UInt8) (w : World) :
    Calls Tryd.prog 28 #[.int .u8 (c.toNat : Int)] w fun e w' => e = .returned (.bool (blB c)) ∧ w = w' := by
  rw [bl_eq]
  generalize (c.toNat : Int) = n
  cases h1 : (n == 32) <;> cases h2 : (n == 9)
  all_goals
    go_enter Tryd.func28, Tryd.ntmps28
    go_wp2
    go_ret
    exact ⟨rfl, rfl⟩
/-- isNoBlank. -/
theorem cNoBlank (c : UInt8) (w : World) :
    Calls Tryd.prog 42 #[.int .u8 (c.toNat : Int)] w fun e w' => e = .returned (.bool (!blB c)) ∧ w = w' := by
  have HB := Lib.hid (fun w => cBlank c w)
  generalize blB c = b at *
  go_enter Tryd.func42, Tryd.ntmps42
  go_wp2_with (go_at_call 28; refine (HB.out _).mono ?_; rintro e w1 ⟨rfl, rfl⟩)
  go_ret
  exact ⟨rfl, rfl⟩
/-- isTurn. -/
theorem cTurn (c : UInt8) (w : World) :
    Calls Tryd.prog 29 #[.int .u8 (c.toNat : Int)] w fun e w' => e = .returned (.bool (decide (c.toNat = 33))) ∧ w = w' := by
  have hn : decide (c.toNat = 33) = ((c.toNat : Int) == 33) := by
    rw [Bool.eq_iff_iff]
    simp only [decide_eq_true_eq, beq_iff_eq]
    omega
  rw [hn]
  clear hn
  generalize (c.toNat : Int) = n
  go_enter Tryd.func29, Tryd.ntmps29
  go_wp2
  go_ret
  exact ⟨rfl, rfl⟩
/-- isAny. -/
theorem cAny (c : UInt8) (w : World) :
    Calls Tryd.prog 31 #[.int .u8 (c.toNat : Int)] w fun e w' => e = .returned (.bool true) ∧ w = w' := by
  go_enter Tryd.func31, Tryd.ntmps31
  go_wp2
  go_ret
  exact ⟨rfl, rfl⟩
/-- mayControl. -/
theorem cCtl (c : UInt8) (w : World) :
    Calls Tryd.prog 41 #[.int .u8 (c.toNat : Int)] w fun e w' => e = .returned (.bool (ctB c)) ∧ w = w' := by
  have HL := Lib.hid (fun w => cLetter c w)
  have HD := Lib.hid (fun w => cDigit c w)
  have HB := Lib.hid (fun w => cBlank c w)
  have hn : ctB c = (!ltB c && !dgB c && !blB c && ((c.toNat : Int) != 92)) := by
    unfold ctB
    congr 1
    rw [Bool.eq_iff_iff]
    simp only [Bool.not_eq_true', decide_eq_false_iff_not, bne_iff_ne, ne_eq]
    omega
  rw [hn]
  clear hn
  generalize ltB c = b1 at *
  generalize dgB c = b2 at *
  generalize blB c = b3 at *
  generalize (c.toNat : Int) = n at *
  cases b1 <;> cases b2 <;> cases b3 <;> cases h4 : (n != 92)
  all_goals
    go_enter Tryd.func41, Tryd.ntmps41
    go_wp2_with (first
      | (go_at_call 63; refine (HL.out _).mono ?_; rintro e w1 ⟨rfl, rfl⟩)
      | (go_at_call 64; refine (HD.out _).mono ?_; rintro e w1 ⟨rfl, rfl⟩)
      | (go_at_call 28; refine (HB.out _).mono ?_; rintro e w1 ⟨rfl, rfl⟩))
    go_ret
    exact ⟨rfl, rfl⟩
/-- The bytes that stand around no text. -/
def othS : ByteArray := ⟨#[40, 43, 45, 46, 124, 33]⟩
theorem qu_ctl (c : UInt8) : quB c = (ctB c && decide (Lib.indexByte othS.data.toList c < 0)) := by
  have : ∀ n : Fin 256, quB (UInt8.ofFin n) = (ctB (UInt8.ofFin n) && decide (Lib.indexByte othS.data.toList (UInt8.ofFin n) < 0)) := by decide +kernel
  exact this c.toFin
/-- isQuote. -/
theorem cQuote (c : UInt8) (w : World) :
    Calls Tryd.prog 56 #[.int .u8 (c.toNat : Int)] w fun e w' => e = .returned (.bool (quB c)) ∧ w = w' := by
  have HC := Lib.hid (fun w => cCtl c w)
  have HI := Lib.hid (fun w => Tryd.strings_IndexByte othS (c.toNat : Int) w)
  have hu : ((c.toNat : Int).toNat).toUInt8 = c := by simp
  rw [hu] at HI
  unfold othS at HI
  rw [qu_ctl]
  unfold othS
  generalize ctB c = b at *
  generalize hi : Lib.indexByte _ c = i at *
  clear hi
  generalize (c.toNat : Int) = n at *
  cases b <;> by_cases hi0 : i < 0
  all_goals
    go_enter Tryd.func56, Tryd.ntmps56
    go_wp2_with (first
      | (go_at_call 41; refine (HC.out _).mono ?_; rintro e w1 ⟨rfl, rfl⟩)
      | (go_at_call 71; refine (HI.out _).mono ?_; rintro e w1 ⟨rfl, rfl⟩))
    go_ret
    exact ⟨ret_b (by simp [hi0]), rfl⟩
theorem idx_mem : ∀ (l : List UInt8) (c : UInt8), decide (0 ≤ Lib.indexByte l c) = l.contains c := by
  intro l c
  have hge := Lib.indexByte_ge l c
  rw [Bool.eq_iff_iff, decide_eq_true_eq, List.contains_iff_mem]
  constructor
  · intro h
    obtain ⟨o, ho⟩ := Int.eq_ofNat_of_zero_le h
    exact List.mem_of_getElem? (Lib.indexByte_some ho).1
  · intro h
    rcases Int.lt_or_le (Lib.indexByte l c) 0 with h0 | h0
    · obtain ⟨k, hk⟩ := List.mem_iff_getElem?.1 h
      exact absurd hk (Lib.indexByte_none (show Lib.indexByte l c = -1 by omega) k)
    · exact h0
/-- validLine. -/
theorem cValid (s : ByteArray) (_hs : s.size ≤ maxLen) (w : World) :
    Calls Tryd.prog 26 #[.string s] w fun e w' => e = .returned (.bool (lineB s.data.toList)) ∧ w = w' := by
  have HI := Lib.hid (fun w => Tryd.strings_Contains_one s 10 w)
  have hl : lineB s.data.toList = (decide ((s.size : Int) ≤ 2000) && !decide (0 ≤ Lib.indexByte s.data.toList 10)) := by
    unfold lineB
    rw [idx_mem, len_le, Bool.and_comm]
    congr 1
    rw [Bool.eq_iff_iff, List.all_eq_true]
    simp only [Bool.not_eq_true', List.contains_eq_mem, decide_eq_false_iff_not]
    constructor
    · intro h hm
      exact h 10 hm rfl
    · intro h c hc e
      exact h (by rwa [← UInt8.toNat_inj.1 (show c.toNat = (10 : UInt8).toNat from e)])
  rw [hl]
  clear hl
  generalize decide (0 ≤ Lib.indexByte s.data.toList 10) = b at *
  by_cases h1 : (s.size : Int) ≤ 2000 <;> cases b
  all_goals
    go_enter Tryd.func26, Tryd.ntmps26
    go_wp2_with (go_at_call 37; refine (HI.out _).mono ?_; rintro e w1 ⟨rfl, rfl⟩)
    go_ret
    exact ⟨ret_b (by simp [h1]), rfl⟩
end Go.Proofs.YtfcbpehgkpmniaaDoor
