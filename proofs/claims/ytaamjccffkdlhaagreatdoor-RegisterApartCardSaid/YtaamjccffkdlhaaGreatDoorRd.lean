/- Walk: what a format is, in the code's words. -/
import Derived.Test.YtaamjccffkdlhaaGreatDoorRb
import Derived.Test.YtaamjccffkdlhaaGreatDoorShelf
namespace Go.Proofs.YtaamjccffkdlhaaGreatDoor
open Go.RowKit

/-- checkFormat. -/
theorem cFmt (s : ByteArray) (hs : s.size ≤ maxLen) (w : World) :
    Calls Tryz.prog 40 #[.string s] w fun e w' => e = .returned (.int .i64 (erI (fmtB s) 4)) ∧ w = w' := by
  have hs' := hs
  unfold maxLen at hs
  by_cases h0 : s.size = 0
  · rw [fmtB_0 h0]
    have e : s = ⟨#[]⟩ := by
      obtain ⟨⟨l⟩⟩ := s
      have : l = [] := List.length_eq_zero_iff.1 h0
      subst this; rfl
    subst e
    go_enter Tryz.func40, Tryz.ntmps40
    go_wp2_with fail
    go_ret
    exact ⟨rfl, rfl⟩
  · obtain ⟨he1, he2⟩ := toList_ne h0
    by_cases h9 : s.size ≤ 9
    · by_cases h1 : s.size = 1
      · obtain ⟨c, rfl⟩ := one_of h1
        have hc := fun w => Tryz.strings_Contains_one ⟨#[105, 73, 97, 65]⟩ c w
        have ha := fun w => cAll ⟨#[c]⟩ hs' w
        have hf := fmtB_one c
        generalize allB digB ⟨#[c]⟩ = a at ha hf
        have HC : Hid (∀ w, Calls Tryz.prog 61 #[.string ⟨#[105, 73, 97, 65]⟩, .string ⟨#[c]⟩] w fun e w' => e = .returned (.bool (letB c)) ∧ w' = w) := Lib.hid hc
        clear hc
        generalize letB c = b at HC hf
        have HF := Lib.hid hf
        have HA := Lib.hid ha
        clear hf ha
        go_enter Tryz.func40, Tryz.ntmps40
        cases a <;> cases b
        all_goals
          go_wp2_with (first
            | (go_at_call 59; refine (HA.out _).mono ?_; rintro e w' ⟨rfl, rfl⟩)
            | (go_at_call 61; refine (HC.out _).mono ?_; rintro e w' ⟨rfl, rfl⟩))
          go_ret
          rw [HF.out]
          exact ⟨rfl, rfl⟩
      · rw [fmtB_mid (by omega) h9]
        have HA := Lib.hid (fun w => cAll s hs' w)
        generalize allB digB s = a at HA
        go_enter Tryz.func40, Tryz.ntmps40
        cases a
        all_goals
          go_wp2_with (go_at_call 59; refine (HA.out _).mono ?_; rintro e w' ⟨rfl, rfl⟩)
          go_ret
          exact ⟨rfl, rfl⟩
    · rw [fmtB_great (by omega)]
      go_enter Tryz.func40, Tryz.ntmps40
      go_wp2_with fail
      go_ret
      exact ⟨rfl, rfl⟩
end Go.Proofs.YtaamjccffkdlhaaGreatDoor
