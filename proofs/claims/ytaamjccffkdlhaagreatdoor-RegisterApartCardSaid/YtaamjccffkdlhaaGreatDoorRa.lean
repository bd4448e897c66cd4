/- Walks of package register's smallest functions: digits, formats, ranges. -/
import Derived.Test.YtaamjccffkdlhaaGreatDoorProg
import Derived.Test.YtaamjccffkdlhaaGreatDoorPa
import Derived.Handy
import Derived.WalkLawsBesides
import Derived.WalkSpells
import Derived.Lib.Hide
import Derived.Laws.OwnMore
import Derived.Deep.Draws
import Derived.Outline
import Derived.BigQuiet
import Derived.Deep.QuietTactic
namespace Go.Proofs.YtaamjccffkdlhaaGreatDoor
open Go.RowKit

theorem ret_i {k : IntKind} {a b : Int} (h : a = b) : Ending.returned (.int k a) = .returned (.int k b) := by rw [h]
theorem ret_b {a b : Bool} (h : a = b) : Ending.returned (.bool a) = .returned (.bool b) := by rw [h]

/-- No error, or the error k. -/
def erI : Bool → Int → Int
  | true, _ => 0
  | false, k => k
/-- Every byte of a string is as asked. -/
def allB (p : Nat → Bool) (s : ByteArray) : Bool := s.data.toList.all fun c => p c.toNat
theorem allB_yes {p : Nat → Bool} {s : ByteArray} (h : ∀ (j : Nat) (hj : j < s.size), p s[j].toNat = true) : allB p s = true := by
  unfold allB
  rw [List.all_eq_true]
  intro c hc
  obtain ⟨j, hj, rfl⟩ := List.getElem_of_mem hc
  have hj' : j < s.size := by simpa using hj
  exact h j hj'
theorem allB_no {p : Nat → Bool} {s : ByteArray} (j : Nat) (hj : j < s.size) (h : p s[j].toNat = false) : allB p s = false := by
  unfold allB
  rw [List.all_eq_false]
  exact ⟨s[j], by simp [ByteArray.getElem_eq_getElem_data], by simp [h]⟩
def digB (c : Nat) : Bool := decide (48 ≤ c) && decide (c ≤ 57)

/-- isDigit. -/
theorem cDig (c : Nat) (w : World) : Calls Tryz.prog 60 #[.int .u8 c] w fun e w' => e = .returned (.bool (digB c)) ∧ w = w' := by
  by_cases h1 : 48 ≤ (c : Int)
  · have hw : digB c = decide ((c : Int) ≤ 57) := by
      have : 48 ≤ c := by omega
      simp [digB, this]; omega
    rw [hw]; clear hw
    go_enter Tryz.func60, Tryz.ntmps60
    go_wp2
    all_goals go_ret
    all_goals exact ⟨rfl, rfl⟩
  · have hw : digB c = false := by
      have : ¬ 48 ≤ c := by omega
      simp [digB, this]
    rw [hw]; clear hw
    go_enter Tryz.func60, Tryz.ntmps60
    go_wp2
    all_goals go_ret
    all_goals exact ⟨rfl, rfl⟩
/-- all, at isDigit. -/
theorem cAll (s : ByteArray) (hs : s.size ≤ maxLen) (w : World) :
    Calls Tryz.prog 59 #[.string s, .func (.func 60) #[] #[]] w fun e w' => e = .returned (.bool (allB digB s)) ∧ w = w' := by
  unfold maxLen at hs
  go_enter Tryz.func59, Tryz.ntmps59
  go_wp2
  go_loop [8] (fun v8 => ∃ k : Nat, k ≤ s.size ∧ v8 = .int .i64 k ∧ ∀ (j : Nat) (hj : j < s.size), j < k → digB s[j].toNat = true) (fun v8 => s.size - (intOf v8).toNat)
  case atStart => exact ⟨0, Nat.zero_le _, rfl, fun j hj h => by omega⟩
  case round =>
    obtain ⟨k, hk, rfl, hb⟩ := hrel
    have HB := Lib.hid hb
    clear hb
    by_cases hlt : k < s.size
    · go_wp2_with (go_at_call 60; refine (cDig _ _).mono ?_; rintro e w' ⟨rfl, rfl⟩)
      · have hd : (!digB s[k].toNat) = true := by assumption
        go_ret
        exact ⟨ret_b (allB_no k hlt (by simpa using hd)).symm, rfl⟩
      · have hd : (!digB s[k].toNat) = false := by assumption
        go_round
        case rel => exact ⟨k + 1, by omega, by go_num, fun j hj h => by
          by_cases e : j = k
          · subst e; simpa using hd
          · exact HB.out j hj (by omega)⟩
        case measure => simp [intOf]; omega
    · go_wp2
      go_ret
      exact ⟨ret_b (allB_yes fun j hj => HB.out j hj (by omega)).symm, rfl⟩
/-- What a register may hold. -/
def rngB (n : Int) : Bool := decide (-1000000000 ≤ n) && decide (n ≤ 1000000000)
/-- checkRange. -/
theorem cRng (n : Int) (w : World) : Calls Tryz.prog 37 #[.int .i64 n] w fun e w' => e = .returned (.int .i64 (erI (rngB n) 5)) ∧ w = w' := by
  by_cases h1 : n < -1000000000
  · have hw : rngB n = false := by simp [rngB]; omega
    rw [hw]; clear hw
    go_enter Tryz.func37, Tryz.ntmps37
    go_wp2
    all_goals go_ret
    all_goals exact ⟨rfl, rfl⟩
  · by_cases h2 : 1000000000 < n
    · have hw : rngB n = false := by simp [rngB]; omega
      rw [hw]; clear hw
      go_enter Tryz.func37, Tryz.ntmps37
      go_wp2
      all_goals go_ret
      all_goals exact ⟨rfl, rfl⟩
    · have hw : rngB n = true := by simp [rngB]; omega
      rw [hw]; clear hw
      go_enter Tryz.func37, Tryz.ntmps37
      go_wp2
      all_goals go_ret
      all_goals exact ⟨rfl, rfl⟩
/-- The document's fits. -/
theorem nFit (n : Int) (w : World) : Calls Tryz.prog 49 #[.int .i64 n] w fun e w' => e = .returned (.bool (rngB n)) ∧ w = w' := by
  by_cases h1 : -1000000000 ≤ n
  · have hw : rngB n = decide (n ≤ 1000000000) := by simp [rngB, h1]
    rw [hw]; clear hw
    go_enter Tryz.func49, Tryz.ntmps49
    go_wp2
    all_goals go_ret
    all_goals exact ⟨rfl, rfl⟩
  · have hw : rngB n = false := by simp [rngB, h1]
    rw [hw]; clear hw
    go_enter Tryz.func49, Tryz.ntmps49
    go_wp2
    all_goals go_ret
    all_goals exact ⟨rfl, rfl⟩
end Go.Proofs.YtaamjccffkdlhaaGreatDoor
