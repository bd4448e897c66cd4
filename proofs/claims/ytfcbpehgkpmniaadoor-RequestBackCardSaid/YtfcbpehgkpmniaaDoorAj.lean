/- Walk of the document's quotes; of the statements' list. -/
import Derived.Test.YtfcbpehgkpmniaaDoorAc
namespace Go.Proofs.YtfcbpehgkpmniaaDoor
open Go.RowKit

/-- The bytes that may not stand around, but letters and the like. -/
def oth : List Nat := [40, 43, 45, 46, 124, 33]
theorem qu_eq (c : UInt8) : quB c = (!ltB c && !dgB c && !blB c && !((c.toNat : Int) == 92) && oth.all (fun n => !((n : Int) == (c.toNat : Int)))) := by
  unfold quB
  have h (n : Nat) : decide (c.toNat = n) = ((n : Int) == (c.toNat : Int)) := by
    rw [Bool.eq_iff_iff, decide_eq_true_eq, beq_iff_eq]
    omega
  have h9 : decide (c.toNat = 92) = ((c.toNat : Int) == 92) := by
    rw [Bool.eq_iff_iff, decide_eq_true_eq, beq_iff_eq]
    omega
  rw [h9, h 40, h 43, h 45, h 46, h 124, h 33]
  simp only [oth, List.all_cons, List.all_nil, Bool.and_true, Bool.and_assoc]
/-- The document's quotes. -/
theorem nQuotes (c : UInt8) (w : World) :
    Calls Tryd.prog 53 #[.int .u8 (c.toNat : Int)] w fun e w' => e = .returned (.bool (quB c)) ∧ w = w' := by
  have HL := Lib.hid (fun w => nLetter c w)
  have HD := Lib.hid (fun w => nDigit c w)
  have HB := Lib.hid (fun w => nBlank c w)
  rw [qu_eq]
  generalize ltB c = b1 at *
  generalize dgB c = b2 at *
  generalize blB c = b3 at *
  generalize (c.toNat : Int) = n at *
  cases b1
  · cases b2
    · cases b3
      · cases h4 : (n == 92)
        · simp only [Bool.not_false, Bool.true_and, Bool.and_true]
          go_enter Tryd.func53, Tryd.ntmps53
          go_wp2_with (first
            | (go_at_call 65; refine (HL.out _).mono ?_; rintro e w1 ⟨rfl, rfl⟩)
            | (go_at_call 66; refine (HD.out _).mono ?_; rintro e w1 ⟨rfl, rfl⟩)
            | (go_at_call 52; refine (HB.out _).mono ?_; rintro e w1 ⟨rfl, rfl⟩))
          go_loop [4] (fun v4 => ∃ k : Nat, k ≤ 6 ∧ v4 = .int .i64 k ∧ ∀ j x, j < k → oth[j]? = some x → ((x : Int) == n) = false) (fun v4 => 6 - (intOf v4).toNat)
          case atStart => exact ⟨0, Nat.zero_le _, rfl, fun j x h => by omega⟩
          case round =>
            obtain ⟨k, hk, rfl, hb⟩ := hrel
            have HN := Lib.hid hb
            clear hb
            rcases (show k = 0 ∨ k = 1 ∨ k = 2 ∨ k = 3 ∨ k = 4 ∨ k = 5 ∨ k = 6 by omega) with rfl | rfl | rfl | rfl | rfl | rfl | rfl
            · cases hx : (((40 : Nat) : Int) == n)
              · have HX := Lib.hid hx
                have hx2 : ((((⟨#[40, 43, 45, 46, 124, 33]⟩ : ByteArray)[0]'(by decide)).toNat : Int) == n) = false := hx
                clear hx
                go_wp2
                go_round
                case rel => exact ⟨1, by omega, by go_num, fun j x hj hjx => by
                  by_cases e : j = 0
                  · subst e
                    injection hjx with hjx
                    subst hjx
                    exact HX.out
                  · exact HN.out j x (by omega) hjx⟩
                case measure => simp [intOf]
              · have hx2 : ((((⟨#[40, 43, 45, 46, 124, 33]⟩ : ByteArray)[0]'(by decide)).toNat : Int) == n) = true := hx
                have HQ : Hid (oth.all (fun m => !((m : Int) == n)) = false) := Lib.hid (by
                  rw [List.all_eq_false]
                  exact ⟨40, by simp [oth], by rw [hx]; simp⟩)
                clear hx
                go_wp2
                go_ret
                exact ⟨ret_b HQ.out.symm, rfl⟩
            · cases hx : (((43 : Nat) : Int) == n)
              · have HX := Lib.hid hx
                have hx2 : ((((⟨#[40, 43, 45, 46, 124, 33]⟩ : ByteArray)[1]'(by decide)).toNat : Int) == n) = false := hx
                clear hx
                go_wp2
                go_round
                case rel => exact ⟨2, by omega, by go_num, fun j x hj hjx => by
                  by_cases e : j = 1
                  · subst e
                    injection hjx with hjx
                    subst hjx
                    exact HX.out
                  · exact HN.out j x (by omega) hjx⟩
                case measure => simp [intOf]
              · have hx2 : ((((⟨#[40, 43, 45, 46, 124, 33]⟩ : ByteArray)[1]'(by decide)).toNat : Int) == n) = true := hx
                have HQ : Hid (oth.all (fun m => !((m : Int) == n)) = false) := Lib.hid (by
                  rw [List.all_eq_false]
                  exact ⟨43, by simp [oth], by rw [hx]; simp⟩)
                clear hx
                go_wp2
                go_ret
                exact ⟨ret_b HQ.out.symm, rfl⟩
            · cases hx : (((45 : Nat) : Int) == n)
              · have HX := Lib.hid hx
                have hx2 : ((((⟨#[40, 43, 45, 46, 124, 33]⟩ : ByteArray)[2]'(by decide)).toNat : Int) == n) = false := hx
                clear hx
                go_wp2
                go_round
                case rel => exact ⟨3, by omega, by go_num, fun j x hj hjx => by
                  by_cases e : j = 2
                  · subst e
                    injection hjx with hjx
                    subst hjx
                    exact HX.out
                  · exact HN.out j x (by omega) hjx⟩
                case measure => simp [intOf]
              · have hx2 : ((((⟨#[40, 43, 45, 46, 124, 33]⟩ : ByteArray)[2]'(by decide)).toNat : Int) == n) = true := hx
                have HQ : Hid (oth.all (fun m => !((m : Int) == n)) = false) := Lib.hid (by
                  rw [List.all_eq_false]
                  exact ⟨45, by simp [oth], by rw [hx]; simp⟩)
                clear hx
                go_wp2
                go_ret
                exact ⟨ret_b HQ.out.symm, rfl⟩
            · cases hx : (((46 : Nat) : Int) == n)
              · have HX := Lib.hid hx
                have hx2 : ((((⟨#[40, 43, 45, 46, 124, 33]⟩ : ByteArray)[3]'(by decide)).toNat : Int) == n) = false := hx
                clear hx
                go_wp2
                go_round
                case rel => exact ⟨4, by omega, by go_num, fun j x hj hjx => by
                  by_cases e : j = 3
                  · subst e
                    injection hjx with hjx
                    subst hjx
                    exact HX.out
                  · exact HN.out j x (by omega) hjx⟩
                case measure => simp [intOf]
              · have hx2 : ((((⟨#[40, 43, 45, 46, 124, 33]⟩ : ByteArray)[3]'(by decide)).toNat : Int) == n) = true := hx
                have HQ : Hid (oth.all (fun m => !((m : Int) == n)) = false) := Lib.hid (by
                  rw [List.all_eq_false]
                  exact ⟨46, by simp [oth], by rw [hx]; simp⟩)
                clear hx
                go_wp2
                go_ret
                exact ⟨ret_b HQ.out.symm, rfl⟩
            · cases hx : (((124 : Nat) : Int) == n)
              · have HX := Lib.hid hx
                have hx2 : ((((⟨#[40, 43, 45, 46, 124, 33]⟩ : ByteArray)[4]'(by decide)).toNat : Int) == n) = false := hx
                clear hx
                go_wp2
                go_round
                case rel => exact ⟨5, by omega, by go_num, fun j x hj hjx => by
                  by_cases e : j = 4
                  · subst e
                    injection hjx with hjx
                    subst hjx
                    exact HX.out
                  · exact HN.out j x (by omega) hjx⟩
                case measure => simp [intOf]
              · have hx2 : ((((⟨#[40, 43, 45, 46, 124, 33]⟩ : ByteArray)[4]'(by decide)).toNat : Int) == n) = true := hx
                have HQ : Hid (oth.all (fun m => !((m : Int) == n)) = false) := Lib.hid (by
                  rw [List.all_eq_false]
                  exact ⟨124, by simp [oth], by rw [hx]; simp⟩)
                clear hx
                go_wp2
                go_ret
                exact ⟨ret_b HQ.out.symm, rfl⟩
            · cases hx : (((33 : Nat) : Int) == n)
              · have HX := Lib.hid hx
                have hx2 : ((((⟨#[40, 43, 45, 46, 124, 33]⟩ : ByteArray)[5]'(by decide)).toNat : Int) == n) = false := hx
                clear hx
                go_wp2
                go_round
                case rel => exact ⟨6, by omega, by go_num, fun j x hj hjx => by
                  by_cases e : j = 5
                  · subst e
                    injection hjx with hjx
                    subst hjx
                    exact HX.out
                  · exact HN.out j x (by omega) hjx⟩
                case measure => simp [intOf]
              · have hx2 : ((((⟨#[40, 43, 45, 46, 124, 33]⟩ : ByteArray)[5]'(by decide)).toNat : Int) == n) = true := hx
                have HQ : Hid (oth.all (fun m => !((m : Int) == n)) = false) := Lib.hid (by
                  rw [List.all_eq_false]
                  exact ⟨33, by simp [oth], by rw [hx]; simp⟩)
                clear hx
                go_wp2
                go_ret
                exact ⟨ret_b HQ.out.symm, rfl⟩
            · have HQ : Hid (oth.all (fun m => !((m : Int) == n)) = true) := Lib.hid (by
                rw [List.all_eq_true]
                intro x hx
                obtain ⟨j, hj, rfl⟩ := List.getElem_of_mem hx
                rw [HN.out j _ hj (List.getElem?_eq_getElem hj)]
                rfl)
              go_wp2
              go_ret
              exact ⟨ret_b HQ.out.symm, rfl⟩
        · go_enter Tryd.func53, Tryd.ntmps53
          go_wp2_with (first
            | (go_at_call 65; refine (HL.out _).mono ?_; rintro e w1 ⟨rfl, rfl⟩)
            | (go_at_call 66; refine (HD.out _).mono ?_; rintro e w1 ⟨rfl, rfl⟩)
            | (go_at_call 52; refine (HB.out _).mono ?_; rintro e w1 ⟨rfl, rfl⟩))
          go_ret
          exact ⟨rfl, rfl⟩
      · go_enter Tryd.func53, Tryd.ntmps53
        go_wp2_with (first
          | (go_at_call 65; refine (HL.out _).mono ?_; rintro e w1 ⟨rfl, rfl⟩)
          | (go_at_call 66; refine (HD.out _).mono ?_; rintro e w1 ⟨rfl, rfl⟩)
          | (go_at_call 52; refine (HB.out _).mono ?_; rintro e w1 ⟨rfl, rfl⟩))
        go_ret
        exact ⟨rfl, rfl⟩
    · go_enter Tryd.func53, Tryd.ntmps53
      go_wp2_with (first
        | (go_at_call 65; refine (HL.out _).mono ?_; rintro e w1 ⟨rfl, rfl⟩)
        | (go_at_call 66; refine (HD.out _).mono ?_; rintro e w1 ⟨rfl, rfl⟩))
      go_ret
      exact ⟨rfl, rfl⟩
  · go_enter Tryd.func53, Tryd.ntmps53
    go_wp2_with (go_at_call 65; refine (HL.out _).mono ?_; rintro e w1 ⟨rfl, rfl⟩)
    go_ret
    exact ⟨rfl, rfl⟩
end Go.Proofs.YtfcbpehgkpmniaaDoor
