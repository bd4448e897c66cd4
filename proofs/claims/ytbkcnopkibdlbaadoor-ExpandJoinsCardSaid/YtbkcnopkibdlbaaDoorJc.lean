/- Walks: whether a line goes on, the code's way and the document's. -/
import Derived.Test.YtbkcnopkibdlbaaDoorJb
import Derived.Test.YtbkcnopkibdlbaaDoorShelf
namespace Go.Proofs.YtbkcnopkibdlbaaDoor
open Go.RowKit

/-- goesOn. -/
theorem cGoes (s : ByteArray) (hs : s.size ≤ 100000) (w : World) :
    Calls Tryd.prog 14 #[.string s] w fun e w' => e = .returned (.bool (oddB s)) ∧ w = w' := by
  have ht := tr_trim s.data.toList
  have hT := fun w => Tryd.strings_TrimRight_one s 92 (by decide) w (by omega)
  obtain ⟨T, hTe⟩ : ∃ T : ByteArray, T = ⟨(Lib.trimRightB s.data.toList 92).toArray⟩ := ⟨_, rfl⟩
  rw [← hTe] at hT
  have hTz : T.size + tr s.data.toList = s.size := by
    rw [hTe, size_len s, ← ht]; rfl
  have HT := Lib.hid hT
  unfold oddB
  clear hT ht hTe
  generalize tr s.data.toList = n at *
  have h1 : (s.size : Int) - (T.size : Int) = (n : Nat) := by omega
  have h2 : ((n : Nat) : Int).tmod 2 = ((n % 2 : Nat) : Int) := rfl
  go_enter Tryd.func14, Tryd.ntmps14
  go_wp2_with (go_at_call 24; refine (HT.out _).mono ?_; rintro e w1 ⟨rfl, rfl⟩)
  go_ret
  refine ⟨ret_b ?_, rfl⟩
  rw [Bool.eq_iff_iff, beq_iff_eq, decide_eq_true_eq]
  omega
/-- odd. -/
theorem nOdd (s : ByteArray) (hs : s.size ≤ 100000) (w : World) :
    Calls Tryd.prog 18 #[.string s] w fun e w' => e = .returned (.bool (oddB s)) ∧ w = w' := by
  go_enter Tryd.func18, Tryd.ntmps18
  go_wp2
  go_loop [3] (fun v3 => ∃ n : Nat, n ≤ s.size ∧ v3 = .int .i64 n ∧ ∀ (j : Nat) (hj : j < s.size), s.size - 1 - j < s.size → j < n → (s[s.size - 1 - j]'(by omega)).toNat = 92) (fun v3 => s.size - (intOf v3).toNat)
  case atStart => exact ⟨0, Nat.zero_le _, rfl, fun j hj _ h => by omega⟩
  case round =>
    obtain ⟨n, hn, rfl, hb⟩ := hrel
    have HB := Lib.hid hb
    clear hb
    by_cases hlt : n < s.size
    · have hi : s.size - 1 - n < s.size := by omega
      have e1 : (s.size : Int) - 1 - (n : Int) = ((s.size - 1 - n : Nat) : Int) := by omega
      by_cases h1 : ((s[s.size - 1 - n]'hi).toNat : Int) = 92
      · have hB : (((s[s.size - 1 - n]'hi).toNat : Int) == 92) = true := by rw [beq_iff_eq]; omega
        have HC := Lib.hid h1
        clear h1
        go_wp2
        go_round
        case rel => exact ⟨n + 1, by omega, by go_num, fun j hj hj2 h => by
          by_cases e : j = n
          · subst e
            have := HC.out
            omega
          · exact HB.out j hj hj2 (by omega)⟩
        case measure => simp [intOf]; omega
      · have hB : (((s[s.size - 1 - n]'hi).toNat : Int) == 92) = false := by rw [beq_eq_false_iff_ne]; omega
        have ht : tr s.data.toList = n := tr_eq hn HB.out (fun _ e => h1 (by omega))
        have HT := Lib.hid (show oddB s = decide (n % 2 = 1) by unfold oddB; rw [ht])
        clear h1 ht
        go_wp2
        go_ret
        refine ⟨ret_b ?_, rfl⟩
        rw [HT.out, Bool.eq_iff_iff, beq_iff_eq, decide_eq_true_eq]
        omega
    · have ht : tr s.data.toList = n := tr_eq hn HB.out (fun h => absurd h hlt)
      have HT := Lib.hid (show oddB s = decide (n % 2 = 1) by unfold oddB; rw [ht])
      clear ht
      go_wp2
      go_ret
      refine ⟨ret_b ?_, rfl⟩
      rw [HT.out, Bool.eq_iff_iff, beq_iff_eq, decide_eq_true_eq]
      omega
end Go.Proofs.YtbkcnopkibdlbaaDoor
