/- Walk: what a format is, in the document's words. -/
import Derived.Test.YtaamjccffkdlhaaGreatDoorRb
namespace Go.Proofs.YtaamjccffkdlhaaGreatDoor
open Go.RowKit

theorem lit_of {l : List UInt8} {s : ByteArray} (h : isB l s = true) : s = ⟨l.toArray⟩ := by
  unfold isB at h
  have := beq_iff_eq.1 h
  exact ByteArray.ext (Array.ext' (by simpa using this))
/-- The document's IsForm. -/
theorem nForm (s : ByteArray) (hs : s.size ≤ maxLen) (w : World) :
    Calls Tryz.prog 52 #[.string s] w fun e w' => e = .returned (.bool (fmtB s)) ∧ w = w' := by
  by_cases hl : (isB [105] s || isB [73] s || isB [97] s || isB [65] s) = true
  · have hf : fmtB s = true := by unfold fmtB; rw [hl]; rfl
    rw [hf]; clear hf
    have : isB [105] s = true ∨ isB [73] s = true ∨ isB [97] s = true ∨ isB [65] s = true := by simpa [or_assoc] using hl
    clear hl
    rcases this with h | h | h | h
    all_goals
      obtain rfl := lit_of h
      go_enter Tryz.func52, Tryz.ntmps52
      go_wp2_with fail
      go_ret
      exact ⟨rfl, rfl⟩
  · have hf : fmtB s = (decide (1 ≤ s.size) && decide (s.size ≤ 9) && allB digB s) := by
      unfold fmtB; rw [Bool.not_eq_true] at hl; rw [hl]; simp
    rw [Bool.not_eq_true] at hl
    simp only [Bool.or_eq_false_iff] at hl
    obtain ⟨⟨⟨h1, h2⟩, h3⟩, h4⟩ := hl
    simp only [isB, ← ByteArray.toList_eq] at h1 h2 h3 h4
    have HF := Lib.hid hf
    clear hf
    unfold maxLen at hs
    go_enter Tryz.func52, Tryz.ntmps52
    go_wp2_with fail
    go_loop [3] (fun v3 => ∃ k : Nat, k ≤ s.size ∧ v3 = .int .i64 k ∧ ∀ (j : Nat) (hj : j < s.size), j < k → digB s[j].toNat = true) (fun v3 => s.size - (intOf v3).toNat)
    case atStart => exact ⟨0, Nat.zero_le _, rfl, fun j hj h => by omega⟩
    case round =>
      obtain ⟨k, hk, rfl, hb⟩ := hrel
      have HB := Lib.hid hb
      clear hb
      by_cases hlt : k < s.size
      · by_cases c1 : (s[k].toNat : Int) < 48
        · have hd : digB s[k].toNat = false := by simp [digB]; omega
          have hall := allB_no (p := digB) k hlt hd
          have HA := Lib.hid hall
          clear hd hall
          go_wp2_with fail
          go_ret
          rw [HF.out, HA.out]
          exact ⟨by simp, rfl⟩
        · by_cases c2 : (57 : Int) < (s[k].toNat : Int)
          · have hd : digB s[k].toNat = false := by simp [digB]; omega
            have hall := allB_no (p := digB) k hlt hd
            have HA := Lib.hid hall
            clear hd hall
            go_wp2_with fail
            go_ret
            rw [HF.out, HA.out]
            exact ⟨by simp, rfl⟩
          · have hd : digB s[k].toNat = true := by simp [digB]; omega
            have HD := Lib.hid hd
            clear hd
            go_wp2_with fail
            go_round
            case rel => exact ⟨k + 1, by omega, by go_num, fun j hj h => by
              by_cases e : j = k
              · subst e; exact HD.out
              · exact HB.out j hj (by omega)⟩
            case measure => simp [intOf]; omega
      · have hall := allB_yes (p := digB) fun j hj => HB.out j hj (by omega)
        have HA := Lib.hid hall
        clear hall
        by_cases z1 : 1 ≤ s.size
        · by_cases z2 : s.size ≤ 9
          all_goals
            go_wp2_with fail
            go_ret
            rw [HF.out, HA.out]
            exact ⟨by simp [z1, z2]; omega, rfl⟩
        · go_wp2_with fail
          go_ret
          rw [HF.out]
          exact ⟨by simp [z1], rfl⟩
end Go.Proofs.YtaamjccffkdlhaaGreatDoor
