/- Walk: the document's IsName. -/
import Derived.Test.YtaamjccffkdlhaaGreatDoorKa
namespace Go.Proofs.YtaamjccffkdlhaaGreatDoor
open Go.RowKit

/-- The document's IsName. -/
theorem nName (s : ByteArray) (hs : s.size ≤ maxLen) (w : World) :
    Calls Tryz.prog 48 #[.string s] w fun e w' => e = .returned (.bool (nameB s)) ∧ w = w' := by
  unfold maxLen at hs
  by_cases h0 : s.size < 1
  · have hn : nameB s = false := by unfold nameB; rw [decide_eq_false (by omega : ¬ 1 ≤ s.size)]; rfl
    rw [hn]; clear hn
    go_enter Tryz.func48, Tryz.ntmps48
    go_wp2_with fail
    go_ret
    exact ⟨rfl, rfl⟩
  · by_cases h9 : 20 < s.size
    · have hn : nameB s = false := by unfold nameB; rw [decide_eq_false (by omega : ¬ s.size ≤ 20)]; simp
      rw [hn]; clear hn
      go_enter Tryz.func48, Tryz.ntmps48
      go_wp2_with fail
      go_ret
      exact ⟨rfl, rfl⟩
    · have hn : nameB s = allB nmB s := by
        unfold nameB
        rw [show decide (1 ≤ s.size) = true from decide_eq_true (by omega), show decide (s.size ≤ 20) = true from decide_eq_true (by omega)]; rfl
      rw [hn]; clear hn
      go_enter Tryz.func48, Tryz.ntmps48
      go_wp2
      go_loop [3] (fun v3 => ∃ k : Nat, k ≤ s.size ∧ v3 = .int .i64 k ∧ ∀ (j : Nat) (hj : j < s.size), j < k → nmB s[j].toNat = true) (fun v3 => s.size - (intOf v3).toNat)
      case atStart => exact ⟨0, Nat.zero_le _, rfl, fun j hj h => by omega⟩
      case round =>
        obtain ⟨k, hk, rfl, hb⟩ := hrel
        have HB := Lib.hid hb
        clear hb
        by_cases hlt : k < s.size
        · by_cases h1 : (s[k].toNat : Int) < 33
          · have hf : nmB s[k].toNat = false := by
              have : ¬ 33 ≤ s[k].toNat := by omega
              simp [nmB, this]
            go_wp2
            go_ret
            exact ⟨ret_b (allB_no k hlt hf).symm, rfl⟩
          · by_cases h2 : 126 < (s[k].toNat : Int)
            · have hf : nmB s[k].toNat = false := by
                have : ¬ s[k].toNat ≤ 126 := by omega
                simp [nmB, this]
              go_wp2
              go_ret
              exact ⟨ret_b (allB_no k hlt hf).symm, rfl⟩
            · by_cases h3 : (s[k].toNat : Int) = 93
              · have hf : nmB s[k].toNat = false := by
                  have : s[k].toNat = 93 := by omega
                  simp [nmB, this]
                have hB : ((s[k].toNat : Int) == 93) = true := by simp [h3]
                clear h3
                go_wp2
                go_ret
                exact ⟨ret_b (allB_no k hlt hf).symm, rfl⟩
              · have hf : nmB s[k].toNat = true := by
                  have e1 : s[k].toNat ≠ 93 := by omega
                  have e2 : 33 ≤ s[k].toNat := by omega
                  have e3 : s[k].toNat ≤ 126 := by omega
                  simp [nmB, e1, e2, e3]
                have hB : ((s[k].toNat : Int) == 93) = false := by simp [h3]
                clear h3
                go_wp2
                go_round
                case rel => exact ⟨k + 1, by omega, by go_num, fun j hj h => by
                  by_cases e : j = k
                  · subst e; exact hf
                  · exact HB.out j hj (by omega)⟩
                case measure => simp [intOf]; omega
        · go_wp2
          go_ret
          exact ⟨ret_b (allB_yes fun j hj => HB.out j hj (by omega)).symm, rfl⟩
end Go.Proofs.YtaamjccffkdlhaaGreatDoor
