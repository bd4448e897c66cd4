/- Walks: names and texts. -/
import Derived.Test.YtbedddgfijpbcaaGreatQb
namespace Go.Proofs.YtbedddgfijpbcaaGreat
open Go.RowKit

/-- validName. -/
theorem cName (s : ByteArray) (hs : s.size ≤ maxLen) (w : World) :
    Calls Tryz.prog 47 #[.string s] w fun e w' => e = .returned (.bool (nameB s)) ∧ w = w' := by
  unfold maxLen at hs
  go_enter Tryz.func47, Tryz.ntmps47
  go_wp2
  go_loop [7] (fun v7 => ∃ k : Nat, k ≤ s.size ∧ v7 = .int .i64 k ∧ ∀ (j : Nat) (hj : j < s.size), j < k → nmB s[j].toNat = true) (fun v7 => s.size - (intOf v7).toNat)
  case atStart => exact ⟨0, Nat.zero_le _, rfl, fun j hj h => by omega⟩
  case round =>
    obtain ⟨k, hk, rfl, hb⟩ := hrel
    have HB := Lib.hid hb
    clear hb
    by_cases hlt : k < s.size
    · have hno : nmB s[k].toNat = false → nameB s = false := fun h => by
        unfold nameB
        rw [allB_no k hlt h]; simp
      by_cases h1 : (s[k].toNat : Int) < 33
      · have hf := hno (by
          have : ¬ 33 ≤ s[k].toNat := by omega
          simp [nmB, this])
        clear hno
        go_wp2
        go_ret
        exact ⟨rfl, rfl⟩
      · by_cases h2 : 126 < (s[k].toNat : Int)
        · have hf := hno (by
            have : ¬ s[k].toNat ≤ 126 := by omega
            simp [nmB, this])
          clear hno
          go_wp2
          go_ret
          exact ⟨rfl, rfl⟩
        · by_cases h3 : (s[k].toNat : Int) = 93
          · have hf := hno (by
              have : s[k].toNat = 93 := by omega
              simp [nmB, this])
            have hB : ((s[k].toNat : Int) == 93) = true := by simp [h3]
            clear h3 hno
            go_wp2
            go_ret
            exact ⟨rfl, rfl⟩
          · have hf : nmB s[k].toNat = true := by
              have e1 : s[k].toNat ≠ 93 := by omega
              have e2 : 33 ≤ s[k].toNat := by omega
              have e3 : s[k].toNat ≤ 126 := by omega
              simp [nmB, e1, e2, e3]
            have hB : ((s[k].toNat : Int) == 93) = false := by simp [h3]
            clear h3 hno
            go_wp2
            go_round
            case rel => exact ⟨k + 1, by omega, by go_num, fun j hj h => by
              by_cases e : j = k
              · subst e; exact hf
              · exact HB.out j hj (by omega)⟩
            case measure => simp [intOf]; omega
    · have hall : allB nmB s = true := allB_yes fun j hj => HB.out j hj (by omega)
      by_cases h0 : s.size = 0
      · have hn : nameB s = false := by unfold nameB; rw [h0]; rfl
        have e : s = ⟨#[]⟩ := by
          obtain ⟨⟨l⟩⟩ := s
          have : l = [] := List.length_eq_zero_iff.1 h0
          subst this; rfl
        have hB : (s != ⟨#[]⟩) = false := by subst e; rfl
        subst e
        clear hall HB
        go_wp2
        go_ret
        exact ⟨rfl, rfl⟩
      · obtain ⟨he1, he2⟩ := toList_ne h0
        have hn : nameB s = decide (s.size ≤ 20) := by
          unfold nameB
          rw [hall, show decide (1 ≤ s.size) = true from decide_eq_true (by omega)]; simp
        by_cases h9 : (s.size : Int) ≤ 20
        · rw [decide_eq_true (by omega : s.size ≤ 20)] at hn
          go_wp2
          go_ret
          exact ⟨rfl, rfl⟩
        · rw [decide_eq_false (by omega : ¬ s.size ≤ 20)] at hn
          go_wp2
          go_ret
          exact ⟨rfl, rfl⟩
end Go.Proofs.YtbedddgfijpbcaaGreat
