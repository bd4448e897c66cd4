/- Walk: the document's IsText. -/
import Derived.Test.YtbedddgfijpbcaaGreatQk
namespace Go.Proofs.YtbedddgfijpbcaaGreat
open Go.RowKit Go.Maps Go.WideMaps

theorem ib_any : ∀ l : List UInt8, decide (0 ≤ Lib.indexByte l 10) = l.any (· == 10)
  | [] => rfl
  | b :: l => by
    have ih := ib_any l
    have hg := Lib.indexByte_ge l 10
    have e : Lib.indexByte (b :: l) 10 = if b == 10 then 0 else if Lib.indexByte l 10 == -1 then -1 else Lib.indexByte l 10 + 1 := rfl
    rw [List.any_cons, ← ih, e]
    clear e ih
    split
    · rename_i h
      rw [h]; rfl
    · rename_i h
      rw [show (b == 10) = false by simpa using h, Bool.false_or]
      split
      · rename_i h2
        have h2 : Lib.indexByte l 10 = -1 := by simpa using h2
        rw [h2]
      · rename_i h2
        have h2 : Lib.indexByte l 10 ≠ -1 := by simpa using h2
        exact decide_eq_decide.2 (by omega)
theorem noLf_all (s : ByteArray) : noLf s = allB (fun c => decide (c ≠ 10)) s := by
  unfold noLf allB
  rw [ib_any]
  induction s.data.toList with
  | nil => rfl
  | cons b l ih =>
    rw [List.any_cons, List.all_cons, ← ih, Bool.not_or]
    congr 1
    rw [Bool.eq_iff_iff]
    simp only [Bool.not_eq_true', beq_eq_false_iff_ne, ne_eq, decide_eq_true_eq]
    constructor
    · intro h e
      exact h (UInt8.toNat_inj.1 e)
    · intro h e
      exact h (by rw [e]; rfl)
/-- The document's IsText. -/
theorem nText (s : ByteArray) (hs : s.size ≤ maxLen) (w : World) :
    Calls Tryz.prog 50 #[.string s] w fun e w' => e = .returned (.bool (textB s)) ∧ w = w' := by
  unfold maxLen at hs
  go_enter Tryz.func50, Tryz.ntmps50
  go_wp2
  go_loop [3] (fun v3 => ∃ k : Nat, k ≤ s.size ∧ v3 = .int .i64 k ∧ ∀ (j : Nat) (hj : j < s.size), j < k → decide (s[j].toNat ≠ 10) = true) (fun v3 => s.size - (intOf v3).toNat)
  case atStart => exact ⟨0, Nat.zero_le _, rfl, fun j hj h => by omega⟩
  case round =>
    obtain ⟨k, hk, rfl, hb⟩ := hrel
    have HB := Lib.hid hb
    clear hb
    by_cases hlt : k < s.size
    · by_cases h3 : (s[k].toNat : Int) = 10
      · have hf : textB s = false := by
          unfold textB
          rw [noLf_all, allB_no k hlt (by
            have : s[k].toNat = 10 := by omega
            rw [this]; rfl)]; simp
        have hB : ((s[k].toNat : Int) == 10) = true := by simp [h3]
        clear h3
        go_wp2
        go_ret
        exact ⟨rfl, rfl⟩
      · have hf : decide (s[k].toNat ≠ 10) = true := by
          rw [decide_eq_true_eq]; omega
        have HF := Lib.hid hf
        have hB : ((s[k].toNat : Int) == 10) = false := by simp [h3]
        clear h3 hf
        go_wp2
        go_round
        case rel => exact ⟨k + 1, by omega, by go_num, fun j hj h => by
          by_cases e : j = k
          · subst e; exact HF.out
          · exact HB.out j hj (by omega)⟩
        case measure => simp [intOf]; omega
    · have hall : noLf s = true := by
        rw [noLf_all]
        exact allB_yes fun j hj => HB.out j hj (by omega)
      have hn : textB s = decide ((s.size : Int) ≤ 2000) := by
        unfold textB
        rw [hall, Bool.and_true]
        exact decide_eq_decide.2 (by omega)
      clear hall HB
      go_wp2
      go_ret
      exact ⟨rfl, rfl⟩
theorem ext_data (s : ByteArray) (a b : Nat) : (s.extract a b).data.toList = (s.data.toList.take b).drop a := by
  rw [ByteArray.data_extract, Array.toList_extract]
  simp [List.drop_take]
end Go.Proofs.YtbedddgfijpbcaaGreat
