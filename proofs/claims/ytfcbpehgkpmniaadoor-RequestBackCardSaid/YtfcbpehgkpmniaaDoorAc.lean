/- Walks of the document's places: lines, the byte that is looked for, bytes around the texts of a condition. -/
import Derived.Test.YtfcbpehgkpmniaaDoorAb
namespace Go.Proofs.YtfcbpehgkpmniaaDoor
open Go.RowKit

theorem len_le {s : ByteArray} : decide (s.data.toList.length ≤ 2000) = decide ((s.size : Int) ≤ 2000) := by
  have : s.data.toList.length = s.size := rfl
  exact decide_eq_decide.2 (by omega)
theorem all_dr {p : UInt8 → Bool} {s : ByteArray} (h : ∀ (j : Nat) (hj : j < s.size), p s[j] = true) : s.data.toList.all p = true := by
  rw [List.all_eq_true]
  intro c hc
  obtain ⟨j, hj, rfl⟩ := List.getElem_of_mem hc
  exact h j hj
theorem any_dr {p : UInt8 → Bool} {s : ByteArray} (j : Nat) (hj : j < s.size) (h : p s[j] = false) : s.data.toList.all p = false := by
  rw [List.all_eq_false]
  exact ⟨s[j], List.getElem_mem (l := s.data.toList) hj, by simp [h]⟩
/-- The document's IsLine. -/
theorem nIsLine (s : ByteArray) (hs : s.size ≤ maxLen) (w : World) :
    Calls Tryd.prog 43 #[.string s] w fun e w' => e = .returned (.bool (lineB s.data.toList)) ∧ w = w' := by
  unfold maxLen at hs
  go_enter Tryd.func43, Tryd.ntmps43
  go_wp2
  go_loop [3] (fun v3 => ∃ k : Nat, k ≤ s.size ∧ v3 = .int .i64 k ∧ ∀ (j : Nat) (hj : j < s.size), j < k → (!decide (s[j].toNat = 10)) = true) (fun v3 => s.size - (intOf v3).toNat)
  case atStart => exact ⟨0, Nat.zero_le _, rfl, fun j hj h => by omega⟩
  case round =>
    obtain ⟨k, hk, rfl, hb⟩ := hrel
    have HB := Lib.hid hb
    clear hb
    by_cases hlt : k < s.size
    · by_cases h3 : (s[k].toNat : Int) = 10
      · have hf : lineB s.data.toList = false := by
          unfold lineB
          rw [any_dr k hlt (by
            have : s[k].toNat = 10 := by omega
            rw [this]; rfl)]; rfl
        have hB : ((s[k].toNat : Int) == 10) = true := by simp [h3]
        clear h3
        go_wp2
        go_ret
        exact ⟨rfl, rfl⟩
      · have hf : (!decide (s[k].toNat = 10)) = true := by
          rw [Bool.not_eq_true', decide_eq_false_iff_not]; omega
        have HF := Lib.hid hf
        have hB : ((s[k].toNat : Int) == 10) = false := by simp [h3]
        clear h3 hf
        go_wp2
        go_round
        case rel => exact ⟨k + 1, by omega, by go_num, fun j hj h => by
          by_cases e : j = k
          · subst e; exact HF.out
          · exact HB.out j hj (by omega)⟩
        case measure => simp [intOf]; omega
    · have hall := all_dr (s := s) (p := fun c => !decide (c.toNat = 10)) (fun j hj => HB.out j hj (by omega))
      have hn : lineB s.data.toList = decide ((s.size : Int) ≤ 2000) := by
        unfold lineB
        rw [hall, Bool.true_and, len_le]
      clear hall HB
      go_wp2
      go_ret
      exact ⟨rfl, rfl⟩
theorem upTo_cons (k c : UInt8) (t : List UInt8) : upTo k (c :: t) = if c = k then some ([], t) else match upTo k t with
    | none => none
    | some (a, r) => some (c :: a, r) := rfl
theorem u8_ne {a b : UInt8} (h : a ≠ b) : (a.toNat : Int) ≠ (b.toNat : Int) := fun e => h (UInt8.toNat_inj.1 (by omega))
/-- The document's to. -/
theorem nTo (s : ByteArray) (hs : s.size ≤ maxLen) (i : Nat) (hi : i ≤ s.size) (c : UInt8) (w : World) :
    Calls Tryd.prog 54 #[.string s, .int .i64 i, .int .u8 (c.toNat : Int)] w fun e w' => ((e = .returned (.int .i64 (-1)) ∧ upTo c (dr s i) = none) ∨ ∃ k : Nat, e = .returned (.int .i64 k) ∧ i ≤ k ∧ k < s.size ∧ upTo c (dr s i) = some ((s.extract i k).data.toList, dr s (k + 1))) ∧ w = w' := by
  unfold maxLen at hs
  go_enter Tryd.func54, Tryd.ntmps54
  go_wp2
  go_loop [1] (fun v1 => ∃ k : Nat, i ≤ k ∧ k ≤ s.size ∧ v1 = .int .i64 k ∧ upTo c (dr s i) = (upTo c (dr s k)).map (fun p => ((s.extract i k).data.toList ++ p.1, p.2))) (fun v1 => s.size - (intOf v1).toNat)
  case atStart => exact ⟨i, Nat.le_refl _, hi, rfl, by rw [ext_none]; simp⟩
  case round =>
    obtain ⟨k, hik, hk, rfl, hb⟩ := hrel
    have HE := Lib.hid hb
    clear hb
    by_cases hlt : k < s.size
    · have hc := Lib.hid (dr_cons hlt)
      by_cases h3 : s[k] = c
      · have h := Lib.hid h3
        have hB : ((s[k].toNat : Int) == (c.toNat : Int)) = true := by simp [h3]
        clear h3
        go_wp2
        go_ret
        refine ⟨.inr ⟨k, rfl, hik, hlt, ?_⟩, rfl⟩
        rw [HE.out, hc.out, upTo_cons, if_pos h.out]
        simp
      · have h := Lib.hid h3
        have hB : ((s[k].toNat : Int) == (c.toNat : Int)) = false := by simpa using u8_ne h3
        clear h3
        go_wp2
        go_round
        case rel =>
          refine ⟨k + 1, by omega, by omega, by go_num, ?_⟩
          rw [HE.out, hc.out, upTo_cons, if_neg h.out, ext_step hik hlt]
          cases upTo c (dr s (k + 1)) with
          | none => rfl
          | some p => simp
        case measure => simp [intOf]; omega
    · have he := Lib.hid (dr_end (s := s) (i := k) (by omega))
      go_wp2
      go_ret
      refine ⟨.inl ⟨rfl, ?_⟩, rfl⟩
      rw [HE.out, he.out]
      rfl
end Go.Proofs.YtfcbpehgkpmniaaDoor
