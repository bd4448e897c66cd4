/- Walks of package expand: bytes, short names, names in brackets. -/
import Derived.Test.YtbkcnopkibdlbaaDoorAb
import Derived.Test.YtbkcnopkibdlbaaDoorShelf
namespace Go.Proofs.YtbkcnopkibdlbaaDoor
open Go.RowKit

/-- byteAt. -/
theorem cAt (s : ByteArray) (_hs : s.size ≤ maxLen) (i : Nat) (_hi : i ≤ 10) (w : World) :
    Calls Tryd.prog 57 #[.string s, .int .i64 i] w fun e w' => e = .returned (.int .u8 (bt s i)) ∧ w = w' := by
  by_cases h : i < s.size
  · rw [bt_in h]
    go_enter Tryd.func57, Tryd.ntmps57
    go_wp2
    go_ret
    exact ⟨rfl, rfl⟩
  · have e : bt s i = 0 := by unfold bt; rw [dif_neg h]
    rw [e]
    clear e
    go_enter Tryd.func57, Tryd.ntmps57
    go_wp2
    go_ret
    exact ⟨rfl, rfl⟩
theorem cAt0 (s : ByteArray) (hs : s.size ≤ maxLen) (w : World) :
    Calls Tryd.prog 57 #[.string s, .int .i64 0] w fun e w' => e = .returned (.int .u8 (bt s 0)) ∧ w = w' := cAt s hs 0 (by omega) w
theorem cAt1 (s : ByteArray) (hs : s.size ≤ maxLen) (w : World) :
    Calls Tryd.prog 57 #[.string s, .int .i64 1] w fun e w' => e = .returned (.int .u8 (bt s 1)) ∧ w = w' := cAt s hs 1 (by omega) w
theorem cAt2 (s : ByteArray) (hs : s.size ≤ maxLen) (w : World) :
    Calls Tryd.prog 57 #[.string s, .int .i64 2] w fun e w' => e = .returned (.int .u8 (bt s 2)) ∧ w = w' := cAt s hs 2 (by omega) w
/-- isShort. -/
theorem cShort (c : Nat) (hc : c < 256) (w : World) :
    Calls Tryd.prog 63 #[.int .u8 c] w fun e w' => e = .returned (.bool (shB c)) ∧ w = w' := by
  have HI := Lib.hid (fun w => Tryd.strings_IndexByte ⟨#[40, 91, 43, 45]⟩ c w)
  have hn : shB c = (decide (33 ≤ (c : Int)) && decide ((c : Int) ≤ 126) && decide (Lib.indexByte [40, 91, 43, 45] (UInt8.ofNat c) < 0)) := by
    have h := sh_ib ⟨c, hc⟩
    simp only at h
    rw [Bool.eq_iff_iff]
    simp only [shB, Bool.and_eq_true, decide_eq_true_eq, h]
    omega
  rw [hn]
  clear hn hc
  by_cases a : 33 ≤ (c : Int) <;> by_cases b : (c : Int) ≤ 126
  all_goals
    go_enter Tryd.func63, Tryd.ntmps63
    go_wp2_with (go_at_call 59; refine (HI.out _).mono ?_; rintro e w1 ⟨rfl, rfl⟩)
    go_ret
    refine ⟨ret_b ?_, rfl⟩
    simp [a, b]
    try omega
/-- isGraphic. -/
theorem cGraphic (s : ByteArray) (hs : s.size ≤ maxLen) (w : World) :
    Calls Tryd.prog 64 #[.string s] w fun e w' => e = .returned (.bool (allB grB s)) ∧ w = w' := by
  unfold maxLen at hs
  go_enter Tryd.func64, Tryd.ntmps64
  go_wp2
  go_loop [6] (fun v6 => ∃ k : Nat, k ≤ s.size ∧ v6 = .int .i64 k ∧ ∀ (j : Nat) (hj : j < s.size), j < k → grB s[j].toNat = true) (fun v6 => s.size - (intOf v6).toNat)
  case atStart => exact ⟨0, Nat.zero_le _, rfl, fun j hj h => by omega⟩
  case round =>
    obtain ⟨k, hk, rfl, hb⟩ := hrel
    have HB := Lib.hid hb
    clear hb
    by_cases hlt : k < s.size
    · by_cases h1 : (s[k].toNat : Int) < 33
      · have hf : allB grB s = false := allB_no k hlt (by
          have : ¬ 33 ≤ s[k].toNat := by omega
          simp [grB, this])
        go_wp2
        go_ret
        exact ⟨rfl, rfl⟩
      · by_cases h2 : 126 < (s[k].toNat : Int)
        · have hf : allB grB s = false := allB_no k hlt (by
            have : ¬ s[k].toNat ≤ 126 := by omega
            simp [grB, this])
          go_wp2
          go_ret
          exact ⟨rfl, rfl⟩
        · have hf : grB s[k].toNat = true := by
            have e2 : 33 ≤ s[k].toNat := by omega
            have e3 : s[k].toNat ≤ 126 := by omega
            simp [grB, e2, e3]
          have HF := Lib.hid hf
          clear hf
          go_wp2
          go_round
          case rel => exact ⟨k + 1, by omega, by go_num, fun j hj h => by
            by_cases e : j = k
            · subst e; exact HF.out
            · exact HB.out j hj (by omega)⟩
          case measure => simp [intOf]; omega
    · have hall : allB grB s = true := allB_yes fun j hj => HB.out j hj (by omega)
      go_wp2
      go_ret
      exact ⟨rfl, rfl⟩
end Go.Proofs.YtbkcnopkibdlbaaDoor
