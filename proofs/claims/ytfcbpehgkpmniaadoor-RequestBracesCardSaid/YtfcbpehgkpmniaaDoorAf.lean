/- Walk of the document's Braces. -/
import Derived.Test.YtfcbpehgkpmniaaDoorAb
namespace Go.Proofs.YtfcbpehgkpmniaaDoor
open Go.RowKit

theorem brL_end (d i : Nat) (s : ByteArray) (k : Nat) (h : ¬ k + 1 < s.size) : brL d i (dr s k) = (((d : Nat) : Int), -1) := by
  by_cases hk : k < s.size
  · rw [dr_cons hk, dr_end (i := k + 1) (by omega)]
    rfl
  · rw [dr_end (by omega)]
    rfl
theorem brL_skip {c e : UInt8} {t : List UInt8} {d i : Nat} (h : c.toNat ≠ 92) : brL d i (c :: e :: t) = brL d (i + 1) (e :: t) := by
  conv => lhs; unfold brL
  rw [if_neg h]
theorem brL_open {c e : UInt8} {t : List UInt8} {d i : Nat} (h : c.toNat = 92) (h2 : e.toNat = 123) : brL d i (c :: e :: t) = brL (d + 1) (i + 2) t := by
  conv => lhs; unfold brL
  rw [if_pos h, if_pos h2]
theorem brL_shut {c e : UInt8} {t : List UInt8} {d i : Nat} (h : c.toNat = 92) (h2 : e.toNat = 125) : brL (d + 1) i (c :: e :: t) = if d = 0 then (0, ((i + 2 : Nat) : Int)) else brL d (i + 2) t := by
  conv => lhs; unfold brL
  rw [if_pos h, if_neg (by omega), if_pos ⟨h2, by omega⟩]
  by_cases hd : d = 0
  · rw [if_pos (by omega), if_pos hd]
  · rw [if_neg (by omega), if_neg hd]; rfl
theorem brL_zero {c e : UInt8} {t : List UInt8} {i : Nat} (h : c.toNat = 92) (h2 : e.toNat = 125) : brL 0 i (c :: e :: t) = brL 0 (i + 2) t := by
  conv => lhs; unfold brL
  rw [if_pos h, if_neg (by omega), if_neg (by omega)]
theorem brL_other {c e : UInt8} {t : List UInt8} {d i : Nat} (h : c.toNat = 92) (h2 : e.toNat ≠ 123) (h3 : e.toNat ≠ 125) : brL d i (c :: e :: t) = brL d (i + 2) t := by
  conv => lhs; unfold brL
  rw [if_pos h, if_neg h2, if_neg (by omega)]
theorem num_back {n : Int} {d : Nat} (h : n = (d : Nat)) : Value.int .i64 n = .int .i64 (d : Nat) := by rw [h]
/-- The document's Braces. -/
theorem nBraces (s : ByteArray) (hs : s.size ≤ 1000000) (d : Int) (hd : -1000000 ≤ d ∧ d ≤ 1000000) (w : World) :
    Calls Tryd.prog 33 #[.string s, .int .i64 d] w fun e w' => e = .returned (.tuple #[.int .i64 (brL d.toNat 0 s.data.toList).1, .int .i64 (brL d.toNat 0 s.data.toList).2]) ∧ w = w' := by
  have hmx : max 0 d = (d.toNat : Int) := by omega
  have hN : d.toNat ≤ 1000000 := by omega
  generalize d.toNat = N at *
  clear hd
  rcases Int.lt_or_le 0 d with h0 | h0
  all_goals
    go_enter Tryd.func33, Tryd.ntmps33
    go_wp2
    go_loop [1, 6] (fun v1 v6 => ∃ (D k : Nat), v1 = .int .i64 D ∧ v6 = .int .i64 k ∧ k ≤ s.size ∧ D ≤ 1000000 + k ∧ brL D k (dr s k) = brL N 0 s.data.toList) (fun _ v6 => s.size - (intOf v6).toNat)
    case atStart => exact ⟨N, 0, num_back (by omega), rfl, Nat.zero_le _, by omega, rfl⟩
    case round =>
      obtain ⟨D, k, rfl, rfl, hk, hD, hb⟩ := hrel
      clear hmx h0
      have HE := Lib.hid hb
      clear hb
      by_cases hlt : k + 1 < s.size
      · have hc := Lib.hid (dr_cons (s := s) (i := k) (by omega))
        have hc2 := Lib.hid (dr_cons hlt)
        have hk0 : k < s.size := by omega
        by_cases h9 : (s[k].toNat : Int) = 92
        · have hB9 : ((s[k].toNat : Int) != 92) = false := by simp [h9]
          have h92 := Lib.hid (show s[k].toNat = 92 by omega)
          clear h9
          by_cases h3 : (s[k + 1].toNat : Int) = 123
          · have hB3 : ((s[k + 1].toNat : Int) == 123) = true := by simp [h3]
            have hB5 : ((s[k + 1].toNat : Int) == 125) = false := by rw [h3]; rfl
            have h123 := Lib.hid (show s[k + 1].toNat = 123 by omega)
            clear h3
            go_wp2
            go_round
            case rel => exact ⟨D + 1, k + 2, by go_num, by go_num, by omega, by omega, by rw [← HE.out, hc.out, hc2.out, brL_open h92.out h123.out]⟩
            case measure => simp [intOf]; omega
          · have hB3 : ((s[k + 1].toNat : Int) == 123) = false := by simp [h3]
            have h123 := Lib.hid (show s[k + 1].toNat ≠ 123 by omega)
            clear h3
            by_cases h5 : (s[k + 1].toNat : Int) = 125
            · have hB5 : ((s[k + 1].toNat : Int) == 125) = true := by simp [h5]
              have h125 := Lib.hid (show s[k + 1].toNat = 125 by omega)
              clear h5
              cases D with
              | zero =>
                go_wp2
                go_round
                case rel => exact ⟨0, k + 2, by go_num, by go_num, by omega, by omega, by rw [← HE.out, hc.out, hc2.out, brL_zero h92.out h125.out]⟩
                case measure => simp [intOf]; omega
              | succ D =>
                have hpos : (0 : Int) < ((D + 1 : Nat) : Int) := by omega
                by_cases hz : D = 0
                · subst hz
                  have hr := Lib.hid HE.out
                  go_wp2
                  go_ret2
                  refine ⟨?_, rfl⟩
                  rw [← hr.out, hc.out, hc2.out, brL_shut h92.out h125.out, if_pos rfl]
                  rfl
                · have hzB : (((D + 1 : Nat) : Int) - 1 == 0) = false := by rw [beq_eq_false_iff_ne]; omega
                  go_wp2
                  go_round
                  case rel => exact ⟨D, k + 2, by go_num, by go_num, by omega, by omega, by rw [← HE.out, hc.out, hc2.out, brL_shut h92.out h125.out, if_neg hz]⟩
                  case measure => simp [intOf]; omega
            · have hB5 : ((s[k + 1].toNat : Int) == 125) = false := by simp [h5]
              have h125 := Lib.hid (show s[k + 1].toNat ≠ 125 by omega)
              clear h5
              go_wp2
              go_round
              case rel => exact ⟨D, k + 2, rfl, by go_num, by omega, by omega, by rw [← HE.out, hc.out, hc2.out, brL_other h92.out h123.out h125.out]⟩
              case measure => simp [intOf]; omega
        · have hB9 : ((s[k].toNat : Int) != 92) = true := by simp [h9]
          have h92 := Lib.hid (show s[k].toNat ≠ 92 by omega)
          clear h9
          go_wp2
          go_round
          case rel => exact ⟨D, k + 1, rfl, by go_num, by omega, by omega, by rw [← HE.out, hc.out, hc2.out, brL_skip h92.out]⟩
          case measure => simp [intOf]; omega
      · go_wp2
        go_ret2
        rw [← HE.out, brL_end D k s k hlt]
        exact ⟨rfl, rfl⟩
end Go.Proofs.YtfcbpehgkpmniaaDoor
