/- Walks: the code's Write. -/
import Derived.Test.YtaamjccffkdlhaaGreatDoorRi
import Derived.Test.YtaamjccffkdlhaaGreatDoorPc
namespace Go.Proofs.YtaamjccffkdlhaaGreatDoor
open Go.RowKit

/-- A number from 0 on, by a format. -/
def bodyL (m : Nat) (F : ByteArray) : List UInt8 :=
  if m = 0 then padL F.size (digL m)
  else if isB [97] F then ltr 97 m
  else if isB [65] F then ltr 65 m
  else if isB [105] F then romX m
  else if isB [73] F then upL (romX m)
  else padL F.size (digL m)
theorem padL_one (m : Nat) : padL 1 (digL m) = digL m := by
  have := digL_pos m
  unfold padL
  rw [show 1 - (digL m).length = 0 by omega]
  rfl
theorem padL_len (k m : Nat) (h : m ≤ 1000000000) (hk : k ≤ 9) : (padL k (digL m)).length ≤ 10 := by
  have := digL_9 h
  simp [padL]; omega
theorem bodyL_len {m : Nat} {F : ByteArray} (h : m ≤ 1000000000) (hF : F.size ≤ 9) : (bodyL m F).length ≤ 51 := by
  have h1 := padL_len F.size m h hF
  have h2 := romX_len h
  have h3 := ltr_small (f := 97) h
  have h4 := ltr_small (f := 65) h
  unfold bodyL upL
  repeat' split
  all_goals first | omega | (rw [List.length_map]; omega)
theorem fmtB_size {F : ByteArray} (h : fmtB F = true) : F.size ≤ 9 ∧ 1 ≤ F.size := by
  constructor
  · rcases Nat.lt_or_ge 9 F.size with h9 | h9
    · rw [fmtB_great (by omega)] at h; cases h
    · exact h9
  · rcases Nat.eq_zero_or_pos F.size with h0 | h0
    · rw [fmtB_0 h0] at h; cases h
    · exact h0
/-- roman. -/
theorem cRomX (n : Nat) (hn : n ≤ 1000000000) (w : World) (hN : NumAt w) (hP : PowAt w) :
    Calls Tryz.prog 67 #[.int .i64 n] w fun e w' => e = .returned (.string ⟨(romX n).toArray⟩) ∧ Below w.heap.size w w' := by
  by_cases h : n ≤ 39999
  · have : romX n = romL n := by unfold romX; rw [if_pos h]
    rw [this]
    exact cRom n h w hN
  · have : romX n = padL 1 (digL n) := by unfold romX; rw [if_neg h, padL_one]
    rw [this]
    have H := Lib.hid (fun w hP => cDec n 1 (by omega) (by omega) w hP)
    have hcast : ((1 : Nat) : Int) = 1 := rfl
    rw [hcast] at H
    clear hcast
    go_enter Tryz.func67, Tryz.ntmps67
    go_wp2_with (go_at_call 69; with_reducible refine (H.out _ hP).mono ?_; rintro e w1 ⟨rfl, hb1⟩)
    go_ret
    exact ⟨rfl, hb1⟩
theorem cUp (l : List UInt8) (hl : l.length ≤ 1000) (ha : ∀ c ∈ l, c.toNat < 128) (w : World) :
    Calls Tryz.prog 68 #[.string ⟨l.toArray⟩] w fun e w' => e = .returned (.string ⟨(upL l).toArray⟩) ∧ Below w.heap.size w w' := by
  refine (Tryz.strings_ToUpper_ascii ⟨l.toArray⟩ w (by rw [mk_size]; omega) (fun j b hj => ha b (List.mem_of_getElem? (by simpa using hj)))).mono ?_
  rintro e w' ⟨rfl, hb⟩
  exact ⟨by simp [upL, Lib.toUpperA], hb⟩
/-- write, by a format that is one. -/
theorem cWr (n : Nat) (hn : n ≤ 1000000000) (F : ByteArray) (hF : F.size ≤ 9) (w : World) (hN : NumAt w) (hP : PowAt w) :
    Calls Tryz.prog 47 #[.int .i64 n, .string F] w fun e w' => e = .returned (.string ⟨(bodyL n F).toArray⟩) ∧ Below w.heap.size w w' := by
  have HD := Lib.hid (fun w hP => cDec n F.size (by omega) hF w hP)
  by_cases h0 : n = 0
  · have hb : bodyL n F = padL F.size (digL n) := by unfold bodyL; rw [if_pos h0]
    rw [hb]; clear hb
    generalize (⟨(padL F.size (digL n)).toArray⟩ : ByteArray) = R at HD ⊢
    have h0' : ¬ 0 < n := by omega
    clear h0
    go_enter Tryz.func47, Tryz.ntmps47
    go_wp2_with (go_at_call 69; with_reducible refine (HD.out _ hP).mono ?_; rintro e w1 ⟨rfl, hb1⟩)
    go_ret
    exact ⟨rfl, hb1⟩
  · have h0' : 0 < n := by omega
    by_cases hl : (isB [105] F || isB [73] F || isB [97] F || isB [65] F) = true
    · have : isB [105] F = true ∨ isB [73] F = true ∨ isB [97] F = true ∨ isB [65] F = true := by simpa [or_assoc] using hl
      clear hl HD
      have HR := Lib.hid (fun w hN hP => cRomX n hn w hN hP)
      have HU := Lib.hid (fun w => cUp (romX n) (by have := romX_len hn; omega) (romX_ascii n) w)
      have H9 := Lib.hid (fun w => cLet 97 n (by omega) h0 (by omega) w)
      have H6 := Lib.hid (fun w => cLet 65 n (by omega) h0 (by omega) w)
      have c97 : ((97 : Nat) : Int) = 97 := rfl
      have c65 : ((65 : Nat) : Int) = 65 := rfl
      rw [c97] at H9
      rw [c65] at H6
      clear c97 c65
      rcases this with h | h | h | h
      all_goals obtain rfl := lit_of h
      · have hb : bodyL n ⟨[105].toArray⟩ = romX n := by unfold bodyL; rw [if_neg h0]; rfl
        rw [hb]; clear hb h
        generalize (⟨(romX n).toArray⟩ : ByteArray) = R at HR ⊢
        go_enter Tryz.func47, Tryz.ntmps47
        go_wp2_with (go_at_call 67; with_reducible refine (HR.out _ hN hP).mono ?_; rintro e w1 ⟨rfl, hb1⟩)
        go_ret
        exact ⟨rfl, hb1⟩
      · have hb : bodyL n ⟨[73].toArray⟩ = upL (romX n) := by unfold bodyL; rw [if_neg h0]; rfl
        rw [hb]; clear hb h
        generalize (⟨(romX n).toArray⟩ : ByteArray) = R at HR HU
        generalize (⟨(upL (romX n)).toArray⟩ : ByteArray) = T at HU ⊢
        go_enter Tryz.func47, Tryz.ntmps47
        go_wp2_with (first
          | (go_at_call 67; with_reducible refine (HR.out _ hN hP).mono ?_; rintro e w1 ⟨rfl, hb1⟩)
          | (go_at_call 68; with_reducible refine (HU.out _).mono ?_; rintro e w2 ⟨rfl, hb2⟩))
        go_ret
        exact ⟨rfl, ntrans hb1 hb2⟩
      · have hb : bodyL n ⟨[97].toArray⟩ = ltr 97 n := by unfold bodyL; rw [if_neg h0]; rfl
        rw [hb]; clear hb h
        generalize (⟨(ltr 97 n).toArray⟩ : ByteArray) = R at H9 ⊢
        go_enter Tryz.func47, Tryz.ntmps47
        go_wp2_with (go_at_call 66; with_reducible refine (H9.out _).mono ?_; rintro e w1 ⟨rfl, hb1⟩)
        go_ret
        exact ⟨rfl, hb1⟩
      · have hb : bodyL n ⟨[65].toArray⟩ = ltr 65 n := by unfold bodyL; rw [if_neg h0]; rfl
        rw [hb]; clear hb h
        generalize (⟨(ltr 65 n).toArray⟩ : ByteArray) = R at H6 ⊢
        go_enter Tryz.func47, Tryz.ntmps47
        go_wp2_with (go_at_call 66; with_reducible refine (H6.out _).mono ?_; rintro e w1 ⟨rfl, hb1⟩)
        go_ret
        exact ⟨rfl, hb1⟩
    · rw [Bool.not_eq_true] at hl
      simp only [Bool.or_eq_false_iff] at hl
      obtain ⟨⟨⟨h1, h2⟩, h3⟩, h4⟩ := hl
      have hb : bodyL n F = padL F.size (digL n) := by unfold bodyL; rw [if_neg h0, h1, h2, h3, h4]; rfl
      rw [hb]; clear hb
      simp only [isB, ← ByteArray.toList_eq] at h1 h2 h3 h4
      generalize (⟨(padL F.size (digL n)).toArray⟩ : ByteArray) = R at HD ⊢
      clear h0
      have hF' : F.size ≤ 9223372036854775807 := by omega
      go_enter Tryz.func47, Tryz.ntmps47
      go_wp2_with (go_at_call 69; with_reducible refine (HD.out _ hP).mono ?_; rintro e w1 ⟨rfl, hb1⟩)
      go_ret
      exact ⟨rfl, hb1⟩
end Go.Proofs.YtaamjccffkdlhaaGreatDoor
