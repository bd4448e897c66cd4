/- Walks: the document's Write, by any format, of any number. -/
import Derived.Test.YtaamjccffkdlhaaGreatDoorRp
namespace Go.Proofs.YtaamjccffkdlhaaGreatDoor
open Go.RowKit

theorem allB_at {p : Nat → Bool} {s : ByteArray} (h : allB p s = true) (j : Nat) (hj : j < s.size) : p s[j].toNat = true := by
  unfold allB at h
  have := List.all_eq_true.1 h s[j] (by simp [ByteArray.getElem_eq_getElem_data])
  exact this
set_option maxRecDepth 100000 in
/-- By digits. -/
theorem nWd (n : Nat) (hn : n ≤ 1000000000) (F : ByteArray) (hF : fmtB F = true) (h1 : isB [105] F = false) (h2 : isB [73] F = false) (h3 : isB [97] F = false) (h4 : isB [65] F = false) (w : World) :
    Calls Tryz.prog 70 #[.int .i64 n, .string F] w fun e w' => e = .returned (.tuple #[.string ⟨(bodyL n F).toArray⟩, .int .i64 0]) ∧ Below w.heap.size w w' := by
  have hb : bodyL n F = padL F.size (digL n) := by
    unfold bodyL
    split
    · rfl
    · rw [h1, h2, h3, h4]; rfl
  rw [hb]; clear hb
  have hsz := fmtB_size hF
  have hall : allB digB F = true := by
    unfold fmtB at hF
    rw [h1, h2, h3, h4] at hF
    simp only [Bool.false_or, Bool.and_eq_true] at hF
    exact hF.2
  have h0 : 0 < F.size := hsz.2
  have hd0 := allB_at hall 0 h0
  simp only [digB, Bool.and_eq_true, decide_eq_true_eq] at hd0
  obtain ⟨hd1, hd2⟩ := hd0
  have hB1 : decide ((48 : Int) ≤ (F[0].toNat : Int)) = true := decide_eq_true (by omega)
  have hB2 : decide ((F[0].toNat : Int) ≤ 57) = true := decide_eq_true (by omega)
  have H1 := Lib.hid (fun w => nForm F (by unfold maxLen; omega) w)
  rw [hF] at H1
  have H2 := Lib.hid (fun w => nFit (n : Int) w)
  rw [show rngB (n : Int) = true by rw [rngB_iff]; omega] at H2
  have H3 := Lib.hid (fun w => nDig n (by omega) w)
  simp only [isB, ← ByteArray.toList_eq] at h1 h2 h3 h4
  have hls : (⟨(digL n).toArray⟩ : ByteArray).size ≤ 10 := by rw [mk_size]; exact digL_9 hn
  have hl := digL_9 hn
  have HS : Hid ((⟨(digL n).toArray⟩ : ByteArray).data.toList = digL n) := Lib.hid (by simp)
  obtain ⟨P, hP⟩ : ∃ P : ByteArray, P = ⟨(padL F.size (digL n)).toArray⟩ := ⟨_, rfl⟩
  rw [← hP]
  have HP := Lib.hid hP
  clear hP hall hF
  generalize (⟨(digL n).toArray⟩ : ByteArray) = S0 at H3 hls HS
  have hs9 : F.size ≤ 9 := hsz.1
  clear hsz
  go_enter Tryz.func70, Tryz.ntmps70
  go_wp2_with (first
    | (go_at_call 52; refine (H1.out _).mono ?_; rintro e w1 ⟨rfl, rfl⟩)
    | (go_at_call 49; refine (H2.out _).mono ?_; rintro e w1 ⟨rfl, rfl⟩)
    | (go_at_call 46; with_reducible refine (H3.out _).mono ?_; rintro e w1 ⟨rfl, hb1⟩))
  go_loop [8] (fun v8 => ∃ (j : Nat) (S : ByteArray), v8 = .string S ∧ S.data.toList = List.replicate j 48 ++ digL n ∧ (j = 0 ∨ j + (digL n).length ≤ F.size)) (fun v8 => 20 - (match v8 with | .string S => S.size | _ => 0))
  case atStart => exact ⟨0, S0, rfl, by simpa using HS.out, .inl rfl⟩
  case round =>
    obtain ⟨j, S, rfl, hS, hj⟩ := hrel
    have hsl : S.size = j + (digL n).length := by rw [size_len, hS]; simp
    have hsb : S.size ≤ 19 := by omega
    have HSS := Lib.hid hS
    have HJ := Lib.hid hj
    have HL := Lib.hid hsl
    clear hS hj hsl
    by_cases c1 : 1 < F.size
    · by_cases c2 : S.size < F.size
      · have ka := fun (w : World) => run_string_add_sum (P := Tryz.prog) w ⟨#[48]⟩ S (by show 1 + S.size ≤ _; omega)
        go_wp2_with fail
        go_round
        case rel => exact ⟨j + 1, _, rfl, by rw [app_data, HSS.out]; rfl, .inr (by have := HL.out; omega)⟩
        case measure =>
          show 20 - ((⟨#[48]⟩ : ByteArray) ++ S).size < 20 - S.size
          rw [ByteArray.size_append]
          show 20 - (1 + S.size) < _
          omega
      · have hE : P = S := by
          rw [HP.out]
          refine ba_of ?_
          rw [HSS.out, padL]
          have : F.size - (digL n).length = j := by
            have h := HL.out
            rcases HJ.out with hj | hj <;> omega
          rw [this]
        subst hE
        go_wp2_with fail
        go_ret2
        exact ⟨rfl, hb1⟩
    · have hE : P = S := by
        rw [HP.out]
        refine ba_of ?_
        rw [HSS.out, padL]
        have : F.size - (digL n).length = j := by
          have h := HL.out
          have hp := digL_pos n
          rcases HJ.out with hj | hj <;> omega
        rw [this]
      subst hE
      go_wp2_with fail
      go_ret2
      exact ⟨rfl, hb1⟩
/-- Of a number from 0 on. -/
theorem nW0 (n : Nat) (hn : n ≤ 1000000000) (F : ByteArray) (hF : fmtB F = true) (w : World) :
    Calls Tryz.prog 70 #[.int .i64 n, .string F] w fun e w' => e = .returned (.tuple #[.string ⟨(bodyL n F).toArray⟩, .int .i64 0]) ∧ Below w.heap.size w w' := by
  by_cases hl : (isB [105] F || isB [73] F || isB [97] F || isB [65] F) = true
  · have : isB [105] F = true ∨ isB [73] F = true ∨ isB [97] F = true ∨ isB [65] F = true := by simpa [or_assoc] using hl
    rcases this with h | h | h | h
    all_goals obtain rfl := lit_of h
    · by_cases h0 : n = 0
      · subst h0; exact nW0i w
      · by_cases h9 : n ≤ 39999
        · exact nWi n hn (by omega) h9 w
        · exact nWix n hn h9 w
    · by_cases h0 : n = 0
      · subst h0; exact nW0I w
      · by_cases h9 : n ≤ 39999
        · exact nWI n hn (by omega) h9 w
        · exact nWIx n hn h9 w
    · by_cases h0 : n = 0
      · subst h0; exact nW0a w
      · exact nWa n hn (by omega) w
    · by_cases h0 : n = 0
      · subst h0; exact nW0A w
      · exact nWA n hn (by omega) w
  · rw [Bool.not_eq_true] at hl
    simp only [Bool.or_eq_false_iff] at hl
    obtain ⟨⟨⟨h1, h2⟩, h3⟩, h4⟩ := hl
    exact nWd n hn F hF h1 h2 h3 h4 w
set_option maxRecDepth 100000 in
/-- The document's Write. -/
theorem nWrite (n : Int) (F : ByteArray) (hF : F.size ≤ maxLen) (w : World) :
    Calls Tryz.prog 70 #[.int .i64 n, .string F] w fun e w' => e = .returned (.tuple #[.string (wrS n F), .int .i64 (wrE n F)]) ∧ Below w.heap.size w w' := by
  have H1 := Lib.hid (fun w => nForm F hF w)
  have H2 := Lib.hid (fun w => nFit n w)
  by_cases hf : fmtB F = true
  · by_cases hr : rngB n = true
    · have he : wrE n F = 0 := by unfold wrE; rw [hf, hr]; rfl
      have hS : wrS n F = ⟨(wrL n F).toArray⟩ := by unfold wrS; rw [hf, hr]; rfl
      rw [he, hS]
      have h1 := rngB_iff.1 hr
      by_cases hn : n < 0
      · have hl : wrL n F = 45 :: bodyL (-n).toNat F := by unfold wrL; rw [if_pos hn]
        rw [hl]; clear hl
        have hb := bodyL_len (m := (-n).toNat) (F := F) (by omega) (fmtB_size hf).1
        have HW := Lib.hid (fun w => nW0 (-n).toNat (by omega) F hf w)
        have hc : ((-n).toNat : Int) = -n := by omega
        rw [hc] at HW
        have HE : Hid ((⟨(45 :: bodyL (-n).toNat F).toArray⟩ : ByteArray) = ⟨#[45]⟩ ++ ⟨(bodyL (-n).toNat F).toArray⟩) := Lib.hid (ba_eq (by rw [app_data]; simp))
        rw [HE.out]
        have hz : (⟨(bodyL (-n).toNat F).toArray⟩ : ByteArray).size ≤ 51 := by rw [mk_size]; exact hb
        rw [hf] at H1
        rw [hr] at H2
        clear hc hb HE he hS hf hr
        generalize (⟨(bodyL (-n).toNat F).toArray⟩ : ByteArray) = R at HW hz ⊢
        have ka := fun (w : World) => run_string_add_sum (P := Tryz.prog) w ⟨#[45]⟩ R (by show 1 + R.size ≤ _; omega)
        go_enter Tryz.func70, Tryz.ntmps70
        go_wp2_with (first
          | (go_at_call 52; refine (H1.out _).mono ?_; rintro e w1 ⟨rfl, rfl⟩)
          | (go_at_call 49; refine (H2.out _).mono ?_; rintro e w1 ⟨rfl, rfl⟩)
          | (go_at_call 70; with_reducible refine (HW.out _).mono ?_; rintro e w1 ⟨rfl, hb1⟩))
        go_ret2
        exact ⟨rfl, hb1⟩
      · have hl : wrL n F = bodyL n.toNat F := by unfold wrL; rw [if_neg hn]
        rw [hl]
        have := nW0 n.toNat (by omega) F hf w
        rw [show (n.toNat : Int) = n by omega] at this
        exact this
    · have hr' : rngB n = false := by simpa using hr
      have he : wrE n F = 5 := by unfold wrE; rw [hf, hr']; rfl
      have hS : wrS n F = ⟨#[]⟩ := by unfold wrS; rw [hf, hr']; rfl
      rw [he, hS]
      rw [hf] at H1
      rw [hr'] at H2
      clear he hS hr hr' hf
      go_enter Tryz.func70, Tryz.ntmps70
      go_wp2_with (first
        | (go_at_call 52; refine (H1.out _).mono ?_; rintro e w1 ⟨rfl, rfl⟩)
        | (go_at_call 49; refine (H2.out _).mono ?_; rintro e w1 ⟨rfl, rfl⟩))
      go_ret2
      exact ⟨rfl, Below.refl _ _⟩
  · have hf' : fmtB F = false := by simpa using hf
    have he : wrE n F = 4 := by unfold wrE; rw [hf']; rfl
    have hS : wrS n F = ⟨#[]⟩ := by unfold wrS; rw [hf']; rfl
    rw [he, hS]
    rw [hf'] at H1
    clear he hS hf hf'
    go_enter Tryz.func70, Tryz.ntmps70
    go_wp2_with (go_at_call 52; refine (H1.out _).mono ?_; rintro e w1 ⟨rfl, rfl⟩)
    go_ret2
    exact ⟨rfl, Below.refl _ _⟩
end Go.Proofs.YtaamjccffkdlhaaGreatDoor
