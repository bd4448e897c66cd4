/- Walks: the code's Write; the fixed example. -/
import Derived.Test.YtaamjccffkdlhaaGreatDoorRj
namespace Go.Proofs.YtaamjccffkdlhaaGreatDoor
open Go.RowKit

def wrL (n : Int) (F : ByteArray) : List UInt8 := if n < 0 then 45 :: bodyL (-n).toNat F else bodyL n.toNat F
/-- What Write answers: text and error. -/
def wrS (n : Int) (F : ByteArray) : ByteArray := if fmtB F && rngB n then ⟨(wrL n F).toArray⟩ else ⟨#[]⟩
def wrE (n : Int) (F : ByteArray) : Int := if fmtB F then erI (rngB n) 5 else 4
theorem rngB_iff {n : Int} : rngB n = true ↔ -1000000000 ≤ n ∧ n ≤ 1000000000 := by simp [rngB]
/-- Write. -/
theorem cWrite (n : Int) (F : ByteArray) (hF : F.size ≤ maxLen) (w : World) (hN : NumAt w) (hP : PowAt w) :
    Calls Tryz.prog 25 #[.int .i64 n, .string F] w fun e w' => e = .returned (.tuple #[.string (wrS n F), .int .i64 (wrE n F)]) ∧ Below w.heap.size w w' := by
  have H1 := Lib.hid (fun w => cFmt F hF w)
  have H2 := Lib.hid (fun w => cRng n w)
  by_cases hf : fmtB F = true
  · have hs := fmtB_size hf
    by_cases hr : rngB n = true
    · have he : wrE n F = 0 := by unfold wrE; rw [hf, hr]; rfl
      have hS : wrS n F = ⟨(wrL n F).toArray⟩ := by unfold wrS; rw [hf, hr]; rfl
      rw [he, hS]
      rw [hf] at H1
      rw [hr] at H2
      have h1 := rngB_iff.1 hr
      clear he hS hr hf
      by_cases hn : n < 0
      · have hl : wrL n F = 45 :: bodyL (-n).toNat F := by unfold wrL; rw [if_pos hn]
        rw [hl]; clear hl
        have hb := bodyL_len (m := (-n).toNat) (F := F) (by omega) hs.1
        have HW := Lib.hid (fun w hN hP => cWr (-n).toNat (by omega) F hs.1 w hN hP)
        have hc : ((-n).toNat : Int) = -n := by omega
        rw [hc] at HW
        have HE : Hid ((⟨(45 :: bodyL (-n).toNat F).toArray⟩ : ByteArray) = ⟨#[45]⟩ ++ ⟨(bodyL (-n).toNat F).toArray⟩) := Lib.hid (ba_eq (by rw [app_data]; simp))
        rw [HE.out]
        have hz : (⟨(bodyL (-n).toNat F).toArray⟩ : ByteArray).size ≤ 51 := by rw [mk_size]; exact hb
        clear hc hb HE
        generalize (⟨(bodyL (-n).toNat F).toArray⟩ : ByteArray) = R at HW hz ⊢
        have ka := fun (w : World) => run_string_add_sum (P := Tryz.prog) w ⟨#[45]⟩ R (by show 1 + R.size ≤ _; omega)
        go_enter Tryz.func25, Tryz.ntmps25
        go_wp2_with (first
          | (go_at_call 40; refine (H1.out _).mono ?_; rintro e w1 ⟨rfl, rfl⟩; unfold erI)
          | (go_at_call 37; refine (H2.out _).mono ?_; rintro e w1 ⟨rfl, rfl⟩; unfold erI)
          | (go_at_call 47; with_reducible refine (HW.out _ hN hP).mono ?_; rintro e w1 ⟨rfl, hb1⟩))
        go_ret2
        exact ⟨rfl, hb1⟩
      · have hl : wrL n F = bodyL n.toNat F := by unfold wrL; rw [if_neg hn]
        rw [hl]; clear hl
        have HW := Lib.hid (fun w hN hP => cWr n.toNat (by omega) F hs.1 w hN hP)
        have hc : (n.toNat : Int) = n := by omega
        rw [hc] at HW
        clear hc
        generalize (⟨(bodyL n.toNat F).toArray⟩ : ByteArray) = R at HW ⊢
        go_enter Tryz.func25, Tryz.ntmps25
        go_wp2_with (first
          | (go_at_call 40; refine (H1.out _).mono ?_; rintro e w1 ⟨rfl, rfl⟩; unfold erI)
          | (go_at_call 37; refine (H2.out _).mono ?_; rintro e w1 ⟨rfl, rfl⟩; unfold erI)
          | (go_at_call 47; with_reducible refine (HW.out _ hN hP).mono ?_; rintro e w1 ⟨rfl, hb1⟩))
        go_ret2
        exact ⟨rfl, hb1⟩
    · have hr' : rngB n = false := by simpa using hr
      have he : wrE n F = 5 := by unfold wrE; rw [hf, hr']; rfl
      have hS : wrS n F = ⟨#[]⟩ := by unfold wrS; rw [hf, hr']; rfl
      rw [he, hS]
      rw [hf] at H1
      rw [hr'] at H2
      clear he hS hr hr' hf
      go_enter Tryz.func25, Tryz.ntmps25
      go_wp2_with (first
        | (go_at_call 40; refine (H1.out _).mono ?_; rintro e w1 ⟨rfl, rfl⟩; unfold erI)
        | (go_at_call 37; refine (H2.out _).mono ?_; rintro e w1 ⟨rfl, rfl⟩; unfold erI))
      go_ret2
      exact ⟨rfl, Below.refl _ _⟩
  · have hf' : fmtB F = false := by simpa using hf
    have he : wrE n F = 4 := by unfold wrE; rw [hf']; rfl
    have hS : wrS n F = ⟨#[]⟩ := by unfold wrS; rw [hf']; rfl
    rw [he, hS]
    rw [hf'] at H1
    clear he hS hf hf'
    go_enter Tryz.func25, Tryz.ntmps25
    go_wp2_with (go_at_call 40; refine (H1.out _).mono ?_; rintro e w1 ⟨rfl, rfl⟩; unfold erI)
    go_ret2
    exact ⟨rfl, Below.refl _ _⟩
theorem wr_28 : wrS 28 ⟨#[97]⟩ = ⟨#[97, 98]⟩ ∧ wrE 28 ⟨#[97]⟩ = 0 := by
  have h1 : (fmtB ⟨#[97]⟩ && rngB 28) = true := by decide
  have h2 : wrL 28 ⟨#[97]⟩ = [97, 98] := by
    show bodyL 28 ⟨#[97]⟩ = _
    have : bodyL 28 ⟨#[97]⟩ = ltr 97 28 := rfl
    rw [this, ltr_pos 97 (by omega), ltr_pos 97 (by omega), show (((28 - 1) / 26 - 1) / 26 : Nat) = 0 by omega, ltr_0]
    rfl
  refine ⟨?_, by decide⟩
  unfold wrS
  rw [if_pos h1, h2]
/-- sane. -/
theorem lSane (w : World) (hN : NumAt w) (hP : PowAt w) : Calls Tryz.prog 7 #[] w fun e w' => e = .returned (.bool true) ∧ Below w.heap.size w w' := by
  have H := Lib.hid (fun w hN hP => cWrite 28 ⟨#[97]⟩ (by decide) w hN hP)
  rw [wr_28.1, wr_28.2] at H
  go_enter Tryz.func7, Tryz.ntmps7
  go_wp2_with (go_at_call 25; refine (H.out _ hN hP).mono ?_; rintro e w1 ⟨rfl, hb1⟩)
  go_ret
  exact ⟨rfl, hb1⟩
end Go.Proofs.YtaamjccffkdlhaaGreatDoor
