/- Walk: the statement on letters. -/
import Derived.Test.YtaamjccffkdlhaaDoorRk
import Derived.Test.YtaamjccffkdlhaaDoorPb
namespace Go.Proofs.YtaamjccffkdlhaaDoor
open Go.RowKit

theorem u64_mod (n : Int) (k : Nat) (hk : 0 < k) (hk2 : k ≤ 1000000000) : ∃ m : Nat, m < k ∧ wrap64 ((IntKind.u64.wrap n).tmod (k : Int)) = m := by
  have h0 : 0 ≤ IntKind.u64.wrap n := by
    show 0 ≤ n % 18446744073709551616
    omega
  rw [Int.tmod_eq_emod_of_nonneg h0]
  have h1 := Int.emod_nonneg (IntKind.u64.wrap n) (show (k : Int) ≠ 0 by omega)
  have h2 := Int.emod_lt_of_pos (IntKind.u64.wrap n) (show (0 : Int) < (k : Int) by omega)
  refine ⟨(IntKind.u64.wrap n % (k : Int)).toNat, by omega, ?_⟩
  unfold wrap64
  omega
theorem wr_a {m : Nat} (h : m ≤ 1000000000) : wrE m ⟨#[97]⟩ = 0 ∧ wrS m ⟨#[97]⟩ = (if m = 0 then ⟨#[48]⟩ else ⟨(ltr 97 m).toArray⟩) := by
  have h1 : fmtB ⟨#[97]⟩ = true := by decide
  have h2 : rngB (m : Int) = true := by rw [rngB_iff]; omega
  refine ⟨by unfold wrE; rw [h1, h2]; rfl, ?_⟩
  unfold wrS
  rw [h1, h2]
  have h3 : wrL m ⟨#[97]⟩ = bodyL m ⟨#[97]⟩ := by
    unfold wrL
    rw [if_neg (by omega), Int.toNat_natCast]
  rw [h3]
  by_cases h0 : m = 0
  · subst h0
    have : bodyL 0 ⟨#[97]⟩ = [48] := by
      unfold bodyL
      rw [if_pos rfl]
      show padL 1 (digL 0) = [48]
      rw [padL_one, digL, dif_pos (by omega)]; rfl
    rw [this]; rfl
  · have : bodyL m ⟨#[97]⟩ = ltr 97 m := by unfold bodyL; rw [if_neg h0]; rfl
    rw [this, if_neg h0]; rfl
theorem ba_toList (l : List UInt8) : (⟨l.toArray⟩ : ByteArray).toList = l := by rw [ByteArray.toList_eq]
/-- RegisterLetters. -/
theorem lLetters (n : Int) (w : World) (hN : NumAt w) (hP : PowAt w) :
    Calls Tryd.prog 5 #[.int .i64 n] w fun e w' => e = .returned (.bool true) ∧ Below w.heap.size w w' := by
  obtain ⟨m, hm, hx⟩ := u64_mod n 999999999 (by omega) (by omega)
  have hx' : wrap64 ((IntKind.u64.wrap n).tmod 999999999) = (m : Int) := hx
  clear hx
  have H0 := Lib.hid (fun w hN hP => cWrite m ⟨#[97]⟩ (by decide) w hN hP)
  have H1 := Lib.hid (fun w hN hP => cWrite ((m + 1 : Nat) : Int) ⟨#[97]⟩ (by decide) w hN hP)
  have H2 := Lib.hid (fun w hN hP => lSane w hN hP)
  rw [(wr_a (m := m) (by omega)).1, (wr_a (m := m) (by omega)).2] at H0
  rw [(wr_a (m := m + 1) (by omega)).1, (wr_a (m := m + 1) (by omega)).2, if_neg (by omega)] at H1
  have hc : ((m + 1 : Nat) : Int) = (m : Int) + 1 := by omega
  rw [hc] at H1
  clear hc
  by_cases h0 : m = 0
  · subst h0
    rw [if_pos rfl] at H0
    have hl : ltr 97 (0 + 1) = [97] := by rw [ltr_pos 97 (by omega), show ((0 + 1 - 1) / 26 : Nat) = 0 by omega, ltr_0]; rfl
    rw [hl] at H1
    clear hl
    have c0 : ((0 : Nat) : Int) = 0 := rfl
    rw [c0] at H0 H1 hx'
    have c1 : (0 : Int) + 1 = 1 := rfl
    rw [c1] at H1
    clear c0 c1
    go_enter Tryd.func5, Tryd.ntmps5
    go_wp2_with (first
      | (go_at_call 7; with_reducible refine (H0.out _ hN hP).mono ?_; rintro e w1 ⟨rfl, hb1⟩; have hN1 := hN.below hb1; have hP1 := hP.below hb1)
      | (go_at_call 7; with_reducible refine (H1.out _ hN1 hP1).mono ?_; rintro e w2 ⟨rfl, hb2⟩; have hN2 := hN1.below hb2; have hP2 := hP1.below hb2)
      | (go_at_call 6; refine (H2.out _ hN2 hP2).mono ?_; rintro e w3 ⟨rfl, hb3⟩))
    go_ret
    exact ⟨rfl, ntrans (ntrans hb1 hb2) hb3⟩
  · rw [if_neg h0] at H0
    have hu := upTo_next 97 (by omega) m
    have hs1 := mk_size (ltr 97 m)
    have hs2 := mk_size (ltr 97 (m + 1))
    have ht1 := ba_toList (ltr 97 m)
    have ht2 := ba_toList (ltr 97 (m + 1))
    have hz1 := ltr_small (f := 97) (n := m) (by omega)
    have hz2 := ltr_small (f := 97) (n := m + 1) (by omega)
    generalize (⟨(ltr 97 m).toArray⟩ : ByteArray) = S at H0 hs1 ht1
    generalize (⟨(ltr 97 (m + 1)).toArray⟩ : ByteArray) = T at H1 hs2 ht2
    have h0' : ¬ ((m : Int) = 0) := by omega
    rcases hu with hu | ⟨he, hl⟩
    · have hlt : (S.size : Int) < (T.size : Int) := by omega
      have hS : S.size ≤ 7 := by omega
      have hT : T.size ≤ 7 := by omega
      clear hs1 hs2 ht1 ht2 hz1 hz2 hu
      go_enter Tryd.func5, Tryd.ntmps5
      go_wp2_with (first
        | (go_at_call 7; with_reducible refine (H0.out _ hN hP).mono ?_; rintro e w1 ⟨rfl, hb1⟩; have hN1 := hN.below hb1; have hP1 := hP.below hb1)
        | (go_at_call 7; with_reducible refine (H1.out _ hN1 hP1).mono ?_; rintro e w2 ⟨rfl, hb2⟩; have hN2 := hN1.below hb2; have hP2 := hP1.below hb2)
        | (go_at_call 6; refine (H2.out _ hN2 hP2).mono ?_; rintro e w3 ⟨rfl, hb3⟩))
      go_ret
      exact ⟨rfl, ntrans (ntrans hb1 hb2) hb3⟩
    · have hlt : ¬ (S.size : Int) < (T.size : Int) := by omega
      have hle : ¬ (T.size : Int) < (S.size : Int) := by omega
      have hS : S.size ≤ 7 := by omega
      have hT : T.size ≤ 7 := by omega
      have hb1 : Op.bytesLess T.toList S.toList = false := by rw [ht1, ht2]; exact bl_asy hl
      have hb2 : (T.toList == S.toList) = false := by
        rw [ht1, ht2, beq_eq_false_iff_ne]
        intro e
        rw [e] at hl
        have := bl_irr (ltr 97 m)
        unfold bl at this
        rw [this] at hl
        cases hl
      clear hs1 hs2 ht1 ht2 hz1 hz2 he hl
      go_enter Tryd.func5, Tryd.ntmps5
      go_wp2_with (first
        | (go_at_call 7; with_reducible refine (H0.out _ hN hP).mono ?_; rintro e w1 ⟨rfl, hb1⟩; have hN1 := hN.below hb1; have hP1 := hP.below hb1)
        | (go_at_call 7; with_reducible refine (H1.out _ hN1 hP1).mono ?_; rintro e w2 ⟨rfl, hb2⟩; have hN2 := hN1.below hb2; have hP2 := hP1.below hb2)
        | (go_at_call 6; refine (H2.out _ hN2 hP2).mono ?_; rintro e w3 ⟨rfl, hb3⟩))
      go_ret
      exact ⟨rfl, ntrans (ntrans hb1 hb2) hb3⟩
end Go.Proofs.YtaamjccffkdlhaaDoor
