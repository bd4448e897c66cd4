/- Walk: the statement on roman numerals. -/
import Derived.Test.YtaamjccffkdlhaaDoorRm
import Derived.Test.YtaamjccffkdlhaaDoorRl
namespace Go.Proofs.YtaamjccffkdlhaaDoor
open Go.RowKit

/-- strings.ToLower, of an ASCII text. -/
theorem cLow (s : ByteArray) (hs : s.size ≤ 1000) (ha : ∀ c ∈ s.data.toList, c.toNat < 128) (w : World) :
    Calls Tryd.prog 20 #[.string s] w fun e w' => e = .returned (.string ⟨(loL s.data.toList).toArray⟩) ∧ Below w.heap.size w w' := by
  refine (Tryd.strings_ToLower_ascii s w (by omega) (fun j b hj => ha b (List.mem_of_getElem? hj))).mono ?_
  rintro e w' ⟨rfl, hb⟩
  exact ⟨rfl, hb⟩
theorem romV_ok {s : ByteArray} {N : Nat} (h : romOk s.data.toList N) : romV s N = N ∧ romE s N = 0 := by
  have hx : romX N = romL N := by unfold romX; rw [if_pos h.2.1]
  have hc : 1 ≤ N ∧ (s.data.toList = romX N ∨ s.data.toList = upL (romX N)) := ⟨h.1, by rw [hx]; exact h.2.2⟩
  exact ⟨by unfold romV; rw [if_pos hc], by unfold romE; rw [if_pos hc]⟩
theorem romV_no {s : ByteArray} {N : Nat} (hN : N = rdN (loL s.data.toList)) (h : ∀ M, ¬ romOk s.data.toList M) : romV s N = 0 ∧ romE s N = 4 := by
  have hc : ¬ (1 ≤ N ∧ (s.data.toList = romX N ∨ s.data.toList = upL (romX N))) := fun hh => h N ((romOk_iff hN hh.1).1 hh.2)
  exact ⟨by unfold romV; rw [if_neg hc], by unfold romE; rw [if_neg hc]⟩
/-- Roman, of a text that is a number's. -/
theorem cRomanOk (s : ByteArray) (N : Nat) (h : romOk s.data.toList N) (hs : s.size ≤ 200) (w : World) (hN : NumAt w) (hP : PowAt w) :
    Calls Tryd.prog 9 #[.string s] w fun e w' => e = .returned (.tuple #[.int .i64 N, .int .i64 0]) ∧ Below w.heap.size w w' := by
  have hr := romOk_rd h
  have := cRoman0 s (loL s.data.toList) (by rw [loL, List.length_map]; rw [size_len] at hs; omega) w hN hP (cLow s (by omega) hr.2 w)
  rw [hr.1, (romV_ok h).1, (romV_ok h).2] at this
  exact this
theorem wr_i {m : Nat} (h0 : 1 ≤ m) (h : m ≤ 39999) : wrE m ⟨#[105]⟩ = 0 ∧ wrS m ⟨#[105]⟩ = ⟨(romL m).toArray⟩ ∧ wrE m ⟨#[73]⟩ = 0 ∧ wrS m ⟨#[73]⟩ = ⟨(upL (romL m)).toArray⟩ := by
  have h1 : fmtB ⟨#[105]⟩ = true := by decide
  have h1' : fmtB ⟨#[73]⟩ = true := by decide
  have h2 : rngB (m : Int) = true := by rw [rngB_iff]; omega
  have hx : romX m = romL m := by unfold romX; rw [if_pos h]
  have h3 : wrL m ⟨#[105]⟩ = romL m := by
    unfold wrL
    rw [if_neg (by omega), Int.toNat_natCast, ← hx]
    unfold bodyL
    rw [if_neg (by omega)]; rfl
  have h4 : wrL m ⟨#[73]⟩ = upL (romL m) := by
    unfold wrL
    rw [if_neg (by omega), Int.toNat_natCast, ← hx]
    unfold bodyL
    rw [if_neg (by omega)]; rfl
  refine ⟨by unfold wrE; rw [h1, h2]; rfl, ?_, by unfold wrE; rw [h1', h2]; rfl, ?_⟩
  · unfold wrS; rw [h1, h2, h3]; rfl
  · unfold wrS; rw [h1', h2, h4]; rfl
/-- RegisterRoman. -/
theorem lRoman (n : Int) (w : World) (hN : NumAt w) (hP : PowAt w) :
    Calls Tryd.prog 4 #[.int .i64 n] w fun e w' => e = .returned (.bool true) ∧ Below w.heap.size w w' := by
  obtain ⟨m0, hm, hx⟩ := u64_mod n 39999 (by omega) (by omega)
  have hx' : wrap64 ((IntKind.u64.wrap n).tmod 39999) = (m0 : Int) := hx
  clear hx
  obtain ⟨e1, s1, e2, s2⟩ := wr_i (m := 1 + m0) (by omega) (by omega)
  have H0 := Lib.hid (fun w hN hP => cWrite ((1 + m0 : Nat) : Int) ⟨#[105]⟩ (by decide) w hN hP)
  have H1 := Lib.hid (fun w hN hP => cWrite ((1 + m0 : Nat) : Int) ⟨#[73]⟩ (by decide) w hN hP)
  have H2 := Lib.hid (fun w hN hP => lSane w hN hP)
  have hl := romL_len (n := 1 + m0) (by omega)
  have H3 := Lib.hid (fun w hN hP => cRomanOk ⟨(romL (1 + m0)).toArray⟩ (1 + m0) ⟨by omega, by omega, .inl rfl⟩ (by rw [mk_size]; omega) w hN hP)
  have H4 := Lib.hid (fun w hN hP => cRomanOk ⟨(upL (romL (1 + m0))).toArray⟩ (1 + m0) ⟨by omega, by omega, .inr rfl⟩ (by rw [mk_size, upL, List.length_map]; omega) w hN hP)
  rw [e1, s1] at H0
  rw [e2, s2] at H1
  have hc : ((1 + m0 : Nat) : Int) = 1 + (m0 : Int) := by omega
  rw [hc] at H0 H1 H3 H4
  clear hc e1 s1 e2 s2 hl
  generalize (⟨(romL (1 + m0)).toArray⟩ : ByteArray) = S at H0 H3
  generalize (⟨(upL (romL (1 + m0))).toArray⟩ : ByteArray) = T at H1 H4
  go_enter Tryd.func4, Tryd.ntmps4
  go_wp2_with (first
    | (go_at_call 7; with_reducible refine (H0.out _ hN hP).mono ?_; rintro e w1 ⟨rfl, hb1⟩; have hN1 := hN.below hb1; have hP1 := hP.below hb1)
    | (go_at_call 7; with_reducible refine (H1.out _ hN1 hP1).mono ?_; rintro e w2 ⟨rfl, hb2⟩; have hN2 := hN1.below hb2; have hP2 := hP1.below hb2)
    | (go_at_call 9; with_reducible refine (H3.out _ hN2 hP2).mono ?_; rintro e w3 ⟨rfl, hb3⟩; have hN3 := hN2.below hb3; have hP3 := hP2.below hb3)
    | (go_at_call 9; with_reducible refine (H4.out _ hN3 hP3).mono ?_; rintro e w4 ⟨rfl, hb4⟩; have hN4 := hN3.below hb4; have hP4 := hP3.below hb4)
    | (go_at_call 6; refine (H2.out _ hN4 hP4).mono ?_; rintro e w5 ⟨rfl, hb5⟩))
  go_ret
  exact ⟨rfl, ntrans (ntrans (ntrans (ntrans hb1 hb2) hb3) hb4) hb5⟩
end Go.Proofs.YtaamjccffkdlhaaDoor
