/- Walk: the statement on what is written and read. -/
import Derived.Test.YtaamjccffkdlhaaDoorRn
import Derived.Test.YtaamjccffkdlhaaDoorRr
import Derived.Shelf.Strings.CaseAny
namespace Go.Proofs.YtaamjccffkdlhaaDoor
open Go.RowKit

theorem romL_pos {M : Nat} (h : 1 ≤ M) : romL M ≠ [] := by
  intro e
  have h2 := sbt_rom (n := M)
  rw [e] at h2
  have : (0 : Int) = M := Option.some.inj h2
  omega
theorem refA_ok {s : List UInt8} {M : Nat} (h : romOk s M) : refA s (loL s) = ((M : Int), 0) := by
  have hl : loL s = romL M := by
    obtain ⟨h1, h2, h3 | h3⟩ := h
    · rw [h3, lo_rom]
    · rw [h3, lo_up_rom]
  have hok : refOk s (loL s) = true := by
    rw [hl]
    unfold refOk
    have hne : s.isEmpty = false := by
      obtain ⟨h1, h2, h3 | h3⟩ := h
      · rw [h3]; simpa using romL_pos h1
      · rw [h3]; simpa [upL] using romL_pos h1
    rw [hne]
    obtain ⟨h1, h2, h3 | h3⟩ := h
    · rw [h3]; simp
    · rw [h3]; simp
  unfold refA
  rw [hok, if_pos rfl, hl, sbt_rom]
  unfold refT
  simp only [Int.toNat_natCast]
  rw [if_pos (by refine ⟨?_, ?_, ?_⟩ <;> first | trivial | (have := h.1; have := h.2.1; omega))]
theorem refA_no {s : List UInt8} (h : ∀ M, ¬ romOk s M) : refA s (loL s) = (0, 4) := by
  unfold refA
  split
  · rename_i hok
    unfold refT
    split
    · rfl
    · rename_i n hn
      split
      · rename_i hc
        exfalso
        obtain ⟨h1, h2, h3⟩ := hc
        refine h n.toNat ⟨by omega, by omega, ?_⟩
        unfold refOk at hok
        simp only [Bool.and_eq_true, Bool.or_eq_true, beq_iff_eq] at hok
        rcases hok.2 with e | e
        · left; rw [e, h3]
        · right
          rw [h3]
          exact e
      · rfl
  · rfl
theorem romX_small (n : Nat) : ∀ c ∈ romX n, c.toNat < 128 := romX_ascii n
/-- Roman, of any text. -/
theorem cRoman (s : ByteArray) (hs : s.size ≤ 200) (w : World) (hN : NumAt w) (hP : PowAt w) (hV : Lib.CaseVar 1 Lib.caseA w) (hT : Lib.Utf8Tabs 3 4 w) :
    Calls Tryd.prog 9 #[.string s] w fun e w' => e = .returned (.tuple #[.int .i64 (refA s.data.toList (loL s.data.toList)).1, .int .i64 (refA s.data.toList (loL s.data.toList)).2]) ∧ Below w.heap.size w w' := by
  by_cases ha : ∀ c ∈ s.data.toList, c.toNat < 128
  · have := cRoman0 s (loL s.data.toList) (by rw [loL, List.length_map]; rw [size_len] at hs; omega) w hN hP (cLow s (by omega) ha w)
    by_cases hok : ∃ M, romOk s.data.toList M
    · obtain ⟨M, hM⟩ := hok
      rw [(romOk_rd hM).1, (romV_ok hM).1, (romV_ok hM).2] at this
      rw [refA_ok hM]
      exact this
    · have hno : ∀ M, ¬ romOk s.data.toList M := fun M h => hok ⟨M, h⟩
      rw [(romV_no rfl hno).1, (romV_no rfl hno).2] at this
      rw [refA_no hno]
      exact this
  · have hno : ∀ M, ¬ romOk s.data.toList M := fun M h => ha (romOk_rd h).2
    have hlen : (Lib.toLowerD s.data.toList).length ≤ 1000 := by
      have := mapD_4 Lib.toLowerU _ s.data.toList (Nat.le_refl _)
      show (Lib.mapD Lib.toLowerU s.data.toList).length ≤ 1000
      rw [size_len] at hs
      omega
    have := cRoman0 s (Lib.toLowerD s.data.toList) hlen w hN hP (Tryd.strings_ToLower_any s w (by omega) hV hT)
    have hc : ∀ N, ¬ (1 ≤ N ∧ (s.data.toList = romX N ∨ s.data.toList = upL (romX N))) := fun N hh => by
      rcases hh.2 with e | e
      · exact ha (by rw [e]; exact romX_ascii N)
      · exact ha (by rw [e]; exact up_ascii (romX_ascii N))
    rw [show romV s (rdN (Lib.toLowerD s.data.toList)) = 0 by unfold romV; rw [if_neg (hc _)], show romE s (rdN (Lib.toLowerD s.data.toList)) = 4 by unfold romE; rw [if_neg (hc _)]] at this
    rw [refA_no hno]
    exact this
set_option maxRecDepth 100000 in
/-- RegisterWrites. -/
theorem lWrites (n : Int) (F s : ByteArray) (hF : F.size ≤ maxLen) (hs : s.size ≤ maxLen) (w : World) (hN : NumAt w) (hP : PowAt w) (hV : Lib.CaseVar 1 Lib.caseA w) (hT : Lib.Utf8Tabs 3 4 w) :
    Calls Tryd.prog 3 #[.int .i64 n, .string F, .string s] w fun e w' => e = .returned (.bool true) ∧ Below w.heap.size w w' := by
  have hFn : F.size ≤ 9223372036854775807 := by unfold maxLen at hF; omega
  have hsn : s.size ≤ 9223372036854775807 := by unfold maxLen at hs; omega
  have HS := Lib.hid (fun w hN hP => lSane w hN hP)
  by_cases h1 : 200 < s.size
  · go_enter Tryd.func3, Tryd.ntmps3
    go_wp2_with (go_at_call 6; refine (HS.out _ hN hP).mono ?_; rintro e w5 ⟨rfl, hb5⟩)
    go_ret
    exact ⟨rfl, hb5⟩
  · by_cases h2 : 50 < F.size
    · go_enter Tryd.func3, Tryd.ntmps3
      go_wp2_with (go_at_call 6; refine (HS.out _ hN hP).mono ?_; rintro e w5 ⟨rfl, hb5⟩)
      go_ret
      exact ⟨rfl, hb5⟩
    · have H0 := Lib.hid (fun w hN hP => cWrite n F hF w hN hP)
      have H1 := Lib.hid (fun w => nWrite n F hF w)
      have H2 := Lib.hid (fun w hN hP hV hT => cRoman s (by omega) w hN hP hV hT)
      have H3 := Lib.hid (fun w => nRoman0 s (by omega) w)
      have HVT := Lib.hid (And.intro hV hT)
      clear hV hT
      generalize wrS n F = A at H0 H1
      generalize wrE n F = B at H0 H1
      generalize (refA s.data.toList (loL s.data.toList)).1 = C at H2 H3
      generalize (refA s.data.toList (loL s.data.toList)).2 = D at H2 H3
      go_enter Tryd.func3, Tryd.ntmps3
      go_wp2_with (first
        | (go_at_call 7; refine (H0.out _ hN hP).mono ?_; rintro e w1 ⟨rfl, hb1⟩; have HN1 := Lib.hid (hN.below hb1); have HP1 := Lib.hid (hP.below hb1); have HVT1 := Lib.hid (And.intro (Lib.CaseVar_below HVT.out.1 hb1) (Utf8Tabs_below HVT.out.2 hb1)))
        | (go_at_call 8; refine (H1.out _).mono ?_; rintro e w2 ⟨rfl, hb2⟩; have HN2 := Lib.hid (HN1.out.below hb2); have HP2 := Lib.hid (HP1.out.below hb2); have HVT2 := Lib.hid (And.intro (Lib.CaseVar_below HVT1.out.1 hb2) (Utf8Tabs_below HVT1.out.2 hb2)))
        | (go_at_call 9; refine (H2.out _ HN2.out HP2.out HVT2.out.1 HVT2.out.2).mono ?_; rintro e w3 ⟨rfl, hb3⟩; have HN3 := Lib.hid (HN2.out.below hb3); have HP3 := Lib.hid (HP2.out.below hb3))
        | (go_at_call 10; refine (H3.out _).mono ?_; rintro e w4 ⟨rfl, hb4⟩; have HN4 := Lib.hid (HN3.out.below hb4); have HP4 := Lib.hid (HP3.out.below hb4))
        | (go_at_call 6; refine (HS.out _ HN4.out HP4.out).mono ?_; rintro e w5 ⟨rfl, hb5⟩))
      go_ret
      exact ⟨rfl, ntrans (ntrans (ntrans (ntrans hb1 hb2) hb3) hb4) hb5⟩
end Go.Proofs.YtaamjccffkdlhaaDoor
