/- Walks: the document's Write. -/
import Derived.Test.YtaamjccffkdlhaaGreatDoorRo
import Derived.Test.YtaamjccffkdlhaaGreatDoorRc
import Derived.Test.YtaamjccffkdlhaaGreatDoorRk
namespace Go.Proofs.YtaamjccffkdlhaaGreatDoor
open Go.RowKit

theorem upL_ltr (n : Nat) : upL (ltr 97 n) = ltr 65 n := by
  induction n using Nat.strongRecOn with
  | ind n ih =>
    by_cases h : n = 0
    · subst h; rw [ltr_0, ltr_0]; rfl
    · rw [ltr_pos 97 h, ltr_pos 65 h]
      have e : ∀ r : Fin 26, Lib.upperB (97 + r.val).toUInt8 = (65 + r.val).toUInt8 := by decide
      have := ih ((n - 1) / 26) (by omega)
      unfold upL at this ⊢
      rw [List.map_append, this]
      congr 1
      exact congrArg (fun x => [x]) (e ⟨(n - 1) % 26, Nat.mod_lt _ (by omega)⟩)
theorem body_0 (F : ByteArray) (h : F.size = 1) : bodyL 0 F = [48] := by
  unfold bodyL
  rw [if_pos rfl, h, padL_one, digL, dif_pos (by omega)]; rfl
set_option maxRecDepth 100000 in
theorem nW0i (w : World) :
    Calls Tryz.prog 70 #[.int .i64 0, .string ⟨#[105]⟩] w fun e w' => e = .returned (.tuple #[.string ⟨(bodyL 0 ⟨#[105]⟩).toArray⟩, .int .i64 0]) ∧ Below w.heap.size w w' := by
  rw [body_0 ⟨#[105]⟩ rfl]
  have H1 := Lib.hid (fun w => nForm ⟨#[105]⟩ (by decide) w)
  rw [show fmtB ⟨#[105]⟩ = true by decide] at H1
  have H2 := Lib.hid (fun w => nFit 0 w)
  rw [show rngB 0 = true by decide] at H2
  have H3 : Hid (∀ w, Calls Tryz.prog 46 #[.int .i64 0] w fun e w' => e = .returned (.string ⟨(digL 0).toArray⟩) ∧ Below w.heap.size w w') := Lib.hid (fun w => nDig 0 (by omega) w)
  go_enter Tryz.func70, Tryz.ntmps70
  go_wp2_with (first
    | (go_at_call 52; refine (H1.out _).mono ?_; rintro e w1 ⟨rfl, rfl⟩)
    | (go_at_call 49; refine (H2.out _).mono ?_; rintro e w1 ⟨rfl, rfl⟩)
    | (go_at_call 46; with_reducible refine (H3.out _).mono ?_; rintro e w1 ⟨rfl, hb1⟩))
  go_ret2
  exact ⟨rfl, hb1⟩
set_option maxRecDepth 100000 in
theorem nW0I (w : World) :
    Calls Tryz.prog 70 #[.int .i64 0, .string ⟨#[73]⟩] w fun e w' => e = .returned (.tuple #[.string ⟨(bodyL 0 ⟨#[73]⟩).toArray⟩, .int .i64 0]) ∧ Below w.heap.size w w' := by
  rw [body_0 ⟨#[73]⟩ rfl]
  have H1 := Lib.hid (fun w => nForm ⟨#[73]⟩ (by decide) w)
  rw [show fmtB ⟨#[73]⟩ = true by decide] at H1
  have H2 := Lib.hid (fun w => nFit 0 w)
  rw [show rngB 0 = true by decide] at H2
  have H3 : Hid (∀ w, Calls Tryz.prog 46 #[.int .i64 0] w fun e w' => e = .returned (.string ⟨(digL 0).toArray⟩) ∧ Below w.heap.size w w') := Lib.hid (fun w => nDig 0 (by omega) w)
  have H5 : Hid (∀ w, Calls Tryz.prog 86 #[.string ⟨#[48]⟩] w fun e w' => e = .returned (.string ⟨#[48]⟩) ∧ Below w.heap.size w w') := Lib.hid (fun w => nGreat ⟨#[48]⟩ (by decide) w)
  go_enter Tryz.func70, Tryz.ntmps70
  go_wp2_with (first
    | (go_at_call 52; refine (H1.out _).mono ?_; rintro e w1 ⟨rfl, rfl⟩)
    | (go_at_call 49; refine (H2.out _).mono ?_; rintro e w1 ⟨rfl, rfl⟩)
    | (go_at_call 46; with_reducible refine (H3.out _).mono ?_; rintro e w1 ⟨rfl, hb1⟩)
    | (go_at_call 86; with_reducible refine (H5.out _).mono ?_; rintro e w2 ⟨rfl, hb2⟩))
  go_ret2
  exact ⟨rfl, ntrans hb1 hb2⟩
set_option maxRecDepth 100000 in
theorem nW0a (w : World) :
    Calls Tryz.prog 70 #[.int .i64 0, .string ⟨#[97]⟩] w fun e w' => e = .returned (.tuple #[.string ⟨(bodyL 0 ⟨#[97]⟩).toArray⟩, .int .i64 0]) ∧ Below w.heap.size w w' := by
  rw [body_0 ⟨#[97]⟩ rfl]
  have H1 := Lib.hid (fun w => nForm ⟨#[97]⟩ (by decide) w)
  rw [show fmtB ⟨#[97]⟩ = true by decide] at H1
  have H2 := Lib.hid (fun w => nFit 0 w)
  rw [show rngB 0 = true by decide] at H2
  have H3 : Hid (∀ w, Calls Tryz.prog 46 #[.int .i64 0] w fun e w' => e = .returned (.string ⟨(digL 0).toArray⟩) ∧ Below w.heap.size w w') := Lib.hid (fun w => nDig 0 (by omega) w)
  go_enter Tryz.func70, Tryz.ntmps70
  go_wp2_with (first
    | (go_at_call 52; refine (H1.out _).mono ?_; rintro e w1 ⟨rfl, rfl⟩)
    | (go_at_call 49; refine (H2.out _).mono ?_; rintro e w1 ⟨rfl, rfl⟩)
    | (go_at_call 46; with_reducible refine (H3.out _).mono ?_; rintro e w1 ⟨rfl, hb1⟩))
  go_ret2
  exact ⟨rfl, hb1⟩
set_option maxRecDepth 100000 in
theorem nW0A (w : World) :
    Calls Tryz.prog 70 #[.int .i64 0, .string ⟨#[65]⟩] w fun e w' => e = .returned (.tuple #[.string ⟨(bodyL 0 ⟨#[65]⟩).toArray⟩, .int .i64 0]) ∧ Below w.heap.size w w' := by
  rw [body_0 ⟨#[65]⟩ rfl]
  have H1 := Lib.hid (fun w => nForm ⟨#[65]⟩ (by decide) w)
  rw [show fmtB ⟨#[65]⟩ = true by decide] at H1
  have H2 := Lib.hid (fun w => nFit 0 w)
  rw [show rngB 0 = true by decide] at H2
  have H3 : Hid (∀ w, Calls Tryz.prog 46 #[.int .i64 0] w fun e w' => e = .returned (.string ⟨(digL 0).toArray⟩) ∧ Below w.heap.size w w') := Lib.hid (fun w => nDig 0 (by omega) w)
  have H5 : Hid (∀ w, Calls Tryz.prog 86 #[.string ⟨#[48]⟩] w fun e w' => e = .returned (.string ⟨#[48]⟩) ∧ Below w.heap.size w w') := Lib.hid (fun w => nGreat ⟨#[48]⟩ (by decide) w)
  go_enter Tryz.func70, Tryz.ntmps70
  go_wp2_with (first
    | (go_at_call 52; refine (H1.out _).mono ?_; rintro e w1 ⟨rfl, rfl⟩)
    | (go_at_call 49; refine (H2.out _).mono ?_; rintro e w1 ⟨rfl, rfl⟩)
    | (go_at_call 46; with_reducible refine (H3.out _).mono ?_; rintro e w1 ⟨rfl, hb1⟩)
    | (go_at_call 86; with_reducible refine (H5.out _).mono ?_; rintro e w2 ⟨rfl, hb2⟩))
  go_ret2
  exact ⟨rfl, ntrans hb1 hb2⟩
set_option maxRecDepth 100000 in
theorem nWi (n : Nat) (hn : n ≤ 1000000000) (h0 : 1 ≤ n) (h9 : n ≤ 39999) (w : World) :
    Calls Tryz.prog 70 #[.int .i64 n, .string ⟨#[105]⟩] w fun e w' => e = .returned (.tuple #[.string ⟨(bodyL n ⟨#[105]⟩).toArray⟩, .int .i64 0]) ∧ Below w.heap.size w w' := by
  have hb : bodyL n ⟨#[105]⟩ = romL n := by exact (show bodyL n ⟨#[105]⟩ = romX n by unfold bodyL; rw [if_neg (by omega)]; rfl).trans (by unfold romX; rw [if_pos (by omega)])
  rw [hb]; clear hb
  have H1 := Lib.hid (fun w => nForm ⟨#[105]⟩ (by decide) w)
  rw [show fmtB ⟨#[105]⟩ = true by decide] at H1
  have H2 := Lib.hid (fun w => nFit (n : Int) w)
  rw [show rngB (n : Int) = true by rw [rngB_iff]; omega] at H2
  have H3 := Lib.hid (fun w => nDig n (by omega) w)
  have H4 := Lib.hid (fun w => nRom n h9 w)
  generalize (⟨(romL n).toArray⟩ : ByteArray) = R at H4 ⊢
  generalize (⟨(digL n).toArray⟩ : ByteArray) = S at H3
  go_enter Tryz.func70, Tryz.ntmps70
  go_wp2_with (first
    | (go_at_call 52; refine (H1.out _).mono ?_; rintro e w1 ⟨rfl, rfl⟩)
    | (go_at_call 49; refine (H2.out _).mono ?_; rintro e w1 ⟨rfl, rfl⟩)
    | (go_at_call 46; with_reducible refine (H3.out _).mono ?_; rintro e w1 ⟨rfl, hb1⟩)
    | (go_at_call 84; with_reducible refine (H4.out _).mono ?_; rintro e w2 ⟨rfl, hb2⟩))
  go_ret2
  exact ⟨rfl, ntrans hb1 hb2⟩
set_option maxRecDepth 100000 in
theorem nWix (n : Nat) (hn : n ≤ 1000000000) (h9 : ¬ n ≤ 39999) (w : World) :
    Calls Tryz.prog 70 #[.int .i64 n, .string ⟨#[105]⟩] w fun e w' => e = .returned (.tuple #[.string ⟨(bodyL n ⟨#[105]⟩).toArray⟩, .int .i64 0]) ∧ Below w.heap.size w w' := by
  have hb : bodyL n ⟨#[105]⟩ = digL n := by exact (show bodyL n ⟨#[105]⟩ = romX n by unfold bodyL; rw [if_neg (by omega)]; rfl).trans (by unfold romX; rw [if_neg (by omega)])
  rw [hb]; clear hb
  have H1 := Lib.hid (fun w => nForm ⟨#[105]⟩ (by decide) w)
  rw [show fmtB ⟨#[105]⟩ = true by decide] at H1
  have H2 := Lib.hid (fun w => nFit (n : Int) w)
  rw [show rngB (n : Int) = true by rw [rngB_iff]; omega] at H2
  have H3 := Lib.hid (fun w => nDig n (by omega) w)
  generalize (⟨(digL n).toArray⟩ : ByteArray) = S at H3 ⊢
  go_enter Tryz.func70, Tryz.ntmps70
  go_wp2_with (first
    | (go_at_call 52; refine (H1.out _).mono ?_; rintro e w1 ⟨rfl, rfl⟩)
    | (go_at_call 49; refine (H2.out _).mono ?_; rintro e w1 ⟨rfl, rfl⟩)
    | (go_at_call 46; with_reducible refine (H3.out _).mono ?_; rintro e w1 ⟨rfl, hb1⟩))
  go_ret2
  exact ⟨rfl, hb1⟩
set_option maxRecDepth 100000 in
theorem nWI (n : Nat) (hn : n ≤ 1000000000) (h0 : 1 ≤ n) (h9 : n ≤ 39999) (w : World) :
    Calls Tryz.prog 70 #[.int .i64 n, .string ⟨#[73]⟩] w fun e w' => e = .returned (.tuple #[.string ⟨(bodyL n ⟨#[73]⟩).toArray⟩, .int .i64 0]) ∧ Below w.heap.size w w' := by
  have hb : bodyL n ⟨#[73]⟩ = upL (romL n) := by exact (show bodyL n ⟨#[73]⟩ = upL (romX n) by unfold bodyL; rw [if_neg (by omega)]; rfl).trans (by unfold romX; rw [if_pos (by omega)])
  rw [hb]; clear hb
  have H1 := Lib.hid (fun w => nForm ⟨#[73]⟩ (by decide) w)
  rw [show fmtB ⟨#[73]⟩ = true by decide] at H1
  have H2 := Lib.hid (fun w => nFit (n : Int) w)
  rw [show rngB (n : Int) = true by rw [rngB_iff]; omega] at H2
  have H3 := Lib.hid (fun w => nDig n (by omega) w)
  have H4 := Lib.hid (fun w => nRom n h9 w)
  have H5 : Hid (∀ w, Calls Tryz.prog 86 #[.string ⟨(romL n).toArray⟩] w fun e w' => e = .returned (.string ⟨(upL (romL n)).toArray⟩) ∧ Below w.heap.size w w') := Lib.hid (fun w => by
    have := nGreat ⟨(romL n).toArray⟩ (by rw [mk_size]; have := romL_len h9; omega) w
    simpa using this)
  generalize (⟨(upL (romL n)).toArray⟩ : ByteArray) = T at H5 ⊢
  generalize (⟨(romL n).toArray⟩ : ByteArray) = R at H4 H5
  generalize (⟨(digL n).toArray⟩ : ByteArray) = S at H3
  go_enter Tryz.func70, Tryz.ntmps70
  go_wp2_with (first
    | (go_at_call 52; refine (H1.out _).mono ?_; rintro e w1 ⟨rfl, rfl⟩)
    | (go_at_call 49; refine (H2.out _).mono ?_; rintro e w1 ⟨rfl, rfl⟩)
    | (go_at_call 46; with_reducible refine (H3.out _).mono ?_; rintro e w1 ⟨rfl, hb1⟩)
    | (go_at_call 84; with_reducible refine (H4.out _).mono ?_; rintro e w2 ⟨rfl, hb2⟩)
    | (go_at_call 86; with_reducible refine (H5.out _).mono ?_; rintro e w3 ⟨rfl, hb3⟩))
  go_ret2
  exact ⟨rfl, ntrans (ntrans hb1 hb2) hb3⟩
set_option maxRecDepth 100000 in
theorem nWIx (n : Nat) (hn : n ≤ 1000000000) (h9 : ¬ n ≤ 39999) (w : World) :
    Calls Tryz.prog 70 #[.int .i64 n, .string ⟨#[73]⟩] w fun e w' => e = .returned (.tuple #[.string ⟨(bodyL n ⟨#[73]⟩).toArray⟩, .int .i64 0]) ∧ Below w.heap.size w w' := by
  have hb : bodyL n ⟨#[73]⟩ = digL n := by exact (show bodyL n ⟨#[73]⟩ = upL (romX n) by unfold bodyL; rw [if_neg (by omega)]; rfl).trans (by unfold romX; rw [if_neg (by omega), (up_dig n).1])
  rw [hb]; clear hb
  have H1 := Lib.hid (fun w => nForm ⟨#[73]⟩ (by decide) w)
  rw [show fmtB ⟨#[73]⟩ = true by decide] at H1
  have H2 := Lib.hid (fun w => nFit (n : Int) w)
  rw [show rngB (n : Int) = true by rw [rngB_iff]; omega] at H2
  have H3 := Lib.hid (fun w => nDig n (by omega) w)
  have H5 : Hid (∀ w, Calls Tryz.prog 86 #[.string ⟨(digL n).toArray⟩] w fun e w' => e = .returned (.string ⟨(digL n).toArray⟩) ∧ Below w.heap.size w w') := Lib.hid (fun w => by
    have := nGreat ⟨(digL n).toArray⟩ (by rw [mk_size]; have := digL_9 hn; omega) w
    rw [show (⟨(digL n).toArray⟩ : ByteArray).data.toList = digL n from rfl, (up_dig n).1] at this
    exact this)
  generalize (⟨(digL n).toArray⟩ : ByteArray) = S at H3 H5 ⊢
  go_enter Tryz.func70, Tryz.ntmps70
  go_wp2_with (first
    | (go_at_call 52; refine (H1.out _).mono ?_; rintro e w1 ⟨rfl, rfl⟩)
    | (go_at_call 49; refine (H2.out _).mono ?_; rintro e w1 ⟨rfl, rfl⟩)
    | (go_at_call 46; with_reducible refine (H3.out _).mono ?_; rintro e w1 ⟨rfl, hb1⟩)
    | (go_at_call 86; with_reducible refine (H5.out _).mono ?_; rintro e w2 ⟨rfl, hb2⟩))
  go_ret2
  exact ⟨rfl, ntrans hb1 hb2⟩
set_option maxRecDepth 100000 in
theorem nWa (n : Nat) (hn : n ≤ 1000000000) (h0 : 1 ≤ n) (w : World) :
    Calls Tryz.prog 70 #[.int .i64 n, .string ⟨#[97]⟩] w fun e w' => e = .returned (.tuple #[.string ⟨(bodyL n ⟨#[97]⟩).toArray⟩, .int .i64 0]) ∧ Below w.heap.size w w' := by
  have hb : bodyL n ⟨#[97]⟩ = ltr 97 n := by unfold bodyL; rw [if_neg (by omega)]; rfl
  rw [hb]; clear hb
  have H1 := Lib.hid (fun w => nForm ⟨#[97]⟩ (by decide) w)
  rw [show fmtB ⟨#[97]⟩ = true by decide] at H1
  have H2 := Lib.hid (fun w => nFit (n : Int) w)
  rw [show rngB (n : Int) = true by rw [rngB_iff]; omega] at H2
  have H3 := Lib.hid (fun w => nDig n (by omega) w)
  have H4 := Lib.hid (fun w => nLet n (by omega) w)
  generalize (⟨(ltr 97 n).toArray⟩ : ByteArray) = R at H4 ⊢
  generalize (⟨(digL n).toArray⟩ : ByteArray) = S at H3
  go_enter Tryz.func70, Tryz.ntmps70
  go_wp2_with (first
    | (go_at_call 52; refine (H1.out _).mono ?_; rintro e w1 ⟨rfl, rfl⟩)
    | (go_at_call 49; refine (H2.out _).mono ?_; rintro e w1 ⟨rfl, rfl⟩)
    | (go_at_call 46; with_reducible refine (H3.out _).mono ?_; rintro e w1 ⟨rfl, hb1⟩)
    | (go_at_call 85; with_reducible refine (H4.out _).mono ?_; rintro e w2 ⟨rfl, hb2⟩))
  go_ret2
  exact ⟨rfl, ntrans hb1 hb2⟩
set_option maxRecDepth 100000 in
theorem nWA (n : Nat) (hn : n ≤ 1000000000) (h0 : 1 ≤ n) (w : World) :
    Calls Tryz.prog 70 #[.int .i64 n, .string ⟨#[65]⟩] w fun e w' => e = .returned (.tuple #[.string ⟨(bodyL n ⟨#[65]⟩).toArray⟩, .int .i64 0]) ∧ Below w.heap.size w w' := by
  have hb : bodyL n ⟨#[65]⟩ = ltr 65 n := by unfold bodyL; rw [if_neg (by omega)]; rfl
  rw [hb]; clear hb
  have H1 := Lib.hid (fun w => nForm ⟨#[65]⟩ (by decide) w)
  rw [show fmtB ⟨#[65]⟩ = true by decide] at H1
  have H2 := Lib.hid (fun w => nFit (n : Int) w)
  rw [show rngB (n : Int) = true by rw [rngB_iff]; omega] at H2
  have H3 := Lib.hid (fun w => nDig n (by omega) w)
  have H4 := Lib.hid (fun w => nLet n (by omega) w)
  have H5 : Hid (∀ w, Calls Tryz.prog 86 #[.string ⟨(ltr 97 n).toArray⟩] w fun e w' => e = .returned (.string ⟨(ltr 65 n).toArray⟩) ∧ Below w.heap.size w w') := Lib.hid (fun w => by
    have := nGreat ⟨(ltr 97 n).toArray⟩ (by rw [mk_size]; have := ltr_small (f := 97) hn; omega) w
    rw [show (⟨(ltr 97 n).toArray⟩ : ByteArray).data.toList = ltr 97 n from rfl, upL_ltr] at this
    exact this)
  generalize (⟨(ltr 65 n).toArray⟩ : ByteArray) = T at H5 ⊢
  generalize (⟨(ltr 97 n).toArray⟩ : ByteArray) = R at H4 H5
  generalize (⟨(digL n).toArray⟩ : ByteArray) = S at H3
  go_enter Tryz.func70, Tryz.ntmps70
  go_wp2_with (first
    | (go_at_call 52; refine (H1.out _).mono ?_; rintro e w1 ⟨rfl, rfl⟩)
    | (go_at_call 49; refine (H2.out _).mono ?_; rintro e w1 ⟨rfl, rfl⟩)
    | (go_at_call 46; with_reducible refine (H3.out _).mono ?_; rintro e w1 ⟨rfl, hb1⟩)
    | (go_at_call 85; with_reducible refine (H4.out _).mono ?_; rintro e w2 ⟨rfl, hb2⟩)
    | (go_at_call 86; with_reducible refine (H5.out _).mono ?_; rintro e w3 ⟨rfl, hb3⟩))
  go_ret2
  exact ⟨rfl, ntrans (ntrans hb1 hb2) hb3⟩
end Go.Proofs.YtaamjccffkdlhaaGreatDoor
