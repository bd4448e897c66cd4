/- Walks: the methods of a nil book. -/
import Derived.Test.YtaamjccffkdlhaaGreatDoorRk
namespace Go.Proofs.YtaamjccffkdlhaaGreatDoor
open Go.RowKit

theorem nilCheck_ (s : ByteArray) (w : World) : Calls Tryz.prog 42 #[.pointer none, .string s] w fun e w' => e = .returned (.int .i64 1) ∧ w = w' := by
  go_enter Tryz.func42, Tryz.ntmps42
  go_wp2_with fail
  go_ret
  exact ⟨rfl, rfl⟩
theorem nilRead (s : ByteArray) (w : World) : Calls Tryz.prog 35 #[.pointer none, .string s] w fun e w' => e = .returned (.tuple #[.agg #[.int .i64 0, .int .i64 0, .string ⟨#[]⟩], .int .i64 1]) ∧ Below w.heap.size w w' := by
  have H := Lib.hid (fun w => nilCheck_ s w)
  go_enter Tryz.func35, Tryz.ntmps35
  go_wp2_with (go_at_call 42; refine (H.out _).mono ?_; rintro e w1 ⟨rfl, rfl⟩)
  exact bodyPost_ret (v := .tuple #[.agg #[.int .i64 0, .int .i64 0, .string ⟨#[]⟩], .int .i64 1]) (by simp [results, Tryz.results35, go_sem]) rfl ⟨rfl, (Below.refl _ _).alloc (Nat.le_refl _) _⟩
theorem nilValue (s : ByteArray) (w : World) : Calls Tryz.prog 13 #[.pointer none, .string s] w fun e w' => e = .returned (.tuple #[.int .i64 0, .int .i64 1]) ∧ Below w.heap.size w w' := by
  have HR := Lib.hid (fun w => nilRead s w)
  go_enter Tryz.func13, Tryz.ntmps13
  go_wp2_with (go_at_call 35; refine (HR.out _).mono ?_; rintro e w1 ⟨rfl, hb1⟩)
  go_ret2
  exact ⟨rfl, hb1.alloc hb1.size _⟩
theorem nilText (s : ByteArray) (w : World) : Calls Tryz.prog 14 #[.pointer none, .string s] w fun e w' => e = .returned (.tuple #[.string ⟨#[]⟩, .int .i64 1]) ∧ Below w.heap.size w w' := by
  have HR := Lib.hid (fun w => nilRead s w)
  go_enter Tryz.func14, Tryz.ntmps14
  go_wp2_with (go_at_call 35; refine (HR.out _).mono ?_; rintro e w1 ⟨rfl, hb1⟩)
  go_ret2
  exact ⟨rfl, hb1.alloc hb1.size _⟩
theorem nilFormatOf (s : ByteArray) (w : World) : Calls Tryz.prog 15 #[.pointer none, .string s] w fun e w' => e = .returned (.tuple #[.string ⟨#[]⟩, .int .i64 1]) ∧ Below w.heap.size w w' := by
  have HR := Lib.hid (fun w => nilRead s w)
  go_enter Tryz.func15, Tryz.ntmps15
  go_wp2_with (go_at_call 35; refine (HR.out _).mono ?_; rintro e w1 ⟨rfl, hb1⟩)
  go_ret2
  exact ⟨rfl, hb1.alloc hb1.size _⟩
theorem nilMove (s : ByteArray) (u : Bool) (w : World) : Calls Tryz.prog 16 #[.pointer none, .string s, .bool u] w fun e w' => e = .returned (.tuple #[.int .i64 0, .int .i64 1]) ∧ Below w.heap.size w w' := by
  have HR := Lib.hid (fun w => nilRead s w)
  go_enter Tryz.func16, Tryz.ntmps16
  go_wp2_with (go_at_call 35; refine (HR.out _).mono ?_; rintro e w1 ⟨rfl, hb1⟩)
  go_ret2
  exact ⟨rfl, hb1.alloc hb1.size _⟩
theorem nilRename (s t : ByteArray) (w : World) : Calls Tryz.prog 21 #[.pointer none, .string s, .string t] w fun e w' => e = .returned (.int .i64 1) ∧ Below w.heap.size w w' := by
  have HR := Lib.hid (fun w => nilRead s w)
  go_enter Tryz.func21, Tryz.ntmps21
  go_wp2_with (go_at_call 35; refine (HR.out _).mono ?_; rintro e w1 ⟨rfl, hb1⟩)
  go_ret
  exact ⟨rfl, hb1.alloc hb1.size _⟩
theorem nilchange (s : ByteArray) (k : Int) (f : Value) (w : World) : Calls Tryz.prog 36 #[.pointer none, .string s, .int .i64 k, f] w fun e w' => e = .returned (.int .i64 1) ∧ Below w.heap.size w w' := by
  have HR := Lib.hid (fun w => nilRead s w)
  go_enter Tryz.func36, Tryz.ntmps36
  go_wp2_with (go_at_call 35; refine (HR.out _).mono ?_; rintro e w1 ⟨rfl, hb1⟩)
  go_ret
  exact ⟨rfl, hb1.alloc hb1.size _⟩
theorem nilRemove (s : ByteArray) (w : World) : Calls Tryz.prog 20 #[.pointer none, .string s] w fun e w' => e = .returned (.int .i64 1) ∧ Below w.heap.size w w' := by
  have HC := Lib.hid (fun w => nilCheck_ s w)
  go_enter Tryz.func20, Tryz.ntmps20
  go_wp2_with (go_at_call 42; refine (HC.out _).mono ?_; rintro e w1 ⟨rfl, rfl⟩)
  go_ret
  exact ⟨rfl, Below.refl _ _⟩
theorem nilSet (s : ByteArray) (n : Int) (w : World) : Calls Tryz.prog 17 #[.pointer none, .string s, .int .i64 n] w fun e w' => e = .returned (.int .i64 1) ∧ Below w.heap.size w w' := by
  have HX := Lib.hid (fun w => cRng n w)
  have HG := Lib.hid (fun k f w => nilchange s k f w)
  go_enter Tryz.func17, Tryz.ntmps17
  go_wp2_with (first | (go_at_call 37; refine (HX.out _).mono ?_; rintro e w1 ⟨rfl, rfl⟩) | (go_at_call 36; refine (HG.out _ _ _).mono ?_; rintro e w1 ⟨rfl, hb1⟩))
  go_ret
  exact ⟨rfl, ((Below.refl _ _).alloc (Nat.le_refl _) _).trans (hb1.mono (by simp))⟩
theorem nilStep (s : ByteArray) (n : Int) (w : World) : Calls Tryz.prog 18 #[.pointer none, .string s, .int .i64 n] w fun e w' => e = .returned (.int .i64 1) ∧ Below w.heap.size w w' := by
  have HX := Lib.hid (fun w => cRng n w)
  have HG := Lib.hid (fun k f w => nilchange s k f w)
  go_enter Tryz.func18, Tryz.ntmps18
  go_wp2_with (first | (go_at_call 37; refine (HX.out _).mono ?_; rintro e w1 ⟨rfl, rfl⟩) | (go_at_call 36; refine (HG.out _ _ _).mono ?_; rintro e w1 ⟨rfl, hb1⟩))
  go_ret
  exact ⟨rfl, ((Below.refl _ _).alloc (Nat.le_refl _) _).trans (hb1.mono (by simp))⟩
theorem nilFormat (s t : ByteArray) (ht : t.size ≤ maxLen) (w : World) : Calls Tryz.prog 19 #[.pointer none, .string s, .string t] w fun e w' => e = .returned (.int .i64 1) ∧ Below w.heap.size w w' := by
  have HX := Lib.hid (fun w => cFmt t ht w)
  have HG := Lib.hid (fun k f w => nilchange s k f w)
  go_enter Tryz.func19, Tryz.ntmps19
  go_wp2_with (first | (go_at_call 40; refine (HX.out _).mono ?_; rintro e w1 ⟨rfl, rfl⟩) | (go_at_call 36; refine (HG.out _ _ _).mono ?_; rintro e w1 ⟨rfl, hb1⟩))
  go_ret
  exact ⟨rfl, ((Below.refl _ _).alloc (Nat.le_refl _) _).trans (hb1.mono (by simp))⟩
theorem nilHas (s : ByteArray) (w : World) : Calls Tryz.prog 22 #[.pointer none, .string s] w fun e w' => e = .returned (.bool false) ∧ Below w.heap.size w w' := by
  go_enter Tryz.func22, Tryz.ntmps22
  go_wp2_with fail
  go_ret
  exact ⟨rfl, Below.refl _ _⟩
theorem nilNames  (w : World) : Calls Tryz.prog 23 #[.pointer none] w fun e w' => e = .returned (.slice none 0 0) ∧ Below w.heap.size w w' := by
  go_enter Tryz.func23, Tryz.ntmps23
  go_wp2_with fail
  go_ret
  exact ⟨rfl, Below.refl _ _⟩
theorem nilCopy  (w : World) : Calls Tryz.prog 11 #[.pointer none] w fun e w' => e = .returned (.pointer none) ∧ Below w.heap.size w w' := by
  go_enter Tryz.func11, Tryz.ntmps11
  go_wp2_with fail
  go_ret
  exact ⟨rfl, Below.refl _ _⟩
set_option maxRecDepth 100000 in
set_option maxHeartbeats 1000000 in
/-- RegisterNil. -/
theorem lNil (s F : ByteArray) (n : Int) (hF : F.size ≤ maxLen) (w : World) (hN : NumAt w) (hP : PowAt w) :
    Calls Tryz.prog 5 #[.string s, .string F, .int .i64 n] w fun e w' => e = .returned (.bool true) ∧ Below w.heap.size w w' := by
  have H0 := Lib.hid (fun w => nilValue s w)
  have H1 := Lib.hid (fun w => nilText s w)
  have H2 := Lib.hid (fun w => nilFormatOf s w)
  have H3 := Lib.hid (fun w => nilMove s (decide (0 < n)) w)
  have H4 := Lib.hid (fun w => nilSet s n w)
  have H5 := Lib.hid (fun w => nilStep s n w)
  have H6 := Lib.hid (fun w => nilFormat s F hF w)
  have H7 := Lib.hid (fun w => nilRemove s w)
  have H8 := Lib.hid (fun w => nilRename s F w)
  have H9 := Lib.hid (fun w => nilHas s w)
  have H10 := Lib.hid (fun w => nilNames w)
  have H11 := Lib.hid (fun w => nilCopy w)
  have HS := Lib.hid (fun w hN hP => lSane w hN hP)
  have hb0 : Hid (Below w.heap.size w w) := Lib.hid (Below.refl _ _)
  go_enter Tryz.func5, Tryz.ntmps5
  go_wp2_with (first
    | (go_at_call 13; refine (H0.out _).mono ?_; rintro e w1 ⟨rfl, hb⟩; have hb1 := Lib.hid (ntrans hb0.out hb); clear hb)
    | (go_at_call 14; refine (H1.out _).mono ?_; rintro e w2 ⟨rfl, hb⟩; have hb2 := Lib.hid (ntrans hb1.out hb); clear hb)
    | (go_at_call 15; refine (H2.out _).mono ?_; rintro e w3 ⟨rfl, hb⟩; have hb3 := Lib.hid (ntrans hb2.out hb); clear hb)
    | (go_at_call 16; refine (H3.out _).mono ?_; rintro e w4 ⟨rfl, hb⟩; have hb4 := Lib.hid (ntrans hb3.out hb); clear hb)
    | (go_at_call 17; refine (H4.out _).mono ?_; rintro e w5 ⟨rfl, hb⟩; have hb5 := Lib.hid (ntrans hb4.out hb); clear hb)
    | (go_at_call 18; refine (H5.out _).mono ?_; rintro e w6 ⟨rfl, hb⟩; have hb6 := Lib.hid (ntrans hb5.out hb); clear hb)
    | (go_at_call 19; refine (H6.out _).mono ?_; rintro e w7 ⟨rfl, hb⟩; have hb7 := Lib.hid (ntrans hb6.out hb); clear hb)
    | (go_at_call 20; refine (H7.out _).mono ?_; rintro e w8 ⟨rfl, hb⟩; have hb8 := Lib.hid (ntrans hb7.out hb); clear hb)
    | (go_at_call 21; refine (H8.out _).mono ?_; rintro e w9 ⟨rfl, hb⟩; have hb9 := Lib.hid (ntrans hb8.out hb); clear hb)
    | (go_at_call 22; refine (H9.out _).mono ?_; rintro e w10 ⟨rfl, hb⟩; have hb10 := Lib.hid (ntrans hb9.out hb); clear hb)
    | (go_at_call 23; refine (H10.out _).mono ?_; rintro e w11 ⟨rfl, hb⟩; have hb11 := Lib.hid (ntrans hb10.out hb); clear hb)
    | (go_at_call 11; refine (H11.out _).mono ?_; rintro e w12 ⟨rfl, hb⟩; have hb12 := Lib.hid (ntrans hb11.out hb); clear hb)
    | (go_at_call 7; refine (HS.out _ (hN.below hb12.out) (hP.below hb12.out)).mono ?_; rintro e w13 ⟨rfl, hb⟩; have hb13 := Lib.hid (ntrans hb12.out hb); clear hb))
  go_ret
  exact ⟨rfl, hb13.out⟩
end Go.Proofs.YtaamjccffkdlhaaGreatDoor
