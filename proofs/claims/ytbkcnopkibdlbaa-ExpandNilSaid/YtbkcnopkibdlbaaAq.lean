/- Walk: the statement on nobody who is asked. -/
import Derived.Test.YtbkcnopkibdlbaaAl
namespace Go.Proofs.Ytbkcnopkibdlbaa
open Go.RowKit

/-- ExpandNil. -/
theorem lNil (s : ByteArray) (cp : Bool) (w : World) : Calls Try.prog 6 #[.string s, .bool cp] w fun e w' => e = .returned (.bool true) ∧ Below w.heap.size w w' := by
  have H := Lib.hid (fun w => cExpandNil s cp w)
  have HS := Lib.hid (fun w => lSane w)
  go_enter Try.func6, Try.ntmps6
  go_wp2_with (first
    | (go_at_call 12; refine (H.out _).mono ?_; rintro e w1 ⟨rfl, hb1⟩)
    | (go_at_call 8; refine (HS.out _).mono ?_; rintro e w2 ⟨rfl, hb2⟩))
  go_ret
  exact ⟨rfl, ntrans hb1 hb2⟩
end Go.Proofs.Ytbkcnopkibdlbaa
