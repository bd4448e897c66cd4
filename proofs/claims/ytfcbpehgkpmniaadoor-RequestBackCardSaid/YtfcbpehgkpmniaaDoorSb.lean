/- What the rows' list gives: a world in which each listed variable holds what its text lays. -/
import Derived.Test.YtfcbpehgkpmniaaDoorSa
import Derived.Lib.LaidU8
import Derived.PinnedBridge
namespace Go.Proofs.YtfcbpehgkpmniaaDoor
open Go.ChangeShapes Go.WideShapes Go.ChangeAt Go.RowKit Go.Joins Go.Deep
open Go.Lib

noncomputable def smalls : List (String × DataW Unit) := [("unicode/utf8.acceptRanges", Rows.laid_unicode_utf8_acceptRanges)]
/-- The rows' list. -/
noncomputable def lst : List (String × DataW Unit) := smalls ++ [("unicode/utf8.first", Rows.laid_unicode_utf8_first)]
/-- The cells of a datum of numbers and strings. -/
noncomputable def litCells : Nat → DataW Unit → List Value
  | 0, _ => []
  | _ + 1, .lit (.int k n) => [.int k n]
  | _ + 1, .lit (.string s) => [.string ⟨s.toArray⟩]
  | f + 1, .agg l => l.flatMap (litCells f)
  | _ + 1, _ => []
noncomputable def putStep (h : Array Obj) (x : String × DataW Unit) : Array Obj :=
  match Tryd.prog.globalNamed x.1 with
  | some g => h.modify g (fun o => match o with | .cells _ t frozen => .cells (litCells 9 x.2).toArray t frozen | o => o)
  | none => h
/-- A world for a row's witness: each listed variable holds what its text lays. -/
noncomputable def laidWorld (os : Os) : World := { baseWorld os with heap := (smalls ++ [("unicode/utf8.first", Lib.firstData)]).foldl putStep (baseWorld os).heap }
theorem laid_met (os : Os) (args : Array Value) : laidMet Tryd.prog lst ((laidWorld os).forCall (fun _ _ => 0) ⟨#[], args, []⟩).memory := by
  have h1 : LaidIn Tryd.prog ((laidWorld os).forCall (fun _ _ => 0) ⟨#[], args, []⟩).memory smalls [2] :=
    LaidIn.of_run _ 9 (by kernel_rfl) (by kernel_rfl) (by kernel_rfl) (by kernel_rfl)
  have h3 : LaidIn Tryd.prog ((laidWorld os).forCall (fun _ _ => 0) ⟨#[], args, []⟩).memory [("unicode/utf8.first", Lib.firstData)] [1] :=
    LaidIn.of_run _ 9 (by kernel_rfl) (by kernel_rfl) (by kernel_rfl) (by kernel_rfl)
  have h := h1.append h3 (by kernel_rfl)
  have e : lst = smalls ++ [("unicode/utf8.first", Lib.firstData)] := by
    unfold lst
    rw [show Rows.laid_unicode_utf8_first = Lib.firstData from Pinned.utf8First_eq]
  rw [e]
  exact h.met
end Go.Proofs.YtfcbpehgkpmniaaDoor
