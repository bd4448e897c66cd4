/- What the longer list of a row gives: the operators and the powers of ten; a witness's world for it. -/
import Derived.Test.YtonhglhdbpmnhaaDoorLd
import Derived.Test.YtonhglhdbpmnhaaDoorNo
import Derived.Stop.LaidErr
import Derived.Lib.LaidTab
namespace Go.Proofs.YtonhglhdbpmnhaaDoor
open Go.ChangeShapes Go.WideShapes Go.ChangeAt Go.RowKit Go.Joins Go.Deep

theorem pow_tab : (Rows.laid_internal_strconv_uint64pow10 : DataW Unit) = Lib.tabData .u64 Lib.pow10Tab := by kernel_rfl
theorem opsAt_long {W : World} (h : laidMet Tryd.prog Rows.measureTextsRow.laid W) : OpsAt W := opsAt_of h.tail.tail.tail.tail
theorem powAt_long {W : World} (h : laidMet Tryd.prog Rows.measureTextsRow.laid W) : PowAt W := by
  have h2 : laidMet Tryd.prog (("internal/strconv.uint64pow10", Rows.laid_internal_strconv_uint64pow10) :: _) W := h.tail.tail
  rw [pow_tab] at h2
  exact Lib.tabIs_of_head (t := 109) (e := 103) (n := 20) gPow (by kernel_rfl) (by kernel_rfl) (by kernel_rfl) (by kernel_rfl) (by kernel_rfl) h2
/-- The cells of a datum of numbers and strings. -/
noncomputable def litCells : Nat → DataW Unit → List Value
  | 0, _ => []
  | _ + 1, .lit (.int k n) => [.int k n]
  | _ + 1, .lit (.string s) => [.string ⟨s.toArray⟩]
  | f + 1, .agg l => l.flatMap (litCells f)
  | _ + 1, _ => []
noncomputable def longStep (h : Array Obj) (x : String × DataW Unit) : Array Obj :=
  match Tryd.prog.globalNamed x.1 with
  | some g => h.modify g (fun o => match o with | .cells _ t frozen => .cells (litCells 9 x.2).toArray t frozen | o => o)
  | none => h
/-- A world for a row's witness: each listed variable holds what its text lays. -/
noncomputable def longWorld (os : Os) : World :=
  { World.holding Tryd.prog os ⟨#[], #[], []⟩ with heap := Rows.measureTextsRow.laid.foldl longStep (World.holding Tryd.prog os ⟨#[], #[], []⟩).heap }
end Go.Proofs.YtonhglhdbpmnhaaDoor
