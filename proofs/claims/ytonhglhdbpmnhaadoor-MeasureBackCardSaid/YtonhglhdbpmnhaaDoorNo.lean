/- Walks: a number's text, in the code's words and the document's. -/
import Derived.Test.YtonhglhdbpmnhaaDoorPt
import Derived.Test.YtonhglhdbpmnhaaDoorNl
import Derived.Test.YtonhglhdbpmnhaaDoorLc
import Derived.Test.YtonhglhdbpmnhaaDoorShelf
import Derived.Lib.AppendIntMem
import Derived.Lib.SmallJoins
namespace Go.Proofs.YtonhglhdbpmnhaaDoor
open Go.RowKit

/-- The table of powers of ten, as the library's contract asks it. -/
def PowAt (w : World) : Prop := Lib.TabIs Tryd.prog w "internal/strconv.uint64pow10" .u64 Lib.pow10Tab
theorem gPow : Tryd.prog.globalNamed "internal/strconv.uint64pow10" = some 2 := by kernel_rfl
theorem PowAt.below {w w' : World} (h : PowAt w) (hb : Below w.heap.size w w') : PowAt w' := Joins.tab_stays gPow h hb (Nat.le_refl _)
/-- 29: strconv.Itoa, of no negative number. -/
theorem c29 (x : Int) (h0 : 0 ≤ x) (h1 : x ≤ 9223372036854775807) (w : World) (hP : PowAt w) : Calls Tryd.prog 29 #[.int .i64 x] w fun e w' => e = .returned (.string (dg x)) ∧ Below w.heap.size w w' := by
  refine (Tryd.strconv_Itoa x (by omega) h1 w hP).mono ?_
  rintro e w' ⟨rfl, k, os, rfl⟩
  refine ⟨?_, Lib.below_grow _ w (Nat.le_refl _) k os⟩
  unfold dg
  rw [← itoa_dig, Int.toNat_of_nonneg h0]
/-- A string of what stands behind the point. -/
def frS (r : Nat) : ByteArray := ⟨(fracL r).toArray⟩
/-- 30: strings.TrimRight, of four digits. -/
theorem c30 (s : ByteArray) (r : Nat) (hs : s.data.toList = d4 r) (w : World) : Calls Tryd.prog 30 #[.string s, .string ⟨#[48]⟩] w fun e w' => e = .returned (.string (frS r)) ∧ w = w' := by
  refine (Tryd.strings_TrimRight_one s 48 (by decide) w (by rw [size_list, hs]; simp [d4])).mono ?_
  rintro e w' ⟨rfl, rfl⟩
  refine ⟨?_, rfl⟩
  rw [hs]; rfl
/-- 27: strings.IndexByte, of the four letters. -/
theorem c27 (c : Nat) (hc : c < 256) (w : World) : Calls Tryd.prog 27 #[.string ⟨#[117, 112, 80, 105]⟩, .int .u8 c] w fun e w' => (∃ x : Int, e = .returned (.int .i64 x) ∧ (x < 0 ↔ ¬ (c = 117 ∨ c = 112 ∨ c = 80 ∨ c = 105))) ∧ w = w' := by
  refine (Tryd.strings_IndexByte ⟨#[117, 112, 80, 105]⟩ c w).mono ?_
  rintro e w' ⟨rfl, rfl⟩
  refine ⟨⟨_, rfl, ?_⟩, rfl⟩
  have : ∀ c : Nat, c < 256 → (Lib.indexByte [117, 112, 80, 105] ((c : Int).toNat.toUInt8) < 0 ↔ ¬ (c = 117 ∨ c = 112 ∨ c = 80 ∨ c = 105)) := by decide +kernel
  exact this c hc
end Go.Proofs.YtonhglhdbpmnhaaDoor
