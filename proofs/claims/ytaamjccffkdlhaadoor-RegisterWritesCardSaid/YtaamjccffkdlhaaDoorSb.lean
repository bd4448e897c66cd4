/- What the rows' list gives: the tables of letters. -/
import Derived.Test.YtaamjccffkdlhaaDoorSa
import Derived.Test.YtaamjccffkdlhaaDoorShelf
import Derived.Lib.LaidCase
namespace Go.Proofs.YtaamjccffkdlhaaDoor
open Go.Shelf Go.Lib

theorem case_of {W : World} (h : laidMet Tryd.prog lst W) : Lib.CaseVar 1 Lib.caseA W :=
  caseVar_of_reads (ρ := Tryd.lays159_ren) { Tryd.lays159 with } Tryd.lays159.t206 ⟨by kernel_rfl, by kernel_rfl, by kernel_rfl, by kernel_rfl, by kernel_rfl, by kernel_rfl⟩ (by
    have := reads_of h (n := "unicode.CaseRanges") (d := Rows.laid_unicode_CaseRanges) (by simp [lst])
    rw [show Rows.laid_unicode_CaseRanges = Lib.caseData from Pinned.caseRanges_eq] at this
    exact this)
theorem laid_acc : (Rows.laid_unicode_utf8_acceptRanges : DataW Unit) = Lib.acceptData := by kernel_rfl
theorem u8_of {W : World} (h : laidMet Tryd.prog lst W) : Lib.Utf8Tabs 3 4 W :=
  utf8Tabs_of_reads (ρ := Tryd.lays260_ren) Tryd.lays260 ⟨by kernel_rfl, by kernel_rfl, by kernel_rfl, by kernel_rfl, by kernel_rfl, by kernel_rfl, by kernel_rfl⟩ (by
    have := reads_of h (n := "unicode/utf8.first") (d := Rows.laid_unicode_utf8_first) (by simp [lst])
    rw [show Rows.laid_unicode_utf8_first = Lib.firstData from Pinned.utf8First_eq] at this
    exact this) (by
    have := reads_of h (n := "unicode/utf8.acceptRanges") (d := Rows.laid_unicode_utf8_acceptRanges) (by simp [lst, smalls])
    rw [laid_acc] at this
    exact this)
end Go.Proofs.YtaamjccffkdlhaaDoor
