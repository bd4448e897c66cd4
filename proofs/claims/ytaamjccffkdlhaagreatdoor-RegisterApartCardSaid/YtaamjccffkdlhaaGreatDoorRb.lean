/- What a format is. -/
import Derived.Test.YtaamjccffkdlhaaGreatDoorRa
import Derived.Lib.IndexLaws
namespace Go.Proofs.YtaamjccffkdlhaaGreatDoor
open Go.RowKit

def isB (l : List UInt8) (s : ByteArray) : Bool := s.data.toList == l
/-- A format: a letter, or 1 to 9 digits. -/
def fmtB (s : ByteArray) : Bool := isB [105] s || isB [73] s || isB [97] s || isB [65] s || (decide (1 ≤ s.size) && decide (s.size ≤ 9) && allB digB s)
theorem size_l (s : ByteArray) : s.size = s.data.toList.length := rfl
theorem fmtB_0 {s : ByteArray} (h : s.size = 0) : fmtB s = false := by
  have : s.data.toList = [] := List.length_eq_zero_iff.1 (by rw [← size_l]; exact h)
  simp [fmtB, isB, this, h]
theorem isB_len {l : List UInt8} {s : ByteArray} (h : l.length ≠ s.size) : isB l s = false := by
  unfold isB
  rw [beq_eq_false_iff_ne]
  intro e
  exact h (by rw [size_l, e])
theorem fmtB_great {s : ByteArray} (h : 10 ≤ s.size) : fmtB s = false := by
  have h9 : ¬ s.size ≤ 9 := by omega
  rw [fmtB, isB_len (by simp; omega), isB_len (by simp; omega), isB_len (by simp; omega), isB_len (by simp; omega)]
  simp [h9]
theorem fmtB_mid {s : ByteArray} (h : 2 ≤ s.size) (h9 : s.size ≤ 9) : fmtB s = allB digB s := by
  rw [fmtB, isB_len (by simp; omega), isB_len (by simp; omega), isB_len (by simp; omega), isB_len (by simp; omega)]
  have : 1 ≤ s.size := by omega
  simp [h9, this]
def letB (c : UInt8) : Bool := decide (0 ≤ Lib.indexByte [105, 73, 97, 65] c)
theorem fmtB_one_all : ∀ c : Fin 256, (fmtB ⟨#[c.val.toUInt8]⟩ == (allB digB ⟨#[c.val.toUInt8]⟩ || letB c.val.toUInt8)) = true := by decide +kernel
theorem fmtB_one (c : UInt8) : fmtB ⟨#[c]⟩ = (allB digB ⟨#[c]⟩ || letB c) := by
  have := fmtB_one_all ⟨c.toNat, c.toNat_lt⟩
  simpa using this
theorem one_of {s : ByteArray} (h : s.size = 1) : ∃ c, s = ⟨#[c]⟩ := by
  obtain ⟨⟨l⟩⟩ := s
  have : l.length = 1 := h
  obtain ⟨c, rfl⟩ := List.length_eq_one_iff.1 this
  exact ⟨c, rfl⟩
theorem toList_ne {s : ByteArray} (h : s.size ≠ 0) : s.toList.isEmpty = false ∧ ¬ s.toList = [] := by
  have hne : ¬ s.toList = [] := by
    rw [ByteArray.toList_eq]
    intro e
    exact h (by rw [size_l, e]; rfl)
  exact ⟨by simpa using hne, hne⟩
end Go.Proofs.YtaamjccffkdlhaaGreatDoor
