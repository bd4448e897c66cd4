/- Control lines as bytes: arguments as they are written. -/
import Derived.Test.YtfcbpehgkpmniaaDoorAe
import Derived.Deep.DeepCutAuto
import Derived.Deep.CutBlock
namespace Go.Proofs.YtfcbpehgkpmniaaDoor
open Go.RowKit

theorem oddE_cons (b : Bool) (c : UInt8) (t : List UInt8) : oddE b (c :: t) = oddE (decide (c.toNat = 92) && !b) t := rfl
theorem dblL_q {c : UInt8} {t : List UInt8} (h : c.toNat = 34) : dblL (c :: t) = 34 :: c :: dblL t := by
  have e : c = 34 := UInt8.toNat_inj.1 h
  subst e
  conv => lhs; unfold dblL
  rw [if_pos h]
theorem dblL_p {c : UInt8} {t : List UInt8} (h : c.toNat ≠ 34) : dblL (c :: t) = c :: dblL t := by
  conv => lhs; unfold dblL
  rw [if_neg h]
/-- Whether an argument begins so that it must stand in quotes. -/
def inB (l : List UInt8) : Bool := match l with
  | [] => true
  | c :: _ => decide (c.toNat = 34)
theorem qdL_eq (l : List UInt8) : qdL l = if (inB l || l.any blB) || oddE false l then 34 :: dblL l ++ [34] else l := by
  unfold qdL
  congr 1
  cases l with
  | nil => simp [inB]
  | cons c t => simp [inB, or_assoc]
theorem qdL_len (l : List UInt8) : (qdL l).length ≤ 2 * l.length + 2 := by
  have hd : ∀ l : List UInt8, (dblL l).length ≤ 2 * l.length := by
    intro l
    induction l with
    | nil => exact Nat.le_refl _
    | cons c t ih =>
      unfold dblL
      split <;> simp only [List.length_cons] <;> omega
  unfold qdL
  split
  · have := hd l
    simp only [List.cons_append, List.length_cons, List.length_append, List.length_nil]
    omega
  · omega
theorem data_dr (s : ByteArray) : dr s 0 = s.data.toList := rfl
theorem odd_up {n : Nat} : (true && !decide (n % 2 = 1)) = decide ((n + 1) % 2 = 1) := by
  rw [Bool.true_and, Bool.eq_iff_iff]
  simp only [Bool.not_eq_true', decide_eq_false_iff_not, decide_eq_true_eq]
  omega
theorem any_cons (c : UInt8) (t : List UInt8) : (c :: t).any blB = (blB c || t.any blB) := rfl
end Go.Proofs.YtfcbpehgkpmniaaDoor
