/- Control lines as bytes: how they are written. -/
import Derived.Test.YtfcbpehgkpmniaaDoorAg
namespace Go.Proofs.YtfcbpehgkpmniaaDoor
open Go.RowKit Go.Maps Go.WideMaps

theorem rsL_cons (x : List UInt8) (xs : List (List UInt8)) : rsL (x :: xs) = 32 :: qdL x ++ rsL xs := by
  unfold rsL
  rw [List.map_cons, List.flatten_cons]
/-- The bytes of texts. -/
def bysL (l : List ByteArray) : List (List UInt8) := l.map fun x => x.data.toList
theorem wdR_nil {l : List UInt8} : wdR l = [] ↔ l.any blB = false := by
  induction l with
  | nil => exact ⟨fun _ => rfl, fun _ => rfl⟩
  | cons c t ih =>
    rw [wdR_cons, any_cons]
    cases blB c
    · rw [Bool.false_or]; exact ih
    · simp
theorem upTo_ten {l : List UInt8} : upTo 10 l = none ↔ l.any (fun c => decide (c.toNat = 10)) = false := by
  induction l with
  | nil => exact ⟨fun _ => rfl, fun _ => rfl⟩
  | cons c t ih =>
    rw [upTo_cons, List.any_cons]
    by_cases h : c = 10
    · subst h
      simp
    · have h2 : c.toNat ≠ 10 := fun e => h (UInt8.toNat_inj.1 e)
      rw [if_neg h, decide_eq_false h2, Bool.false_or, ← ih]
      cases upTo 10 t with
      | none => exact ⟨fun _ => rfl, fun _ => rfl⟩
      | some p => exact ⟨fun h => (by cases h), fun h => (by cases h)⟩
theorem wds_same {r : ByteArray} {l : List ByteArray} : wdsT r = l ↔ wdsL r.data.toList = bysL l := by
  unfold wdsT bysL
  constructor
  · intro h
    subst h
    rw [List.map_map]
    exact ((List.map_congr_left (fun x _ => rfl)).trans (List.map_id _)).symm
  · intro h
    rw [h, ba_back]
/-- Whether a name or a line cannot be written. -/
def badW (n : List UInt8) (xs : List (List UInt8)) : Bool := decide (n = []) || n.any blB || (46 :: n ++ rsL xs).any (fun c => decide (c.toNat = 10))
theorem wrE_eq (n : List UInt8) (xs : List (List UInt8)) : wrE n xs = if badW n xs = true then 4 else if wdsL (rsL xs) ≠ xs then 4 else if 2000 < (46 :: n ++ rsL xs).length then 1 else 0 := by
  unfold wrE badW
  simp only [Bool.or_eq_true, decide_eq_true_eq, or_assoc]
theorem bytes_in {name rest : ByteArray} {xs : List (List UInt8)} (h : rest.data.toList = rsL xs) : ((⟨#[46]⟩ ++ name) ++ rest : ByteArray).data.toList = 46 :: name.data.toList ++ rsL xs := by
  rw [app_data, app_data, h]
  rfl
theorem get_same {M l : List ByteArray} (h1 : M.length = l.length) (h : ∀ j, j < l.length → M[j]? = l[j]?) : M = l := by
  refine List.ext_getElem? fun j => ?_
  rcases Nat.lt_or_ge j l.length with hj | hj
  · exact h j hj
  · rw [List.getElem?_eq_none hj, List.getElem?_eq_none (by omega)]
end Go.Proofs.YtfcbpehgkpmniaaDoor
