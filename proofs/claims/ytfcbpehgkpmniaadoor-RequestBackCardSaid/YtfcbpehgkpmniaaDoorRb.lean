/- Control lines as bytes: small laws; a text's bytes from a place on. -/
import Derived.Test.YtfcbpehgkpmniaaDoorRa
import Derived.Handy
namespace Go.Proofs.YtfcbpehgkpmniaaDoor

theorem skL_cons (c : UInt8) (t : List UInt8) : skL (c :: t) = if blB c then skL t else c :: t := by
  unfold skL
  rw [List.dropWhile_cons]
theorem skL_stop {l : List UInt8} (h : ∀ c t, l = c :: t → blB c = false) : skL l = l := by
  cases l with
  | nil => rfl
  | cons c t => rw [skL_cons, h c t rfl]; rfl
theorem wdsL_blank (t : List UInt8) : wdsL (32 :: t) = wdsL t := by
  rw [wdsL_eq, wdsL_eq t, skL_cons, show blB 32 = true from rfl, if_pos rfl]
/-- A text's bytes from a place on. -/
def dr (s : ByteArray) (i : Nat) : List UInt8 := s.data.toList.drop i
theorem dr_cons {s : ByteArray} {i : Nat} (h : i < s.size) : dr s i = s[i] :: dr s (i + 1) := by
  unfold dr
  rw [List.drop_eq_getElem_cons (show i < s.data.toList.length from h)]
  rfl
theorem dr_end {s : ByteArray} {i : Nat} (h : s.size ≤ i) : dr s i = [] := List.drop_of_length_le h
theorem dr_len (s : ByteArray) (i : Nat) : (dr s i).length = s.size - i := List.length_drop ..
theorem dr_drop (s : ByteArray) (i j : Nat) : (dr s i).drop j = dr s (i + j) := List.drop_drop ..
theorem ext_dr (s : ByteArray) (i j : Nat) : (s.extract i j).data.toList = (dr s i).take (j - i) := by
  unfold dr
  rw [ByteArray.data_extract, Array.toList_extract]
/-- The rest of a text is the rest from a place on. -/
theorem dr_of {s : ByteArray} {i : Nat} {a r : List UInt8} (h : dr s i = a ++ r) : dr s (i + a.length) = r ∧ (s.extract i (i + a.length)).data.toList = a := by
  rw [← dr_drop, ext_dr, h]
  simp
theorem wd_parts (l : List UInt8) : l = wdL l ++ wdR l := (List.takeWhile_append_dropWhile ..).symm
theorem upTo_some : ∀ {k : UInt8} {l a r : List UInt8}, upTo k l = some (a, r) → l = a ++ k :: r ∧ k ∉ a
  | k, [], a, r, h => by cases h
  | k, c :: t, a, r, h => by
    unfold upTo at h
    split at h
    · rename_i e
      injection h with h
      injection h with h1 h2
      subst h1 h2 e
      exact ⟨rfl, by simp⟩
    · rename_i e
      split at h
      · cases h
      · rename_i a' r' e2
        injection h with h
        injection h with h1 h2
        subst h1 h2
        obtain ⟨h3, h4⟩ := upTo_some e2
        exact ⟨by rw [h3]; rfl, by simp only [List.mem_cons, not_or]; exact ⟨fun e3 => e e3.symm, h4⟩⟩
theorem upTo_of : ∀ {k : UInt8} {a r : List UInt8}, k ∉ a → upTo k (a ++ k :: r) = some (a, r)
  | k, [], r, _ => by simp [upTo]
  | k, c :: a, r, h => by
    simp only [List.mem_cons, not_or] at h
    rw [List.cons_append]
    unfold upTo
    rw [if_neg (fun e => h.1 e.symm), upTo_of h.2]
theorem upTo_none : ∀ {k : UInt8} {l : List UInt8}, k ∉ l → upTo k l = none
  | _, [], _ => rfl
  | k, c :: t, h => by
    simp only [List.mem_cons, not_or] at h
    unfold upTo
    rw [if_neg (fun e => h.1 e.symm), upTo_none h.2]
end Go.Proofs.YtfcbpehgkpmniaaDoor
