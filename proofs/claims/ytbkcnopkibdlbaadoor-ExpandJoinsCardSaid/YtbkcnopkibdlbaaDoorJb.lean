/- Plain reckoning: how lines are joined, the code's way and the document's. Nothing is proved of the program here. -/
import Derived.Test.YtbkcnopkibdlbaaDoorAa
import Derived.Test.YtbkcnopkibdlbaaDoorAb
import Derived.Lib.TrimByte
namespace Go.Proofs.YtbkcnopkibdlbaaDoor
open Go.RowKit

/-- How many \ stand at the end. -/
def tr (l : List UInt8) : Nat := (l.reverse.takeWhile (· == 92)).length
def oddB (s : ByteArray) : Bool := decide (tr s.data.toList % 2 = 1)
theorem tr_trim (l : List UInt8) : (Lib.trimRightB l 92).length + tr l = l.length := by
  unfold Lib.trimRightB tr
  have h := congrArg List.length (List.takeWhile_append_dropWhile (p := (· == (92 : UInt8))) (l := l.reverse))
  rw [List.length_append, List.length_reverse] at h
  rw [List.length_reverse]
  omega
theorem tr_le (l : List UInt8) : tr l ≤ l.length := by have := tr_trim l; omega
theorem tr_app (a p : List UInt8) : tr (a ++ p) = if tr p = p.length then p.length + tr a else tr p := by
  unfold tr
  rw [List.reverse_append, List.takeWhile_append, List.length_reverse]
  split
  · rw [List.length_append, List.length_reverse]
  · rfl
theorem tr_even {a p : List UInt8} (h : tr a % 2 = 0) : tr (a ++ p) % 2 = tr p % 2 := by
  rw [tr_app]
  split
  · rename_i e
    rw [e]; omega
  · rfl
theorem tr_last {l : List UInt8} (h : tr l % 2 = 1) : tr (l.take (l.length - 1)) % 2 = 0 := by
  have e : l.take (l.length - 1) = (l.reverse.tail).reverse := by
    rw [← List.dropLast_eq_take, ← List.dropLast_reverse]
    simp
  unfold tr at h ⊢
  rw [e, List.reverse_reverse]
  generalize l.reverse = r at *
  cases r with
  | nil => rfl
  | cons c t =>
    rw [List.takeWhile_cons] at h
    split at h
    · rw [List.length_cons] at h
      rw [List.tail_cons]
      omega
    · simp at h
theorem odd_even {a p : ByteArray} (h : tr a.data.toList % 2 = 0) : oddB (a ++ p) = oddB p := by
  unfold oddB
  rw [app_data, tr_even h]
theorem odd_pos {p : ByteArray} (h : oddB p = true) : 1 ≤ p.size := by
  have h1 := of_decide_eq_true h
  have h2 := tr_le p.data.toList
  rw [← size_len] at h2
  omega
/-- The code's way: a is what was gathered. -/
def jn : ByteArray → List ByteArray → List ByteArray
  | _, [] => []
  | a, p :: r => if !r.isEmpty && oddB p then jn (a ++ p.extract 0 (p.size - 1)) r else (a ++ p) :: jn ⟨#[]⟩ r
/-- The document's way. -/
def rj : ByteArray → List ByteArray → List ByteArray
  | s, [] => [s]
  | s, q :: r => if oddB s then rj (s.extract 0 (s.size - 1) ++ q) r else s :: rj q r
def refJ : List ByteArray → List ByteArray
  | [] => []
  | p :: r => rj p r
theorem app_nil (a : ByteArray) : (⟨#[]⟩ : ByteArray) ++ a = a := by
  refine ba_eq ?_
  rw [app_data]; rfl
theorem ext_app (a p : ByteArray) (h : 1 ≤ p.size) : (a ++ p).extract 0 ((a ++ p).size - 1) = a ++ p.extract 0 (p.size - 1) := by
  refine ba_eq ?_
  rw [ext_data, app_data, app_data, ext_data, List.drop_zero, List.drop_zero]
  have hz : (a ++ p).size = a.size + p.size := by rw [size_len, app_data, List.length_append, ← size_len, ← size_len]
  rw [hz, List.take_append, ← size_len, List.take_of_length_le (by rw [← size_len]; omega)]
  congr 2
  omega
theorem jn_rj : ∀ (r : List ByteArray) (a p : ByteArray), tr a.data.toList % 2 = 0 → jn a (p :: r) = rj (a ++ p) r
  | [], a, p, _ => rfl
  | q :: r, a, p, h => by
    rw [jn, rj, odd_even h]
    cases ho : oddB p with
    | true =>
      have hp := odd_pos ho
      rw [if_pos (by rfl), if_pos rfl, ext_app a p hp]
      refine jn_rj r _ q ?_
      rw [app_data, ext_data, List.drop_zero, size_len, tr_even h]
      exact tr_last (of_decide_eq_true ho)
    | false =>
      rw [if_neg (by simp), if_neg (by simp)]
      congr 1
      rw [jn_rj r ⟨#[]⟩ q rfl, app_nil]
theorem jn_ref (l : List ByteArray) : jn ⟨#[]⟩ l = refJ l := by
  cases l with
  | nil => rfl
  | cons p r =>
    rw [jn_rj r ⟨#[]⟩ p rfl, app_nil]
    rfl
/-- How many bytes a list of texts has. -/
def tot (l : List ByteArray) : Nat := (l.map ByteArray.size).sum
theorem tot_cons (p : ByteArray) (l : List ByteArray) : tot (p :: l) = p.size + tot l := by unfold tot; rw [List.map_cons, List.sum_cons]
theorem jn_len : ∀ (l : List ByteArray) (a : ByteArray), (jn a l).length ≤ l.length
  | [], _ => Nat.le_refl _
  | p :: r, a => by
    rw [jn]
    split
    · have := jn_len r (a ++ p.extract 0 (p.size - 1))
      rw [List.length_cons]; omega
    · have := jn_len r ⟨#[]⟩
      rw [List.length_cons, List.length_cons]; omega
/-- Counting from the end. -/
theorem tw_len : ∀ (r : List UInt8) (n : Nat), (∀ j, j < n → r[j]? = some 92) → r[n]? ≠ some 92 → (r.takeWhile (· == 92)).length = n
  | [], n, h, _ => by
    rcases Nat.eq_zero_or_pos n with rfl | hn
    · rfl
    · have := h 0 hn
      cases this
  | c :: t, 0, _, h2 => by
    rw [List.takeWhile_cons, if_neg (by
      intro e
      exact h2 (by rw [List.getElem?_cons_zero, beq_iff_eq.1 e]))]
    rfl
  | c :: t, n + 1, h, h2 => by
    have h0 := h 0 (by omega)
    rw [List.getElem?_cons_zero] at h0
    injection h0 with h0
    subst h0
    rw [List.takeWhile_cons, if_pos (by rfl), List.length_cons, tw_len t n (fun j hj => by simpa using h (j + 1) (by omega)) (by simpa using h2)]
theorem tr_eq {s : ByteArray} {n : Nat} (hn : n ≤ s.size) (h1 : ∀ (j : Nat) (hj : j < s.size), s.size - 1 - j < s.size → j < n → (s[s.size - 1 - j]'(by omega)).toNat = 92) (h2 : ∀ (hn : n < s.size), (s[s.size - 1 - n]'(by omega)).toNat ≠ 92) : tr s.data.toList = n := by
  have hz := size_len s
  unfold tr
  refine tw_len _ n (fun j hj => ?_) ?_
  · rw [List.getElem?_reverse (by omega), List.getElem?_eq_getElem (by omega)]
    have := h1 j (by omega) (by omega) hj
    have e : s.data.toList[s.data.toList.length - 1 - j]'(by omega) = s[s.size - 1 - j]'(by omega) := rfl
    rw [e]
    exact congrArg some (UInt8.toNat_inj.1 this)
  · rcases Nat.lt_or_ge n s.size with hl | hl
    · rw [List.getElem?_reverse (by omega), List.getElem?_eq_getElem (by omega)]
      have := h2 hl
      intro e
      injection e with e
      exact this (congrArg UInt8.toNat e)
    · rw [List.getElem?_eq_none (by rw [List.length_reverse]; omega)]
      intro e
      cases e
end Go.Proofs.YtbkcnopkibdlbaaDoor
