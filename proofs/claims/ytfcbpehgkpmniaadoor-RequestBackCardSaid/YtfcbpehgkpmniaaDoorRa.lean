/- Control lines as bytes: blanks, words, arguments, conditions, braces, and how they are written. -/
import Derived.Test.YtfcbpehgkpmniaaDoorProg
namespace Go.Proofs.YtfcbpehgkpmniaaDoor

def blB (c : UInt8) : Bool := decide (c.toNat = 32) || decide (c.toNat = 9)
def ltB (c : UInt8) : Bool := (decide (97 ≤ c.toNat) && decide (c.toNat ≤ 122)) || (decide (65 ≤ c.toNat) && decide (c.toNat ≤ 90))
def dgB (c : UInt8) : Bool := decide (48 ≤ c.toNat) && decide (c.toNat ≤ 57)
/-- Whether a byte may be a control byte. -/
def ctB (c : UInt8) : Bool := !ltB c && !dgB c && !blB c && !decide (c.toNat = 92)
def skL (l : List UInt8) : List UInt8 := l.dropWhile blB
def wdL (l : List UInt8) : List UInt8 := l.takeWhile (fun c => !blB c)
def wdR (l : List UInt8) : List UInt8 := l.dropWhile (fun c => !blB c)
/-- An argument's bytes up to a blank; the rest. -/
def tlL : List UInt8 → List UInt8 × List UInt8
  | [] => ([], [])
  | [c] => if blB c then ([], [c]) else ([c], [])
  | c :: d :: t => if blB c then ([], c :: d :: t) else if c.toNat = 92 then ((c :: d :: (tlL t).1), (tlL t).2) else ((c :: (tlL (d :: t)).1), (tlL (d :: t)).2)
/-- An argument's bytes within quotes; the rest. -/
def qtL : List UInt8 → List UInt8 × List UInt8
  | [] => ([], [])
  | [c] => if c.toNat = 34 then ([], []) else ([c], [])
  | c :: d :: t => if c.toNat = 34 then (if d.toNat = 34 then (d :: (qtL t).1, (qtL t).2) else ([], d :: t)) else if c.toNat = 92 then (c :: d :: (qtL t).1, (qtL t).2) else (c :: (qtL (d :: t)).1, (qtL (d :: t)).2)
theorem tlL_le : ∀ l : List UInt8, (tlL l).2.length ≤ l.length
  | [] => Nat.le_refl _
  | [c] => by unfold tlL; split <;> simp
  | c :: d :: t => by
    have h1 := tlL_le t
    have h2 := tlL_le (d :: t)
    unfold tlL
    split
    · exact Nat.le_refl _
    · split
      · simp only [List.length_cons]; omega
      · simp only [List.length_cons] at h2 ⊢; omega
theorem tlL_lt {c : UInt8} {t : List UInt8} (h : blB c = false) : (tlL (c :: t)).2.length < (c :: t).length := by
  cases t with
  | nil => unfold tlL; rw [h]; simp
  | cons d t =>
    have h1 := tlL_le t
    have h2 := tlL_le (d :: t)
    unfold tlL
    rw [h]
    simp only [Bool.false_eq_true, if_false]
    split
    · simp only [List.length_cons]; omega
    · simp only [List.length_cons] at h2 ⊢; omega
theorem qtL_le : ∀ l : List UInt8, (qtL l).2.length ≤ l.length
  | [] => Nat.le_refl _
  | [c] => by unfold qtL; split <;> simp
  | c :: d :: t => by
    have h1 := qtL_le t
    have h2 := qtL_le (d :: t)
    unfold qtL
    split
    · split
      · simp only [List.length_cons]; omega
      · simp
    · split
      · simp only [List.length_cons]; omega
      · simp only [List.length_cons] at h2 ⊢; omega
/-- The first argument and the rest, of bytes that begin with no blank. -/
def agL1 (l : List UInt8) : List UInt8 × List UInt8 :=
  match l with
  | [] => ([], [])
  | c :: t => if c.toNat = 34 then ((qtL t).1 ++ (tlL (qtL t).2).1, (tlL (qtL t).2).2) else tlL (c :: t)
theorem agL1_lt {c : UInt8} {t : List UInt8} (h : blB c = false) : (agL1 (c :: t)).2.length < (c :: t).length := by
  unfold agL1
  by_cases e : c.toNat = 34
  · simp only [e, if_true]
    have h1 := qtL_le t
    have h2 := tlL_le (qtL t).2
    simp only [List.length_cons]
    omega
  · simp only [e, if_false]
    exact tlL_lt h
/-- The arguments. -/
def wdsN : Nat → List UInt8 → List (List UInt8)
  | 0, _ => []
  | n + 1, l => match skL l with
    | [] => []
    | c :: t => (agL1 (c :: t)).1 :: wdsN n (agL1 (c :: t)).2
theorem skL_le (l : List UInt8) : (skL l).length ≤ l.length := by
  unfold skL
  have := (List.dropWhile_sublist (l := l) blB).length_le
  exact this
theorem skL_head {l : List UInt8} {c : UInt8} {t : List UInt8} (h : skL l = c :: t) : blB c = false := by
  unfold skL at h
  have h1 := List.head?_dropWhile_not blB l
  rw [h] at h1
  simpa using h1
theorem wdsN_more : ∀ (n m : Nat) (l : List UInt8), l.length ≤ n → l.length ≤ m → wdsN n l = wdsN m l
  | 0, 0, _, _, _ => rfl
  | 0, m + 1, l, h, _ => by
    have : l = [] := List.eq_nil_of_length_eq_zero (by omega)
    subst this
    rfl
  | n + 1, 0, l, _, h => by
    have : l = [] := List.eq_nil_of_length_eq_zero (by omega)
    subst this
    rfl
  | n + 1, m + 1, l, hn, hm => by
    unfold wdsN
    cases hs : skL l with
    | nil => rfl
    | cons c t =>
      have h1 := agL1_lt (t := t) (skL_head hs)
      have h2 := skL_le l
      rw [hs] at h2
      simp only
      rw [wdsN_more n m _ (by omega) (by omega)]
def wdsL (l : List UInt8) : List (List UInt8) := wdsN l.length l
theorem wdsL_eq (l : List UInt8) : wdsL l = match skL l with
    | [] => []
    | c :: t => (agL1 (c :: t)).1 :: wdsL (agL1 (c :: t)).2 := by
  unfold wdsL
  cases hl : l with
  | nil => rfl
  | cons a b =>
    rw [List.length_cons]
    conv => lhs; unfold wdsN
    rw [← hl]
    cases hs : skL l with
    | nil => rfl
    | cons c t =>
      have h1 := agL1_lt (t := t) (skL_head hs)
      have h2 := skL_le l
      rw [hs] at h2
      rw [hl] at h2
      have h3 : (c :: t).length ≤ b.length + 1 := h2
      simp only
      rw [wdsN_more _ _ _ (by omega) (Nat.le_refl _)]
/-- A line: no line feed, at most 2000 bytes. -/
def lineB (l : List UInt8) : Bool := l.all (fun c => !decide (c.toNat = 10)) && decide (l.length ≤ 2000)
/-- Bytes that may stand around the texts of a condition. -/
def quB (c : UInt8) : Bool := !ltB c && !dgB c && !blB c && !decide (c.toNat = 92) && !decide (c.toNat = 40) && !decide (c.toNat = 43) && !decide (c.toNat = 45) && !decide (c.toNat = 46) && !decide (c.toNat = 124) && !decide (c.toNat = 33)
structure Cnd where
  not_ : Bool
  kind : UInt8
  name : List UInt8
  left : List UInt8
  right : List UInt8
  rest : List UInt8
def noCnd : Cnd := ⟨false, 0, [], [], [], []⟩
/-- What stands ahead of a byte, and what behind it. -/
def upTo (k : UInt8) : List UInt8 → Option (List UInt8 × List UInt8)
  | [] => none
  | c :: t => if c = k then some ([], t) else match upTo k t with
    | none => none
    | some (a, r) => some (c :: a, r)
/-- The ! ahead: whether they are odd, and the rest. -/
def nots : List UInt8 → Bool × List UInt8
  | [] => (false, [])
  | c :: t => if c.toNat = 33 then (!(nots t).1, (nots t).2) else (false, c :: t)
/-- A condition behind its !, or the error. -/
def cdK : List UInt8 → Option Cnd
  | [] => none
  | k :: t =>
    if blB k then none
    else if k.toNat = 111 ∨ k.toNat = 101 ∨ k.toNat = 116 ∨ k.toNat = 110 then some ⟨false, k, [], [], [], skL t⟩
    else if k.toNat = 100 ∨ k.toNat = 114 then (if wdL t = [] then none else some ⟨false, k, wdL t, [], [], skL (wdR t)⟩)
    else if quB k then match upTo k t with
      | none => none
      | some (a, r) => match upTo k r with
        | none => none
        | some (b, r2) => some ⟨false, 39, [], a, b, skL r2⟩
    else some ⟨false, 120, wdL (k :: t), [], [], skL (wdR (k :: t))⟩
def cd1 (n : Bool) (l : List UInt8) : Option Cnd := (cdK l).map fun c => { c with not_ := n }
def cdL (l : List UInt8) : Option Cnd := cd1 (nots (skL l)).1 (nots (skL l)).2
/-- Braces from a depth, at a place. -/
def brL : Nat → Nat → List UInt8 → Int × Int
  | d, _, [] => ((d : Nat), -1)
  | d, _, [_] => ((d : Nat), -1)
  | d, i, c :: e :: t =>
    if c.toNat = 92 then
      if e.toNat = 123 then brL (d + 1) (i + 2) t
      else if e.toNat = 125 ∧ 0 < d then (if d = 1 then (0, ((i + 2 : Nat) : Int)) else brL (d - 1) (i + 2) t)
      else brL d (i + 2) t
    else brL d (i + 1) (e :: t)
/-- Whether a \\ at the end is of an odd row. -/
def oddE : Bool → List UInt8 → Bool
  | b, [] => b
  | b, c :: t => oddE (decide (c.toNat = 92) && !b) t
def dblL : List UInt8 → List UInt8
  | [] => []
  | c :: t => if c.toNat = 34 then c :: c :: dblL t else c :: dblL t
/-- An argument as it is written. -/
def qdL (a : List UInt8) : List UInt8 := if a = [] ∨ (a.head?.map UInt8.toNat) = some 34 ∨ a.any blB = true ∨ oddE false a = true then 34 :: dblL a ++ [34] else a
/-- Arguments as they are written, each behind a blank. -/
def rsL (xs : List (List UInt8)) : List UInt8 := (xs.map fun a => 32 :: qdL a).flatten
/-- A control line, or the error. -/
def wrE (n : List UInt8) (xs : List (List UInt8)) : Int :=
  if n = [] ∨ n.any blB = true ∨ (46 :: n ++ rsL xs).any (fun c => decide (c.toNat = 10)) = true then 4 else if wdsL (rsL xs) ≠ xs then 4 else if 2000 < (46 :: n ++ rsL xs).length then 1 else 0
def wrT (n : List UInt8) (xs : List (List UInt8)) : List UInt8 := if wrE n xs = 0 then 46 :: n ++ rsL xs else []
end Go.Proofs.YtfcbpehgkpmniaaDoor
