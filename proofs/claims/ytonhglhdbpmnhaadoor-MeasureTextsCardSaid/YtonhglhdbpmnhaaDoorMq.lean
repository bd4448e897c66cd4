/- The plain reckoning of expressions: operators, signs ahead, and what a text's expression comes to, with fuel. -/
import Derived.Test.YtonhglhdbpmnhaaDoorMp
import Derived.Lib.Strings
import Derived.Lib.IndexBytes
namespace Go.Proofs.YtonhglhdbpmnhaaDoor

/-- The operators, in the order in which they are tried; 13: none. -/
def opS (j : Nat) : ByteArray :=
  match j with
  | 0 => ⟨#[60, 61]⟩ | 1 => ⟨#[62, 61]⟩ | 2 => ⟨#[61, 61]⟩ | 3 => ⟨#[60]⟩ | 4 => ⟨#[62]⟩ | 5 => ⟨#[61]⟩ | 6 => ⟨#[43]⟩ | 7 => ⟨#[45]⟩ | 8 => ⟨#[42]⟩ | 9 => ⟨#[47]⟩ | 10 => ⟨#[37]⟩ | 11 => ⟨#[38]⟩ | 12 => ⟨#[58]⟩
  | _ => ⟨#[]⟩
def opHit (j c d : Nat) : Bool :=
  match j with
  | 0 => c == 60 && d == 61 | 1 => c == 62 && d == 61 | 2 => c == 61 && d == 61 | 3 => c == 60 | 4 => c == 62 | 5 => c == 61 | 6 => c == 43 | 7 => c == 45 | 8 => c == 42 | 9 => c == 47 | 10 => c == 37 | 11 => c == 38 | 12 => c == 58
  | _ => false
def opFor (c d : Nat) : Nat := scanTo (fun j => !opHit j c d) 13 0
def opIx (s : ByteArray) (p : Nat) : Nat := opFor (bt s p) (bt s (p + 1))
theorem opFor_eq {c d j : Nat} (hj : j ≤ 13) (h : ∀ i, i < j → opHit i c d = false) (hs : opHit j c d = true ∨ j = 13) : opFor c d = j :=
  scanTo_eq _ 13 0 j (by omega) (by omega) (fun k _ hk => by simp [h k hk]) (by rcases hs with h | h; exact .inl (by simp [h]); exact .inr (by omega))
theorem opFor_le (c d : Nat) : opFor c d ≤ 13 := by have := (scanTo_spec (fun j => !opHit j c d) 13 0).2.1; unfold opFor; omega
theorem opFor_hit {c d : Nat} (h : opFor c d < 13) : opHit (opFor c d) c d = true := by
  rcases (scanTo_spec (fun j => !opHit j c d) 13 0).2.2.2 with h1 | h1
  · simpa [opFor] using h1
  · unfold opFor at h; omega
theorem opFor_none {c d : Nat} (h : opFor c d = 13) : ∀ j, opHit j c d = false := by
  intro j
  by_cases hj : j < 13
  · have := (scanTo_spec (fun j => !opHit j c d) 13 0).2.2.1 j (by omega) (by unfold opFor at h; omega)
    simpa using this
  · unfold opHit
    split <;> first | omega | rfl
/-- Whether an operator stands at a place, as the library's HasPrefix says it. -/
def hpB (s : ByteArray) (p j : Nat) : Bool := Lib.hasPrefix (s.extract p s.size).data.toList (opS j).data.toList
theorem bt_list (s : ByteArray) (i : Nat) : bt s i = match s.data.toList[i]? with | some c => c.toNat | none => 0 := by
  unfold bt
  by_cases h : i < s.size
  · rw [dif_pos h]
    have h' : i < s.data.toList.length := by simpa using h
    rw [List.getElem?_eq_getElem h']
    rfl
  · rw [dif_neg h]
    have h' : ¬ i < s.data.toList.length := by simpa using h
    rw [List.getElem?_eq_none (by omega)]
theorem pre1 (l : List UInt8) (p : Nat) (a : UInt8) (ha : a.toNat ≠ 0) : Lib.hasPrefix (l.drop p) [a] = ((match l[p]? with | some c => c.toNat | none => 0) == a.toNat) := by
  unfold Lib.hasPrefix
  rcases h : l[p]? with _ | c
  · rw [List.drop_eq_nil_of_le (by simpa using h)]
    simp [List.isPrefixOf]; omega
  · obtain ⟨hp, rfl⟩ := List.getElem?_eq_some_iff.1 h
    rw [List.drop_eq_getElem_cons hp]
    simp only [List.isPrefixOf, Bool.and_true]
    rw [Bool.eq_iff_iff]
    simp only [beq_iff_eq]
    exact ⟨fun h => by rw [h], fun h => (UInt8.toNat_inj.1 h).symm⟩
theorem pre2 (l : List UInt8) (p : Nat) (a b : UInt8) (ha : a.toNat ≠ 0) (hb : b.toNat ≠ 0) :
    Lib.hasPrefix (l.drop p) [a, b] = (((match l[p]? with | some c => c.toNat | none => 0) == a.toNat) && ((match l[p + 1]? with | some c => c.toNat | none => 0) == b.toNat)) := by
  rw [← pre1 l p a ha, ← pre1 l (p + 1) b hb]
  unfold Lib.hasPrefix
  rcases Nat.lt_or_ge p l.length with h | h
  · rw [List.drop_eq_getElem_cons h]
    simp [List.isPrefixOf]
  · rw [List.drop_eq_nil_of_le h]
    simp [List.isPrefixOf]
theorem hpB_eq (s : ByteArray) (p j : Nat) (hj : j < 13) : hpB s p j = opHit j (bt s p) (bt s (p + 1)) := by
  unfold hpB
  rw [Lib.extract_to_end, bt_list, bt_list]
  have h : j = 0 ∨ j = 1 ∨ j = 2 ∨ j = 3 ∨ j = 4 ∨ j = 5 ∨ j = 6 ∨ j = 7 ∨ j = 8 ∨ j = 9 ∨ j = 10 ∨ j = 11 ∨ j = 12 := by omega
  rcases h with rfl | rfl | rfl | rfl | rfl | rfl | rfl | rfl | rfl | rfl | rfl | rfl | rfl
  · exact pre2 _ _ _ _ (by decide) (by decide)
  · exact pre2 _ _ _ _ (by decide) (by decide)
  · exact pre2 _ _ _ _ (by decide) (by decide)
  all_goals exact pre1 _ _ _ (by decide)
theorem opS_size {j : Nat} (h : j < 13) : 1 ≤ (opS j).size ∧ (opS j).size ≤ 2 := by
  have h : j = 0 ∨ j = 1 ∨ j = 2 ∨ j = 3 ∨ j = 4 ∨ j = 5 ∨ j = 6 ∨ j = 7 ∨ j = 8 ∨ j = 9 ∨ j = 10 ∨ j = 11 ∨ j = 12 := by omega
  rcases h with rfl | rfl | rfl | rfl | rfl | rfl | rfl | rfl | rfl | rfl | rfl | rfl | rfl <;> decide
theorem opS_none : (opS 13).size = 0 := rfl
theorem opIx_le_size {s : ByteArray} {p : Nat} (h : opIx s p < 13) : p + (opS (opIx s p)).size ≤ s.size := by
  have hh := opFor_hit h
  unfold opIx at h ⊢
  generalize opFor (bt s p) (bt s (p + 1)) = j at h hh ⊢
  have hj : j = 0 ∨ j = 1 ∨ j = 2 ∨ j = 3 ∨ j = 4 ∨ j = 5 ∨ j = 6 ∨ j = 7 ∨ j = 8 ∨ j = 9 ∨ j = 10 ∨ j = 11 ∨ j = 12 := by omega
  have h2 : ∀ c : Nat, c ≠ 0 → bt s (p + 1) = c → p + 2 ≤ s.size := fun c hc he => by have := bt_lt (s := s) (i := p + 1) (by omega); omega
  have h1 : ∀ c : Nat, c ≠ 0 → bt s p = c → p + 1 ≤ s.size := fun c hc he => by have := bt_lt (s := s) (i := p) (by omega); omega
  rcases hj with rfl | rfl | rfl | rfl | rfl | rfl | rfl | rfl | rfl | rfl | rfl | rfl | rfl
  all_goals simp only [opHit, Bool.and_eq_true, beq_iff_eq] at hh
  · exact h2 _ (by omega) hh.2
  · exact h2 _ (by omega) hh.2
  · exact h2 _ (by omega) hh.2
  all_goals exact h1 _ (by omega) hh

/-- What an operator does. -/
def ap (j : Nat) (a b : Int) : Int :=
  match j with
  | 0 => truthI (decide (a ≤ b)) | 1 => truthI (decide (b ≤ a)) | 2 => truthI (a == b) | 3 => truthI (decide (a < b)) | 4 => truthI (decide (b < a)) | 5 => truthI (a == b)
  | 6 => a + b | 7 => a - b | 8 => a * b | 9 => a.tdiv b | 10 => a.tmod b
  | 11 => truthI (decide (0 < a) && decide (0 < b))
  | _ => truthI (decide (0 < a) || decide (0 < b))
/-- An operator, done: a value, or an error's number. -/
inductive Rk where
  | val (n : Int)
  | bad (e : Nat)
def rk (fm : Bool) (j : Nat) (a b : Int) : Rk :=
  if fm then .val 0 else if (j = 9 ∨ j = 10) ∧ b = 0 then .bad 11 else if within (ap j a b) then .val (ap j a b) else .bad 5

/-- A sign's doing: none if it is out of range. -/
def sg1 (M : Md) (c : Nat) (n : Int) : Option Int :=
  if c = 45 then some (-n) else if c = 33 then some (if M.fm then 0 else truthI (decide (n ≤ 0))) else if c = 124 then (if M.fm then some 0 else if within (n - M.here) then some (n - M.here) else none) else some n
/-- The signs of the k bytes from a place on, the last one first. -/
def back (s : ByteArray) (M : Md) (i : Nat) : Nat → Int → Option Int
  | 0, n => some n
  | k + 1, n => (sg1 M (bt s (i + k)) n).bind (back s M i k)
theorem back_left (s : ByteArray) (M : Md) (i : Nat) : ∀ (k : Nat) (n : Int), back s M i (k + 1) n = (back s M (i + 1) k n).bind (sg1 M (bt s i)) := by
  intro k
  induction k with
  | zero => intro n; simp [back]
  | succ k ih =>
    intro n
    rw [back]
    rw [show i + (k + 1) = i + 1 + k by omega]
    rw [show back s M (i + 1) (k + 1) n = (sg1 M (bt s (i + 1 + k)) n).bind (back s M (i + 1) k) from rfl]
    rcases sg1 M (bt s (i + 1 + k)) n with _ | m
    · rfl
    · simp [ih]

inductive Ki where
  | opd (at' deep : Nat)
  | sum (at' deep : Nat)
  | loop (n : Int) (at' deep : Nat)
def fin (s : ByteArray) (M : Md) (i last : Nat) : Res → Res
  | .ok n to => match back s M i (last - i) n with
    | some m => .ok m to
    | none => .err 5
  | .err e => .err e
/-- What an operand, an expression, or what follows a value, comes to; none: the fuel is too little. -/
def ev (s : ByteArray) (M : Md) : Nat → Ki → Option Res
  | 0, _ => none
  | f + 1, .opd i deep =>
    if bt s (rn s deep i) = 40 then
      if deep < 20 then
        match ev s M f (.sum (rn s deep i + 1) (deep + 1)) with
        | none => none
        | some (.err e) => some (.err e)
        | some (.ok n to) => if bt s (skp s (deep + 1) to) = 41 then some (fin s M i (rn s deep i) (.ok n (skp s (deep + 1) to + 1))) else some (.err 4)
      else some (.err 4)
    else some (fin s M i (rn s deep i) (numF s M (rn s deep i)))
  | f + 1, .sum i deep =>
    match ev s M f (.opd i deep) with
    | none => none
    | some (.err e) => some (.err e)
    | some (.ok n to) => ev s M f (.loop n to deep)
  | f + 1, .loop n i deep =>
    if opIx s (skp s deep i) = 13 then some (.ok n i)
    else match ev s M f (.opd (skp s deep i + (opS (opIx s (skp s deep i))).size) deep) with
      | none => none
      | some (.err e) => if M.fm = true ∧ deep = 0 then some (.ok n i) else some (.err e)
      | some (.ok b to) => match rk M.fm (opIx s (skp s deep i)) n b with
        | .bad e => some (.err e)
        | .val m => ev s M f (.loop m to deep)
end Go.Proofs.YtonhglhdbpmnhaaDoor
