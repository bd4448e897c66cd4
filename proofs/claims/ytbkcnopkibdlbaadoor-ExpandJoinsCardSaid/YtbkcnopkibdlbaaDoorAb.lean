/- What an escape at the front of a text is, and which is the first of a text: plain reckoning of package expand's texts. Nothing is proved of the program here. -/
import Derived.Test.YtbkcnopkibdlbaaDoorAa
import Derived.Lib.Bytealg
namespace Go.Proofs.YtbkcnopkibdlbaaDoor
open Go.RowKit

/-- The byte at i, or 0. -/
def bt (s : ByteArray) (i : Nat) : Nat := if h : i < s.size then (s[i]'h).toNat else 0
theorem bt_lt (s : ByteArray) (i : Nat) : bt s i < 256 := by
  unfold bt
  split
  · exact UInt8.toNat_lt _
  · omega
theorem bt_in {s : ByteArray} {i : Nat} (h : i < s.size) : bt s i = (s[i]'h).toNat := by unfold bt; rw [dif_pos h]
theorem bt_size {s : ByteArray} {i : Nat} (h : bt s i ≠ 0) : i < s.size := by
  unfold bt at h
  split at h
  · assumption
  · exact absurd rfl h
/-- May a byte be a short name? -/
def shB (c : Nat) : Bool := decide (33 ≤ c) && decide (c ≤ 126) && decide (c ≠ 40) && decide (c ≠ 91) && decide (c ≠ 43) && decide (c ≠ 45)
theorem shB_ne {c : Nat} (h : shB c = true) : c ≠ 0 := by
  rintro rfl
  simp [shB] at h
def grB (c : Nat) : Bool := decide (33 ≤ c) && decide (c ≤ 126)
/-- The text of \w. -/
def txF (s : ByteArray) : Option ByteArray :=
  if s.size = 0 ∨ bt s 0 = 92 then none
  else if Lib.indexByte (s.extract 1 s.size).data.toList (UInt8.ofNat (bt s 0)) < 0 then none
  else some (s.extract 1 (1 + (Lib.indexByte (s.extract 1 s.size).data.toList (UInt8.ofNat (bt s 0))).toNat))
/-- The place of the ] of a name. -/
def brI (s : ByteArray) : Int := Lib.indexByte (s.extract 0 (min s.size 22)).data.toList 93
/-- A name, and how long it is with what is around it. -/
def nmF (s : ByteArray) : ByteArray × Nat :=
  if bt s 0 = 40 then if shB (bt s 1) && shB (bt s 2) then (s.extract 1 3, 3) else (⟨#[]⟩, 0)
  else if bt s 0 = 91 then if decide (1 < brI s) && allB grB (s.extract 1 (brI s).toNat) then (s.extract 1 (brI s).toNat, (brI s).toNat + 1) else (⟨#[]⟩, 0)
  else if shB (bt s 0) then (s.extract 0 1, 1) else (⟨#[]⟩, 0)
structure Esc where
  k : Nat
  nm : ByteArray
  st : Int
  a : Nat
  z : Nat
def escV (x : Esc) : Value := .agg #[.int .u8 x.k, .string x.nm, .int .i64 x.st, .int .i64 x.a, .int .i64 x.z]
/-- The step of \n, and where the name begins. -/
def stF (s : ByteArray) : Int × Nat :=
  if bt s 1 = 110 then if bt s 2 = 43 then (1, 3) else if bt s 2 = 45 then (-1, 3) else (0, 2) else (0, 2)
def ndF (s : ByteArray) : Esc := ⟨bt s 1, (nmF (s.extract (stF s).2 s.size)).1, (stF s).1, 0, (stF s).2 + (nmF (s.extract (stF s).2 s.size)).2⟩
def ndB (s : ByteArray) : Bool := decide (0 < (nmF (s.extract (stF s).2 s.size)).2)
/-- The escape at the front of a text. -/
def rdF (s : ByteArray) (cp : Bool) : Option Esc :=
  if bt s 1 = 110 ∨ bt s 1 = 42 ∨ bt s 1 = 36 then if ndB s then some (ndF s) else none
  else if bt s 1 = 119 then if cp then none else (txF (s.extract 2 s.size)).map fun t => ⟨119, t, 0, 0, 4 + t.size⟩
  else if bt s 1 = 34 then some ⟨34, ⟨#[]⟩, 0, 0, s.size⟩
  else if bt s 1 = 92 ∨ bt s 1 = 46 then if cp then some ⟨bt s 1, ⟨#[]⟩, 0, 0, 2⟩ else none
  else none
/-- The first escape from a place on. -/
def fnF (s : ByteArray) (cp : Bool) : Nat → Nat → Option Esc
  | 0, _ => none
  | n + 1, i =>
    if i + 1 < s.size then
      if bt s i ≠ 92 then fnF s cp n (i + 1)
      else match rdF (s.extract i s.size) cp with
        | some x => some { x with a := i, z := i + x.z }
        | none => fnF s cp n (i + 2)
    else none
theorem fnF_more (s : ByteArray) (cp : Bool) : ∀ (n m i : Nat), s.size ≤ i + n → n ≤ m → fnF s cp m i = fnF s cp n i
  | 0, 0, _, _, _ => rfl
  | 0, m + 1, i, h, _ => by
    unfold fnF
    rw [if_neg (by omega)]
  | n + 1, 0, _, _, h => by omega
  | n + 1, m + 1, i, h, hm => by
    rw [fnF, fnF]
    rw [fnF_more s cp n m (i + 1) (by omega) (by omega), fnF_more s cp n m (i + 2) (by omega) (by omega)]
def fdF (s : ByteArray) (cp : Bool) (i : Nat) : Option Esc := fnF s cp s.size i
theorem fdF_end {s : ByteArray} {cp : Bool} {i : Nat} (h : ¬ i + 1 < s.size) : fdF s cp i = none := by
  unfold fdF
  cases hz : s.size with
  | zero => rfl
  | succ n => rw [fnF, if_neg h]
theorem fdF_step {s : ByteArray} {cp : Bool} {i : Nat} (h : i + 1 < s.size) : fdF s cp i =
    if bt s i ≠ 92 then fdF s cp (i + 1) else match rdF (s.extract i s.size) cp with
      | some x => some { x with a := i, z := i + x.z }
      | none => fdF s cp (i + 2) := by
  unfold fdF
  obtain ⟨n, hn⟩ : ∃ n, s.size = n + 1 := ⟨s.size - 1, by omega⟩
  conv => lhs; rw [hn, fnF]
  rw [if_pos h, fnF_more s cp n s.size (i + 1) (by omega) (by omega), fnF_more s cp n s.size (i + 2) (by omega) (by omega)]
/-- The first escape of a text. -/
def esF (s : ByteArray) (cp : Bool) : Option Esc := fdF s cp 0

theorem ib_lt : ∀ (l : List UInt8) (c : UInt8), Lib.indexByte l c < l.length
  | [], _ => by show (-1 : Int) < 0; omega
  | b :: l, c => by
    have ih := ib_lt l c
    have e : Lib.indexByte (b :: l) c = if b == c then 0 else if Lib.indexByte l c == -1 then -1 else Lib.indexByte l c + 1 := rfl
    rw [e]
    simp only [List.length_cons]
    split
    · omega
    · split <;> omega
theorem nmF_size (s : ByteArray) : (nmF s).2 ≤ s.size := by
  unfold nmF
  split
  · split
    · rename_i h
      simp only [Bool.and_eq_true] at h
      have := bt_size (shB_ne h.2)
      show 3 ≤ s.size
      omega
    · exact Nat.zero_le _
  · split
    · split
      · rename_i h
        simp only [Bool.and_eq_true, decide_eq_true_eq] at h
        have h1 := ib_lt (s.extract 0 (min s.size 22)).data.toList 93
        rw [← size_len, extract_size _ _ _ (Nat.min_le_left _ _)] at h1
        show (brI s).toNat + 1 ≤ s.size
        unfold brI at h ⊢
        omega
      · exact Nat.zero_le _
    · split
      · rename_i h
        have := bt_size (shB_ne h)
        show 1 ≤ s.size
        omega
      · exact Nat.zero_le _
theorem txF_size {s t : ByteArray} (h : txF s = some t) : t.size + 2 ≤ s.size := by
  unfold txF at h
  split at h
  · cases h
  · split at h
    · cases h
    · rename_i h0 h1
      injection h with h
      have hz : s.size ≠ 0 := fun e => h0 (.inl e)
      have h2 := ib_lt (s.extract 1 s.size).data.toList (UInt8.ofNat (bt s 0))
      rw [← size_len, extract_size _ _ _ (Nat.le_refl _)] at h2
      subst h
      rw [extract_size _ _ _ (by omega)]
      omega
/-- What is so of each escape that is found at the front of a text. -/
structure Good (s : ByteArray) (cp : Bool) (x : Esc) : Prop where
  z2 : 2 ≤ x.z
  z : x.z ≤ s.size
  a : x.a = 0
  k : x.k < 256
  kind : x.k = 110 ∨ x.k = 42 ∨ x.k = 36 ∨ (x.k = 119 ∧ cp = false ∧ x.nm.size < x.z) ∨ x.k = 34 ∨ ((x.k = 92 ∨ x.k = 46) ∧ cp = true)
theorem rdF_good {s : ByteArray} {cp : Bool} {x : Esc} (hs : 2 ≤ s.size) (h : rdF s cp = some x) : Good s cp x := by
  unfold rdF at h
  split at h
  · rename_i hk
    split at h
    · rename_i hb
      injection h with h
      have hn := nmF_size (s.extract (stF s).2 s.size)
      rw [extract_size _ _ _ (Nat.le_refl _)] at hn
      have h2 : 2 ≤ (stF s).2 := by
        unfold stF
        split
        · split
          · show 2 ≤ 3; omega
          · split
            · show 2 ≤ 3; omega
            · exact Nat.le_refl _
        · exact Nat.le_refl _
      have h3 := of_decide_eq_true hb
      subst h
      refine ⟨by show 2 ≤ (stF s).2 + _; omega, by show (stF s).2 + _ ≤ _; omega, rfl, bt_lt _ _, ?_⟩
      rcases hk with e | e | e
      · exact .inl e
      · exact .inr (.inl e)
      · exact .inr (.inr (.inl e))
    · cases h
  · split at h
    · cases cp
      · simp only [Bool.false_eq_true, if_false, Option.map_eq_some_iff] at h
        obtain ⟨t, ht, rfl⟩ := h
        have := txF_size ht
        rw [extract_size _ _ _ (Nat.le_refl _)] at this
        exact ⟨by show 2 ≤ 4 + t.size; omega, by show 4 + t.size ≤ _; omega, rfl, by show 119 < 256; omega, .inr (.inr (.inr (.inl ⟨rfl, rfl, by show t.size < 4 + t.size; omega⟩)))⟩
      · simp at h
    · split at h
      · injection h with h
        subst h
        exact ⟨hs, Nat.le_refl _, rfl, by show 34 < 256; omega, .inr (.inr (.inr (.inr (.inl rfl))))⟩
      · split at h
        · rename_i hk
          cases cp
          · simp at h
          · simp only [if_true] at h
            injection h with h
            subst h
            exact ⟨Nat.le_refl _, hs, rfl, bt_lt _ _, .inr (.inr (.inr (.inr (.inr ⟨hk, rfl⟩))))⟩
        · cases h
/-- What is so of each escape that is found in a text. -/
structure Fine (s : ByteArray) (cp : Bool) (x : Esc) : Prop where
  az : x.a + 2 ≤ x.z
  z : x.z ≤ s.size
  k : x.k < 256
  kind : x.k = 110 ∨ x.k = 42 ∨ x.k = 36 ∨ (x.k = 119 ∧ cp = false ∧ x.nm.size < s.size) ∨ x.k = 34 ∨ ((x.k = 92 ∨ x.k = 46) ∧ cp = true)
theorem fnF_fine {s : ByteArray} {cp : Bool} {x : Esc} : ∀ {n i : Nat}, fnF s cp n i = some x → Fine s cp x
  | 0, _, h => by cases h
  | n + 1, i, h => by
    unfold fnF at h
    split at h
    · split at h
      · exact fnF_fine h
      · split at h
        · rename_i y hy
          injection h with h
          have hz := extract_size s i s.size (Nat.le_refl _)
          have g := rdF_good (by omega) hy
          have g1 := g.z2
          have g2 := g.z
          have g3 := g.k
          have g4 := g.kind
          subst h
          refine ⟨by show i + 2 ≤ i + y.z; omega, by show i + y.z ≤ _; omega, g3, ?_⟩
          rcases g4 with e | e | e | ⟨e, e2, e3⟩ | e | e
          · exact .inl e
          · exact .inr (.inl e)
          · exact .inr (.inr (.inl e))
          · exact .inr (.inr (.inr (.inl ⟨e, e2, by show y.nm.size < s.size; omega⟩)))
          · exact .inr (.inr (.inr (.inr (.inl e))))
          · exact .inr (.inr (.inr (.inr (.inr e))))
        · exact fnF_fine h
    · cases h
theorem esF_fine {s : ByteArray} {cp : Bool} {x : Esc} (h : esF s cp = some x) : Fine s cp x := fnF_fine h
theorem sh_ib : ∀ c : Fin 256, (Lib.indexByte [40, 91, 43, 45] (UInt8.ofNat c.val) < 0) ↔ (c.val ≠ 40 ∧ c.val ≠ 91 ∧ c.val ≠ 43 ∧ c.val ≠ 45) := by decide +kernel
end Go.Proofs.YtbkcnopkibdlbaaDoor
