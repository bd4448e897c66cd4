/- The plain functions that package measure's contracts speak of: bytes of a text, digits, blanks and signs, numbers, operators. -/
import Derived.WalkKit
namespace Go.Proofs.YtonhglhdbpmnhaaDoor

/-- The byte of a text at a place; 0 behind its end. -/
def bt (s : ByteArray) (i : Nat) : Nat := if h : i < s.size then (s[i]'h).toNat else 0
theorem bt_lt {s : ByteArray} {i : Nat} (h : ¬ bt s i = 0) : i < s.size := by
  unfold bt at h
  split at h
  · assumption
  · exact absurd rfl h
theorem bt_256 (s : ByteArray) (i : Nat) : bt s i < 256 := by
  unfold bt
  split
  · exact UInt8.toNat_lt _
  · omega

def isDig (c : Nat) : Bool := decide (48 ≤ (c : Int)) && decide ((c : Int) ≤ 57)
def within (n : Int) : Bool := decide (-1000000000 ≤ n) && decide (n ≤ 1000000000)
def truthI (b : Bool) : Int := if b then 1 else 0
theorem within_iff {n : Int} : within n = true ↔ -1000000000 ≤ n ∧ n ≤ 1000000000 := by simp [within]
theorem isDig_iff {c : Nat} : isDig c = true ↔ 48 ≤ c ∧ c ≤ 57 := by simp [isDig]; omega

/-- From i on as far as p goes, at most f steps. -/
def scanTo (p : Nat → Bool) : Nat → Nat → Nat
  | 0, i => i
  | f + 1, i => if p i then scanTo p f (i + 1) else i
theorem scanTo_eq (p : Nat → Bool) : ∀ (f i j : Nat), i ≤ j → j ≤ i + f → (∀ k, i ≤ k → k < j → p k = true) → (p j = false ∨ j = i + f) → scanTo p f i = j := by
  intro f
  induction f with
  | zero => intro i j h1 h2 _ _; simp [scanTo]; omega
  | succ f ih =>
    intro i j h1 h2 h3 h4
    by_cases h : i = j
    · subst h
      rcases h4 with h4 | h4
      · simp [scanTo, h4]
      · omega
    · rw [scanTo, h3 i (by omega) (by omega), if_pos rfl]
      exact ih (i + 1) j (by omega) (by omega) (fun k a b => h3 k (by omega) b) (by rcases h4 with h4 | h4; exact .inl h4; exact .inr (by omega))
theorem scanTo_spec (p : Nat → Bool) : ∀ (f i : Nat), i ≤ scanTo p f i ∧ scanTo p f i ≤ i + f ∧ (∀ k, i ≤ k → k < scanTo p f i → p k = true) ∧ (p (scanTo p f i) = false ∨ scanTo p f i = i + f) := by
  intro f
  induction f with
  | zero => intro i; simp [scanTo]; intro k a b; omega
  | succ f ih =>
    intro i
    by_cases h : p i = true
    · rw [scanTo, if_pos h]
      obtain ⟨a, b, c, d⟩ := ih (i + 1)
      refine ⟨by omega, by omega, fun k x y => ?_, by rcases d with d | d; exact .inl d; exact .inr (by omega)⟩
      by_cases hk : k = i
      · rw [hk]; exact h
      · exact c k (by omega) y
    · have h' : p i = false := by simpa using h
      rw [scanTo, if_neg h]
      exact ⟨by omega, by omega, fun k x y => by omega, .inl h'⟩

def isSign (c : Nat) : Bool := c == 43 || c == 45 || c == 33 || c == 124
/-- A blank that is passed. -/
def blk (s : ByteArray) (deep i : Nat) : Bool := decide (0 < deep) && (bt s i == 32)
def skp (s : ByteArray) (deep at' : Nat) : Nat := scanTo (blk s deep) s.size at'
def runny (s : ByteArray) (deep i : Nat) : Bool := isSign (bt s i) || blk s deep i
def rn (s : ByteArray) (deep at' : Nat) : Nat := scanTo (runny s deep) s.size at'
theorem blk_lt {s : ByteArray} {deep i : Nat} (h : blk s deep i = true) : i < s.size := by
  simp [blk] at h; exact bt_lt (by omega)
theorem isSign_lt {s : ByteArray} {i : Nat} (h : isSign (bt s i) = true) : i < s.size := by
  simp [isSign] at h; exact bt_lt (by omega)
theorem runny_lt {s : ByteArray} {deep i : Nat} (h : runny s deep i = true) : i < s.size := by
  simp [runny] at h
  rcases h with h | h
  · exact isSign_lt h
  · exact blk_lt h
theorem scan_le {s : ByteArray} {p : Nat → Bool} {i : Nat} (hp : ∀ k, p k = true → k < s.size) (hi : i ≤ s.size) : scanTo p s.size i ≤ s.size := by
  obtain ⟨a, b, c, d⟩ := scanTo_spec p s.size i
  rcases Nat.lt_or_ge s.size (scanTo p s.size i) with h | h
  · have := hp _ (c s.size hi h); omega
  · exact h
theorem scan_eq {s : ByteArray} {p : Nat → Bool} {i j : Nat} (hi : i ≤ j) (hj : j ≤ s.size) (h : ∀ k, i ≤ k → k < j → p k = true) (hs : p j = false) : scanTo p s.size i = j :=
  scanTo_eq p _ _ _ hi (by omega) h (.inl hs)
theorem scan_stop {s : ByteArray} {p : Nat → Bool} {i : Nat} (hp : ∀ k, p k = true → k < s.size) (hi : i ≤ s.size) : p (scanTo p s.size i) = false := by
  obtain ⟨a, b, c, d⟩ := scanTo_spec p s.size i
  rcases d with d | d
  · exact d
  · have hle := scan_le hp hi
    have : scanTo p s.size i = s.size := by omega
    rw [this]
    by_cases h : p s.size = true
    · have := hp _ h; omega
    · simpa using h
theorem skp_ge (s : ByteArray) (deep i : Nat) : i ≤ skp s deep i := (scanTo_spec _ _ _).1
theorem skp_le {s : ByteArray} {deep i : Nat} (h : i ≤ s.size) : skp s deep i ≤ s.size := scan_le (fun _ => blk_lt) h
theorem skp_stop {s : ByteArray} {deep i : Nat} (h : i ≤ s.size) : blk s deep (skp s deep i) = false := scan_stop (fun _ => blk_lt) h
theorem rn_ge (s : ByteArray) (deep i : Nat) : i ≤ rn s deep i := (scanTo_spec _ _ _).1
theorem rn_le {s : ByteArray} {deep i : Nat} (h : i ≤ s.size) : rn s deep i ≤ s.size := scan_le (fun _ => runny_lt) h
theorem rn_stop {s : ByteArray} {deep i : Nat} (h : i ≤ s.size) : runny s deep (rn s deep i) = false := scan_stop (fun _ => runny_lt) h
theorem rn_all {s : ByteArray} {deep i k : Nat} (h1 : i ≤ k) (h2 : k < rn s deep i) : runny s deep k = true := (scanTo_spec _ _ _).2.2.1 k h1 h2

/-- How many digits stand from a place on, at most nine; what they say. -/
def dCount (s : ByteArray) (i : Nat) : Nat := scanTo (fun k => isDig (bt s k)) 9 i - i
def dVal (s : ByteArray) (i : Nat) : Nat → Nat
  | 0 => 0
  | k + 1 => dVal s i k * 10 + (bt s (i + k) - 48)
theorem dCount_le (s : ByteArray) (i : Nat) : dCount s i ≤ 9 := by
  have := (scanTo_spec (fun k => isDig (bt s k)) 9 i).2.1
  unfold dCount; omega
theorem dCount_all {s : ByteArray} {i k : Nat} (h : k < dCount s i) : isDig (bt s (i + k)) = true := by
  have := (scanTo_spec (fun k => isDig (bt s k)) 9 i).2.2.1 (i + k) (by omega) (by unfold dCount at h; omega)
  exact this
theorem dCount_eq {s : ByteArray} {i k : Nat} (hk : k ≤ 9) (h : ∀ j, j < k → isDig (bt s (i + j)) = true) (hs : isDig (bt s (i + k)) = false ∨ k = 9) : dCount s i = k := by
  unfold dCount
  rw [scanTo_eq _ 9 i (i + k) (by omega) (by omega) (fun j a b => by have := h (j - i) (by omega); rw [show i + (j - i) = j by omega] at this; exact this) (by rcases hs with hs | hs; exact .inl hs; exact .inr (by omega))]
  omega
theorem dCount_pos {s : ByteArray} {i : Nat} (h : isDig (bt s i) = true) : 0 < dCount s i := by
  obtain ⟨a, b, c, d⟩ := scanTo_spec (fun k => isDig (bt s k)) 9 i
  unfold dCount
  rcases Nat.lt_or_ge i (scanTo (fun k => isDig (bt s k)) 9 i) with hl | hl
  · omega
  · have he : scanTo (fun k => isDig (bt s k)) 9 i = i := by omega
    rw [he] at d
    rcases d with d | d
    · have d' : isDig (bt s i) = false := d
      rw [h] at d'; cases d'
    · omega
theorem dCount_size {s : ByteArray} {i : Nat} (hi : i ≤ s.size) : i + dCount s i ≤ s.size := by
  rcases Nat.eq_zero_or_pos (dCount s i) with h | h
  · omega
  · have := dCount_all (s := s) (i := i) (k := dCount s i - 1) (by omega)
    have h2 := isDig_iff.1 this
    have := bt_lt (s := s) (i := i + (dCount s i - 1)) (by omega)
    omega
theorem dVal_lt {s : ByteArray} {i : Nat} : ∀ {k : Nat}, k ≤ 9 → (∀ j, j < k → isDig (bt s (i + j)) = true) → dVal s i k < 10 ^ k := by
  intro k
  induction k with
  | zero => intro _ _; simp [dVal]
  | succ k ih =>
    intro hk h
    have h1 := ih (by omega) (fun j hj => h j (by omega))
    have h2 := isDig_iff.1 (h k (by omega))
    rw [dVal, Nat.pow_succ]
    omega
theorem pow9 {k : Nat} (h : k ≤ 9) : 10 ^ k ≤ 1000000000 := by
  have : (10 : Nat) ^ k ≤ 10 ^ 9 := Nat.pow_le_pow_right (by omega) h
  simpa using this
theorem dVal_bd {s : ByteArray} {i k : Nat} (hk : k ≤ 9) (h : ∀ j, j < k → isDig (bt s (i + j)) = true) : dVal s i k < 1000000000 :=
  Nat.lt_of_lt_of_le (dVal_lt hk h) (pow9 hk)

/-- What one of a scale is. -/
def unitF (c : Nat) (sz vs : Int) : Option Int :=
  if ((c : Int) == 117) = true then some 1 else if ((c : Int) == 112) = true then some 10 else if ((c : Int) == 80) = true then some 120 else if ((c : Int) == 105) = true then some 720 else if ((c : Int) == 99) = true then some 283
  else if ((c : Int) == 109) = true then some (10 * sz) else if ((c : Int) == 110) = true then some (5 * sz) else if ((c : Int) == 118) = true then some vs else none

theorem unitF_bd {c : Nat} {sz vs n : Int} (h : unitF c sz vs = some n) (h1 : 0 ≤ sz) (h2 : sz ≤ 1000000) (h3 : 0 ≤ vs) (h4 : vs ≤ 1000000) : 0 ≤ n ∧ n ≤ 10000000 := by
  unfold unitF at h
  split at h
  · cases h; omega
  split at h
  · cases h; omega
  split at h
  · cases h; omega
  split at h
  · cases h; omega
  split at h
  · cases h; omega
  split at h
  · cases h; omega
  split at h
  · cases h; omega
  split at h
  · cases h; omega
  · cases h

/-- What a reader is set up with, but for its place and its depth. -/
structure Md where
  one : Int
  sz : Int
  vs : Int
  here : Int
  fm : Bool
def Md.okay (M : Md) : Prop := 0 ≤ M.one ∧ M.one ≤ 10000000 ∧ 0 ≤ M.sz ∧ M.sz ≤ 1000000 ∧ 0 ≤ M.vs ∧ M.vs ≤ 1000000 ∧ -1000000000 ≤ M.here ∧ M.here ≤ 1000000000

/-- What comes of reading: a value and where it ends, or an error. -/
inductive Res where
  | ok (n : Int) (to : Nat)
  | err (e : Nat)

/-- A value within its bounds; in form only, 0. -/
def bdd (fm : Bool) (n : Int) : Option Int := if fm then some 0 else if within n then some n else none
def p10 (k : Nat) : Nat := 10 ^ k
theorem p10_0 : p10 0 = 1 := rfl
theorem p10_succ (k : Nat) : p10 (k + 1) = p10 k * 10 := Nat.pow_succ ..
theorem p10_pos (k : Nat) : 1 ≤ p10 k := Nat.one_le_iff_ne_zero.2 (by unfold p10; exact Nat.ne_of_gt (Nat.pow_pos (by omega)))
theorem p10_le {k : Nat} (h : k ≤ 9) : p10 k ≤ 1000000000 := pow9 h
def nPart (s : ByteArray) (i : Nat) : Bool := ((bt s (i + dCount s i) : Int) == 46) && isDig (bt s (i + dCount s i + 1))
def nEnd (s : ByteArray) (i : Nat) : Nat := if nPart s i then i + dCount s i + 1 + dCount s (i + dCount s i + 1) else i + dCount s i
def nOne (s : ByteArray) (M : Md) (i : Nat) : Int := (unitF (bt s (nEnd s i)) M.sz M.vs).getD M.one
def nTo (s : ByteArray) (M : Md) (i : Nat) : Nat := nEnd s i + (if (unitF (bt s (nEnd s i)) M.sz M.vs).isSome then 1 else 0)
def nVal (s : ByteArray) (M : Md) (i : Nat) : Int :=
  if nPart s i then dVal s i (dCount s i) * nOne s M i + dVal s (i + dCount s i + 1) (dCount s (i + dCount s i + 1)) * nOne s M i / p10 (dCount s (i + dCount s i + 1))
  else dVal s i (dCount s i) * nOne s M i
def numF (s : ByteArray) (M : Md) (i : Nat) : Res :=
  if dCount s i = 0 ∧ nPart s i = false then .err 4
  else match bdd M.fm (nVal s M i) with
    | some n => .ok n (nTo s M i)
    | none => .err 5
theorem nOne_bd {s : ByteArray} {M : Md} (hM : M.okay) (i : Nat) : 0 ≤ nOne s M i ∧ nOne s M i ≤ 10000000 := by
  obtain ⟨h1, h2, h3, h4, h5, h6, _⟩ := hM
  unfold nOne
  rcases h : unitF (bt s (nEnd s i)) M.sz M.vs with _ | n
  · exact ⟨h1, h2⟩
  · exact unitF_bd h h3 h4 h5 h6
theorem mul_bd {a : Nat} {b : Int} (ha : a < 1000000000) (h1 : 0 ≤ b) (h2 : b ≤ 10000000) : 0 ≤ (a : Int) * b ∧ (a : Int) * b ≤ 10000000000000000 := by
  refine ⟨Int.mul_nonneg (by omega) h1, ?_⟩
  have h3 : (a : Int) * b ≤ (a : Int) * 10000000 := Int.mul_le_mul_of_nonneg_left h2 (by omega)
  omega
theorem div_bd {x : Int} {p : Nat} (h0 : 0 ≤ x) (h1 : x ≤ 10000000000000000) (hp : 1 ≤ p) : 0 ≤ x / (p : Int) ∧ x / (p : Int) ≤ 10000000000000000 :=
  ⟨Int.ediv_nonneg h0 (by omega), Int.le_trans (Int.ediv_le_self _ h0) h1⟩
theorem dVal_bd' (s : ByteArray) (i : Nat) : dVal s i (dCount s i) < 1000000000 := dVal_bd (dCount_le s i) (fun _ h => dCount_all h)
theorem nEnd_le {s : ByteArray} {i : Nat} (hi : i ≤ s.size) : nEnd s i ≤ s.size := by
  unfold nEnd
  by_cases h : nPart s i = true
  · rw [if_pos h]
    simp only [nPart, Bool.and_eq_true] at h
    have h2 := isDig_iff.1 h.2
    have := bt_lt (s := s) (i := i + dCount s i + 1) (by omega)
    have := dCount_size (s := s) (i := i + dCount s i + 1) (by omega)
    exact this
  · rw [if_neg h]; exact dCount_size hi
theorem unitF_zero (sz vs : Int) : unitF 0 sz vs = none := by simp [unitF]
theorem nTo_le {s : ByteArray} {M : Md} {i : Nat} (hi : i ≤ s.size) : nTo s M i ≤ s.size := by
  unfold nTo
  rcases h : unitF (bt s (nEnd s i)) M.sz M.vs with _ | n
  · simpa using nEnd_le hi
  · have : nEnd s i < s.size := bt_lt (fun h0 => by rw [h0, unitF_zero] at h; cases h)
    simp; omega
end Go.Proofs.YtonhglhdbpmnhaaDoor
