/- Plain reckoning: numbers in letters, in roman numerals and in digits, written and read. -/
import GoSem.Op.String
import Derived.Laws.Strings
namespace Go.Proofs.YtaamjccffkdlhaaGreatDoor

/-- A number in letters, from the letter f on. -/
def ltr (f n : Nat) : List UInt8 :=
  if _h : n = 0 then [] else ltr f ((n - 1) / 26) ++ [(f + (n - 1) % 26).toUInt8]
  termination_by n
  decreasing_by omega
theorem ltr_0 (f : Nat) : ltr f 0 = [] := by rw [ltr]; rfl
theorem ltr_pos (f : Nat) {n : Nat} (h : n ≠ 0) : ltr f n = ltr f ((n - 1) / 26) ++ [(f + (n - 1) % 26).toUInt8] := by rw [ltr, dif_neg h]
theorem ltr_len (f : Nat) : ∀ k n : Nat, n < 26 ^ k → (ltr f n).length ≤ k
  | 0, n, h => by
    obtain rfl : n = 0 := by omega
    rw [ltr_0]; exact Nat.le_refl _
  | k + 1, n, h => by
    by_cases h0 : n = 0
    · subst h0; rw [ltr_0]; exact Nat.zero_le _
    · rw [ltr_pos f h0, List.length_append]
      have := ltr_len f k ((n - 1) / 26) (by
        rw [Nat.pow_succ] at h
        exact Nat.div_lt_of_lt_mul (by omega))
      simp; omega
theorem ltr_small {f n : Nat} (h : n ≤ 1000000000) : (ltr f n).length ≤ 7 := ltr_len f 7 n (by omega)

/-- The order of lengths and letters. -/
def upTo (s t : List UInt8) : Prop := s.length < t.length ∨ (s.length = t.length ∧ Op.bytesLess s t = true)
theorem less_snoc : ∀ {s t : List UInt8} (x y : UInt8), s.length = t.length → Op.bytesLess s t = true → Op.bytesLess (s ++ [x]) (t ++ [y]) = true
  | [], [], _, _, _, h => by simp [Op.bytesLess] at h
  | a :: s, b :: t, x, y, hl, h => by
    simp only [List.length_cons, Nat.add_right_cancel_iff] at hl
    simp only [Op.bytesLess, List.cons_append] at h ⊢
    by_cases h1 : a < b
    · simp [h1]
    · by_cases h2 : a = b
      · subst h2
        simp at h
        simp [less_snoc x y hl h]
      · simp_all
theorem less_last : ∀ (s : List UInt8) {x y : UInt8}, x < y → Op.bytesLess (s ++ [x]) (s ++ [y]) = true
  | [], x, y, h => by simp [Op.bytesLess, h]
  | a :: s, x, y, h => by simp [Op.bytesLess, less_last s h]
theorem upTo_next (f : Nat) (hf : f + 26 ≤ 256) : ∀ n : Nat, upTo (ltr f n) (ltr f (n + 1)) := by
  intro n
  induction n using Nat.strongRecOn with
  | ind n ih =>
    by_cases h0 : n = 0
    · subst h0
      left; rw [ltr_0, ltr_pos f (by omega)]; simp
    · rw [ltr_pos f h0, ltr_pos f (n := n + 1) (by omega)]
      by_cases hr : (n - 1) % 26 < 25
      · have e1 : (n + 1 - 1) / 26 = (n - 1) / 26 := by omega
        have e2 : (n + 1 - 1) % 26 = (n - 1) % 26 + 1 := by omega
        rw [e1, e2]
        right
        refine ⟨by simp, less_last _ ?_⟩
        rw [UInt8.lt_iff_toNat_lt]
        simp
        omega
      · have e1 : (n + 1 - 1) / 26 = (n - 1) / 26 + 1 := by omega
        rw [e1]
        rcases ih ((n - 1) / 26) (by omega) with h | ⟨h1, h2⟩
        · left; simp; omega
        · right; exact ⟨by simp [h1], less_snoc _ _ h1 h2⟩

/-- The numerals, greatest first. -/
def rmTab : List (Nat × List UInt8) :=
  [(1000, [109]), (900, [99, 109]), (500, [100]), (400, [99, 100]), (100, [99]), (90, [120, 99]), (50, [108]), (40, [120, 108]), (10, [120]), (9, [105, 120]), (5, [118]), (4, [105, 118]), (1, [105])]
def rpt (t : List UInt8) : Nat → List UInt8
  | 0 => []
  | k + 1 => t ++ rpt t k
/-- A number in roman numerals, by what is left of the table. -/
def rmn : List (Nat × List UInt8) → Nat → List UInt8
  | [], _ => []
  | (v, t) :: r, n => rpt t (n / v) ++ rmn r (n % v)
def romL (n : Nat) : List UInt8 := rmn rmTab n

/-- Reading: how often a text stands ahead, what is left. -/
def pre? : List UInt8 → List UInt8 → Option (List UInt8)
  | [], l => some l
  | _ :: _, [] => none
  | a :: t, b :: l => if a = b then pre? t l else none
/-- One numeral, as often as it stands ahead, while the number is at most 39999. -/
def rd1 (v : Nat) (t : List UInt8) : Nat → List UInt8 → Nat → List UInt8 × Nat
  | 0, l, n => (l, n)
  | f + 1, l, n => if n ≤ 39999 then match pre? t l with | some l' => rd1 v t f l' (n + v) | none => (l, n) else (l, n)
def rdA : List (Nat × List UInt8) → List UInt8 → Nat → List UInt8 × Nat
  | [], l, n => (l, n)
  | (v, t) :: r, l, n => rdA r (rd1 v t (l.length + 1) l n).1 (rd1 v t (l.length + 1) l n).2
/-- .. without the bound. -/
def ru1 (v : Nat) (t : List UInt8) : Nat → List UInt8 → Nat → List UInt8 × Nat
  | 0, l, n => (l, n)
  | f + 1, l, n => match pre? t l with | some l' => ru1 v t f l' (n + v) | none => (l, n)
def ruA : List (Nat × List UInt8) → List UInt8 → Nat → List UInt8 × Nat
  | [], l, n => (l, n)
  | (v, t) :: r, l, n => ruA r (ru1 v t (l.length + 1) l n).1 (ru1 v t (l.length + 1) l n).2
theorem ru1_ge (v : Nat) (t : List UInt8) : ∀ (f : Nat) (l : List UInt8) (n : Nat), n ≤ (ru1 v t f l n).2
  | 0, _, n => Nat.le_refl n
  | f + 1, l, n => by
    unfold ru1
    split
    · exact Nat.le_trans (by omega) (ru1_ge v t f _ (n + v))
    · exact Nat.le_refl n
theorem ruA_ge : ∀ (T : List (Nat × List UInt8)) (l : List UInt8) (n : Nat), n ≤ (ruA T l n).2
  | [], _, n => Nat.le_refl n
  | (v, t) :: r, l, n => Nat.le_trans (ru1_ge v t _ l n) (ruA_ge r _ _)
theorem rd1_eq (v : Nat) (t : List UInt8) : ∀ (f : Nat) (l : List UInt8) (n : Nat), (ru1 v t f l n).2 ≤ 39999 → rd1 v t f l n = ru1 v t f l n
  | 0, _, _, _ => rfl
  | f + 1, l, n, h => by
    unfold ru1 at h ⊢
    unfold rd1
    cases hp : pre? t l with
    | none => simp
    | some l' =>
      simp only [hp] at h ⊢
      have := ru1_ge v t f l' (n + v)
      rw [if_pos (by omega), rd1_eq v t f l' (n + v) h]
theorem rdA_eq : ∀ (T : List (Nat × List UInt8)) (l : List UInt8) (n : Nat), (ruA T l n).2 ≤ 39999 → rdA T l n = ruA T l n
  | [], _, _, _ => rfl
  | (v, t) :: r, l, n, h => by
    unfold ruA at h ⊢
    unfold rdA
    have := ruA_ge r (ru1 v t (l.length + 1) l n).1 (ru1 v t (l.length + 1) l n).2
    rw [rd1_eq v t _ l n (by omega), rdA_eq r _ _ h]
theorem ru1_add (v : Nat) (t : List UInt8) (a : Nat) : ∀ (f : Nat) (l : List UInt8) (n : Nat), ru1 v t f l (a + n) = ((ru1 v t f l n).1, a + (ru1 v t f l n).2)
  | 0, _, _ => rfl
  | f + 1, l, n => by
    unfold ru1
    cases hp : pre? t l with
    | none => rfl
    | some l' => simp only [Nat.add_assoc, ru1_add v t a f l' (n + v)]
theorem ruA_add (a : Nat) : ∀ (T : List (Nat × List UInt8)) (l : List UInt8) (n : Nat), ruA T l (a + n) = ((ruA T l n).1, a + (ruA T l n).2)
  | [], _, _ => rfl
  | (v, t) :: r, l, n => by
    unfold ruA
    rw [ru1_add, ruA_add]
/-- Below 1000 each text is read as its number. -/
theorem read_small : ∀ k : Fin 1000, ruA rmTab.tail (rmn rmTab.tail k.val) 0 = ([], k.val) ∧ ((rmn rmTab.tail k.val).head? != some 109) = true := by decide +kernel
theorem rpt_len (k : Nat) : (rpt [109] k).length = k := by
  induction k with
  | zero => rfl
  | succ k ih => simp [rpt, ih]
theorem ru1_m (R : List UInt8) (hR : R.head? ≠ some 109) : ∀ (k f n : Nat), k < f → ru1 1000 [109] f (rpt [109] k ++ R) n = (R, n + 1000 * k)
  | 0, f + 1, n, _ => by
    unfold ru1
    cases R with
    | nil => rfl
    | cons c R =>
      have : ¬ (109 = c) := fun e => hR (by rw [← e]; rfl)
      simp [rpt, pre?, this]
  | k + 1, f + 1, n, h => by
    unfold ru1
    have : pre? [109] (rpt [109] (k + 1) ++ R) = some (rpt [109] k ++ R) := by simp [rpt, pre?]
    simp only [this]
    rw [ru1_m R hR k f (n + 1000) (by omega)]
    congr 1; omega
theorem romL_eq (n : Nat) : romL n = rpt [109] (n / 1000) ++ rmn rmTab.tail (n % 1000) := rfl
/-- What is written is read again. -/
theorem read_rom {n : Nat} (h : n ≤ 39999) : rdA rmTab (romL n) 0 = ([], n) := by
  have hs := read_small ⟨n % 1000, Nat.mod_lt _ (by omega)⟩
  have e : ruA rmTab (romL n) 0 = ([], n) := by
    show ruA rmTab.tail (ru1 1000 [109] ((romL n).length + 1) (romL n) 0).1 (ru1 1000 [109] ((romL n).length + 1) (romL n) 0).2 = _
    rw [romL_eq, ru1_m _ (by simpa using hs.2) _ _ _ (by simp [rpt_len]; omega)]
    simp only [Nat.zero_add]
    have := ruA_add (1000 * (n / 1000)) rmTab.tail (rmn rmTab.tail (n % 1000)) 0
    rw [Nat.add_zero, hs.1] at this
    rw [this]
    congr 1
    show 1000 * (n / 1000) + n % 1000 = n
    omega
  rw [rdA_eq _ _ _ (by rw [e]; exact h), e]
/-- What a small digit is. -/
def dgv (c : UInt8) : Nat := if c = 105 then 1 else if c = 118 then 5 else if c = 120 then 10 else if c = 108 then 50 else if c = 99 then 100 else if c = 100 then 500 else if c = 109 then 1000 else 0
/-- The document's reading: each digit, less than nothing ahead of a greater one; none where a byte is no digit. -/
def sbt : List UInt8 → Int → Option Int
  | [], n => some n
  | c :: l, n => if dgv c = 0 then none else sbt l (n + (if dgv c < (l.head?.map dgv).getD 0 then -(dgv c : Int) else dgv c))
theorem sbt_cons (c : UInt8) (l : List UInt8) (n : Int) : sbt (c :: l) n = if dgv c = 0 then none else sbt l (n + (if dgv c < (l.head?.map dgv).getD 0 then -(dgv c : Int) else dgv c)) := rfl
theorem sbt_small : ∀ k : Fin 1000, sbt (rmn rmTab.tail k.val) 0 = some (k.val : Int) := by decide +kernel
theorem sbt_add (a : Int) : ∀ (l : List UInt8) (n : Int), sbt l (a + n) = (sbt l n).map (a + ·)
  | [], _ => rfl
  | c :: l, n => by
    unfold sbt
    split
    · rfl
    · rw [Int.add_assoc, sbt_add a l]
theorem dgv_le (c : UInt8) : dgv c ≤ 1000 := by unfold dgv; (repeat' split) <;> omega
theorem sbt_m (R : List UInt8) : ∀ (k : Nat) (n : Int), sbt (rpt [109] k ++ R) n = sbt R (n + 1000 * k)
  | 0, n => by simp [rpt]
  | k + 1, n => by
    show sbt (109 :: (rpt [109] k ++ R)) n = _
    rw [sbt_cons]
    have h1 : dgv 109 = 1000 := rfl
    have h2 : ((List.head? (rpt [109] k ++ R)).map dgv).getD 0 ≤ 1000 := by
      cases (rpt [109] k ++ R).head? with
      | none => simp
      | some c => simpa using dgv_le c
    rw [h1, if_neg (by omega), if_neg (by omega), sbt_m R k, show n + ((1000 : Nat) : Int) + 1000 * (k : Int) = n + 1000 * ((k + 1 : Nat) : Int) by omega]
theorem sbt_rom {n : Nat} : sbt (romL n) 0 = some (n : Int) := by
  rw [romL_eq, sbt_m]
  have := sbt_add (1000 * ((n / 1000 : Nat) : Int)) (rmn rmTab.tail (n % 1000)) 0
  rw [Int.add_zero] at this
  rw [Int.zero_add, this, sbt_small ⟨n % 1000, Nat.mod_lt _ (by omega)⟩]
  simp only [Option.map_some, Option.some.injEq]
  omega
theorem rom_len_small : ∀ k : Fin 1000, (rmn rmTab.tail k.val).length ≤ 12 := by decide +kernel
theorem romL_len {n : Nat} (h : n ≤ 39999) : (romL n).length ≤ 51 := by
  rw [romL_eq, List.length_append, rpt_len]
  have := rom_len_small ⟨n % 1000, Nat.mod_lt _ (by omega)⟩
  simp only at this
  omega
theorem rmn_ge {v n : Nat} {t : List UInt8} {r : List (Nat × List UInt8)} (h0 : 0 < v) (h : v ≤ n) : rmn ((v, t) :: r) n = t ++ rmn ((v, t) :: r) (n - v) := by
  unfold rmn
  have e1 : n / v = (n - v) / v + 1 := Nat.div_eq_sub_div h0 h
  have e2 : n % v = (n - v) % v := Nat.mod_eq_sub_mod h
  rw [e1, e2, rpt, List.append_assoc]
theorem rmn_lt {v n : Nat} {t : List UInt8} {r : List (Nat × List UInt8)} (h : n < v) : rmn ((v, t) :: r) n = rmn r n := by
  have e1 : n / v = 0 := Nat.div_eq_of_lt h
  have e2 : n % v = n := Nat.mod_eq_of_lt h
  show rpt t (n / v) ++ rmn r (n % v) = rmn r n
  rw [e1, e2]; rfl
/-- A numeral of the table, by its place. -/
def rmV (k : Nat) : Nat := (rmTab[k]?.map (·.1)).getD 0
def rmT (k : Nat) : List UInt8 := (rmTab[k]?.map (·.2)).getD []
theorem rm_drop : ∀ k : Fin 13, rmTab.drop k.val = (rmV k.val, rmT k.val) :: rmTab.drop (k.val + 1) ∧ 0 < rmV k.val ∧ rmV k.val ≤ 1000 ∧ (rmT k.val).length ≤ 2 := by decide +kernel
/-- The digits of a number. -/
def digL (n : Nat) : List UInt8 := if _h : n < 10 then [(48 + n).toUInt8] else digL (n / 10) ++ [(48 + n % 10).toUInt8]
termination_by n
decreasing_by omega
theorem dig_byte (d : Nat) (h : d < 10) : ((48 + d).toUInt8).toNat = 48 + d := by
  simp [Nat.toUInt8, UInt8.toNat_ofNat]; omega
theorem digL_all (n : Nat) : ∀ c ∈ digL n, 48 ≤ c.toNat ∧ c.toNat ≤ 57 := by
  induction n using Nat.strongRecOn with
  | ind n ih =>
    intro c hc
    rw [digL] at hc
    split at hc
    · rename_i h
      rw [List.mem_singleton] at hc
      subst hc
      rw [dig_byte n h]; omega
    · rename_i h
      rw [List.mem_append] at hc
      rcases hc with hc | hc
      · exact ih (n / 10) (by omega) c hc
      · rw [List.mem_singleton] at hc
        subst hc
        rw [dig_byte (n % 10) (by omega)]; omega
theorem digL_pos (n : Nat) : 0 < (digL n).length := by
  rw [digL]; split <;> simp
theorem digL_len (n k : Nat) (h : n < 10 ^ (k + 1)) : (digL n).length ≤ k + 1 := by
  induction k generalizing n with
  | zero => rw [digL, dif_pos (by simpa using h)]; simp
  | succ k ih =>
    rw [digL]
    split
    · simp
    · have := ih (n / 10) (by rw [Nat.pow_succ] at h; omega)
      simp; omega
theorem digL_small {n : Nat} (h : n ≤ 9223372036854775807) : (digL n).length ≤ 19 := digL_len n 18 (by omega)
theorem digL_9 {n : Nat} (h : n ≤ 1000000000) : (digL n).length ≤ 10 := digL_len n 9 (by omega)
/-- The letters of roman numerals. -/
def isRm (c : UInt8) : Bool := c == 109 || c == 100 || c == 99 || c == 108 || c == 120 || c == 118 || c == 105
theorem rom_all_small : ∀ k : Fin 1000, ((rmn rmTab.tail k.val).all isRm) = true := by decide +kernel
theorem romL_all (n : Nat) : ∀ c ∈ romL n, isRm c = true := by
  intro c hc
  rw [romL_eq, List.mem_append] at hc
  rcases hc with hc | hc
  · have : ∀ k, c ∈ rpt [109] k → c = 109 := by
      intro k
      induction k with
      | zero => intro h; simp [rpt] at h
      | succ k ih =>
        intro h
        simp only [rpt, List.cons_append, List.nil_append, List.mem_cons] at h
        rcases h with h | h
        · exact h
        · exact ih h
    rw [this _ hc]; rfl
  · have := rom_all_small ⟨n % 1000, Nat.mod_lt _ (by omega)⟩
    exact List.all_eq_true.1 this c hc
def romX (m : Nat) : List UInt8 := if m ≤ 39999 then romL m else digL m
theorem isRm_lt {c : UInt8} (h : isRm c = true) : c.toNat < 128 := by
  unfold isRm at h
  simp only [Bool.or_eq_true, beq_iff_eq] at h
  rcases h with ((((((rfl | rfl) | rfl) | rfl) | rfl) | rfl) | rfl) <;> decide
theorem romX_ascii (m : Nat) : ∀ c ∈ romX m, c.toNat < 128 := by
  intro c hc
  unfold romX at hc
  split at hc
  · exact isRm_lt (romL_all m c hc)
  · have := digL_all m c hc; omega
theorem romX_len {m : Nat} (h : m ≤ 1000000000) : (romX m).length ≤ 51 := by
  unfold romX
  split
  · exact romL_len ‹_›
  · have := digL_9 h; omega
end Go.Proofs.YtaamjccffkdlhaaGreatDoor
