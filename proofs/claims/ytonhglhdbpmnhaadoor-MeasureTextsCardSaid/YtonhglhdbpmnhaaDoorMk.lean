/- The plain answers of package measure's calls, and that the reckoning ends. -/
import Derived.Test.YtonhglhdbpmnhaaDoorMf
namespace Go.Proofs.YtonhglhdbpmnhaaDoor
open Go.RowKit

theorem ev_tot (s : ByteArray) (M : Md) : ∀ (f : Nat) (k : Ki),
    (match k with | .opd i _ => i ≤ s.size ∧ 3 * (s.size - i) + 2 < f | .sum i _ => i ≤ s.size ∧ 3 * (s.size - i) + 3 < f | .loop n i _ => within n = true ∧ i ≤ s.size ∧ 3 * (s.size - i) + 1 < f) → ∃ r, ev s M f k = some r := by
  intro f
  induction f with
  | zero => intro k h; cases k <;> omega
  | succ f ih =>
    intro k h
    cases k with
    | opd i deep =>
      obtain ⟨hi, hf⟩ := h
      have hr := rn_ge s deep i
      simp only [ev]
      by_cases h1 : bt s (rn s deep i) = 40
      · rw [if_pos h1]
        have hlt : rn s deep i < s.size := bt_lt (by omega)
        by_cases h2 : deep < 20
        · rw [if_pos h2]
          obtain ⟨r, hr⟩ := ih (.sum (rn s deep i + 1) (deep + 1)) ⟨by omega, by omega⟩
          rw [hr]
          rcases r with ⟨n, to⟩ | e
          · simp only
            split <;> exact ⟨_, rfl⟩
          · exact ⟨_, rfl⟩
        · rw [if_neg h2]; exact ⟨_, rfl⟩
      · rw [if_neg h1]; exact ⟨_, rfl⟩
    | sum i deep =>
      obtain ⟨hi, hf⟩ := h
      simp only [ev]
      obtain ⟨r, hr⟩ := ih (.opd i deep) ⟨hi, by omega⟩
      rw [hr]
      rcases r with ⟨n, to⟩ | e
      · have hok := ev_ok s M f _ n to hr hi
        obtain ⟨q, hq⟩ := ih (.loop n to deep) ⟨hok.1, hok.2.2, by omega⟩
        simp only
        exact ⟨q, hq⟩
      · exact ⟨_, rfl⟩
    | loop n i deep =>
      obtain ⟨hn, hi, hf⟩ := h
      simp only [ev]
      by_cases h13 : opIx s (skp s deep i) = 13
      · rw [if_pos h13]; exact ⟨_, rfl⟩
      · rw [if_neg h13]
        obtain ⟨o1, o2⟩ := op_end h13
        obtain ⟨r, hr⟩ := ih (.opd (skp s deep i + (opS (opIx s (skp s deep i))).size) deep) ⟨o1, by omega⟩
        rw [hr]
        rcases r with ⟨b, to⟩ | e
        · have hok := ev_ok s M f _ b to hr o1
          simp only
          rcases hk : rk M.fm (opIx s (skp s deep i)) n b with m | e
          · obtain ⟨q, hq⟩ := ih (.loop m to deep) ⟨rk_within hk, hok.2.2, by omega⟩
            exact ⟨q, hq⟩
          · exact ⟨_, rfl⟩
        · simp only
          split <;> exact ⟨_, rfl⟩
/-- The whole reckoning of a text. -/
def fuel (s : ByteArray) : Nat := 3 * s.size + 5
def evT (s : ByteArray) (M : Md) : Res := (ev s M (fuel s) (.sum 0 0)).getD (.err 0)
theorem evT_eq (s : ByteArray) (M : Md) : ev s M (fuel s) (.sum 0 0) = some (evT s M) := by
  obtain ⟨r, hr⟩ := ev_tot s M (fuel s) (.sum 0 0) ⟨by omega, by unfold fuel; omega⟩
  unfold evT
  rw [hr]; rfl
theorem skp_zero (s : ByteArray) (i : Nat) : skp s 0 i = i := by
  unfold skp
  cases h : s.size with
  | zero => rfl
  | succ n => simp [scanTo, blk]
theorem nxt_zero (s : ByteArray) (r : Res) : nxt s 0 r = r := by
  cases r
  · simp [nxt, skp_zero]
  · rfl

/-- A scale and a context that are ones: what one of the scale is. -/
def okB (sz vs here : Int) : Bool := decide (0 ≤ sz) && decide (sz ≤ 1000000) && decide (0 ≤ vs) && decide (vs ≤ 1000000) && within here
theorem okB_iff {sz vs here : Int} : okB sz vs here = true ↔ 0 ≤ sz ∧ sz ≤ 1000000 ∧ 0 ≤ vs ∧ vs ≤ 1000000 ∧ -1000000000 ≤ here ∧ here ≤ 1000000000 := by
  simp [okB, within, and_assoc]
def argF (c : Nat) (sz vs here : Int) : Option Int := if okB sz vs here then unitF c sz vs else none
theorem argF_okay {c : Nat} {sz vs here one : Int} (h : argF c sz vs here = some one) (fm : Bool) : Md.okay ⟨one, sz, vs, here, fm⟩ := by
  unfold argF at h
  by_cases ho : okB sz vs here = true
  · rw [if_pos ho] at h
    have hb := okB_iff.1 ho
    have hu := unitF_bd h hb.1 hb.2.1 hb.2.2.1 hb.2.2.2.1
    exact ⟨hu.1, hu.2, hb⟩
  · rw [if_neg ho] at h; cases h
def whole (s : ByteArray) : Res → Int × Int
  | .ok n to => if to = s.size then (n, 0) else (0, 4)
  | .err x => (0, x)
def evalA (s : ByteArray) (c : Nat) (sz vs here : Int) : Int × Int :=
  match argF c sz vs here with
  | none => (0, 1)
  | some one => whole s (evT s ⟨one, sz, vs, here, false⟩)

/-- A number with a sign ahead, or none. -/
def sNum (s : ByteArray) (M : Md) : Res :=
  if bt s 0 = 43 then numF s M 1 else if bt s 0 = 45 then (match numF s M 1 with | .ok n to => .ok (-n) to | .err e => .err e) else numF s M 0
def numA (s : ByteArray) (c : Nat) (sz vs here : Int) : Int × Int :=
  match argF c sz vs here with
  | none => (0, 1)
  | some one => whole s (sNum s ⟨one, sz, vs, here, false⟩)

/-- The reckoning in form only. -/
def M0 : Md := ⟨0, 0, 0, 0, true⟩
theorem unitF_isSome (c : Nat) (sz vs sz' vs' : Int) : (unitF c sz vs).isSome = (unitF c sz' vs').isSome := by
  unfold unitF
  repeat' split
  all_goals first | rfl | simp_all
theorem numF_form (s : ByteArray) (M M' : Md) (h : M.fm = true) (h' : M'.fm = true) (i : Nat) : numF s M i = numF s M' i := by
  unfold numF
  have h1 : ∀ n, bdd M.fm n = some 0 := fun n => by rw [h]; rfl
  have h2 : ∀ n, bdd M'.fm n = some 0 := fun n => by rw [h']; rfl
  rw [h1, h2]
  have h3 : nTo s M i = nTo s M' i := by unfold nTo; rw [unitF_isSome _ M.sz M.vs M'.sz M'.vs]
  rw [h3]
theorem sg1_form (M M' : Md) (h : M.fm = true) (h' : M'.fm = true) (c : Nat) (n : Int) : sg1 M c n = sg1 M' c n := by
  unfold sg1
  rw [h, h']
  simp
theorem back_form (s : ByteArray) (M M' : Md) (h : M.fm = true) (h' : M'.fm = true) (i : Nat) : ∀ (k : Nat) (n : Int), back s M i k n = back s M' i k n := by
  intro k
  induction k with
  | zero => intro n; rfl
  | succ k ih =>
    intro n
    rw [back, back, sg1_form M M' h h']
    rcases sg1 M' (bt s (i + k)) n with _ | m
    · rfl
    · exact ih m
theorem fin_form (s : ByteArray) (M M' : Md) (h : M.fm = true) (h' : M'.fm = true) (i l : Nat) (r : Res) : fin s M i l r = fin s M' i l r := by
  cases r
  · simp only [fin, back_form s M M' h h']
  · rfl
theorem ev_form (s : ByteArray) (M M' : Md) (h : M.fm = true) (h' : M'.fm = true) : ∀ (f : Nat) (k : Ki), ev s M f k = ev s M' f k := by
  intro f
  induction f with
  | zero => intro k; rfl
  | succ f ih =>
    intro k
    cases k with
    | opd i deep => simp only [ev, ih, fin_form s M M' h h', numF_form s M M' h h']
    | sum i deep => simp only [ev, ih]
    | loop n i deep => simp only [ev, ih, h, h']
/-- Where the longest beginning that is an expression ends; 0: there is none. -/
def begF (s : ByteArray) : Nat := match evT s M0 with | .ok _ to => to | .err _ => 0
def prefixA (s : ByteArray) (c : Nat) (sz vs here : Int) : Int × Int × Int :=
  if (evalA (s.extract 0 (begF s)) c sz vs here).2 = 0 then ((evalA (s.extract 0 (begF s)) c sz vs here).1, begF s, 0) else (0, 0, (evalA (s.extract 0 (begF s)) c sz vs here).2)
def changeA (old : Int) (s : ByteArray) (c : Nat) (sz vs here : Int) : Int × Int :=
  if within old = false then (0, 1)
  else if bt s 0 = 43 ∨ bt s 0 = 45 then
    (if (evalA (s.extract 1 s.size) c sz vs here).2 = 0 then
      (if within (old + (if bt s 0 = 45 then -(evalA (s.extract 1 s.size) c sz vs here).1 else (evalA (s.extract 1 s.size) c sz vs here).1)) = true then (old + (if bt s 0 = 45 then -(evalA (s.extract 1 s.size) c sz vs here).1 else (evalA (s.extract 1 s.size) c sz vs here).1), 0) else (0, 5))
     else (0, (evalA (s.extract 1 s.size) c sz vs here).2))
  else evalA s c sz vs here
end Go.Proofs.YtonhglhdbpmnhaaDoor
