/- Plain reckoning: names after a change. -/
import Derived.Test.YtbedddgfijpbcaaGreatQa
import Derived.Maps.Views
namespace Go.Proofs.YtbedddgfijpbcaaGreat

section
variable {L : List Ent} {s m : ByteArray} {r : Nat}
theorem kOf_inj (h : kOf m = kOf s) : m = s := by
  unfold kOf at h
  injection h with h
  exact ba_ext h
theorem has_put (hL : Srt L) (s m : ByteArray) (r : Nat) : hasB (putR L s r) m = (decide (m = s) || hasB L m) := by
  rw [← has_DB hL.put, ← put_DB hL, ← has_DB hL]
  by_cases e : m = s
  · subst e
    rw [Maps.has_put_same (D := DB L) ⟨_, rfl⟩ (by simp [kOf, WideAt.IsKeyLit])]
    simp
  · rw [Maps.has_put_other (fun e' => e (kOf_inj e'))]
    simp [e]
theorem has_del (hL : Srt L) (s m : ByteArray) : hasB (delR L s) m = (decide (m ≠ s) && hasB L m) := by
  rw [← has_DB hL.del, ← del_DB hL, ← has_DB hL]
  by_cases e : m = s
  · subst e
    rw [Maps.has_del_same]
    simp
  · rw [Maps.has_del_other (fun e' => e (kOf_inj e'))]
    simp [e]
theorem held_inj {a b : Nat} (h : (DataW.held (regVal a) : DataW Value) = .held (regVal b)) : a = b := by
  injection h with h
  unfold regVal at h
  injection h with h
  injection h with h
  injection h
theorem get_put_at (hL : Srt L) (s : ByteArray) (r : Nat) : getR (putR L s r) s = r := by
  have h1 := at_DB (n := s) (hL.put (n := s) (r := r)) .nil
  rw [has_put hL, decide_eq_true rfl, Bool.true_or, if_pos rfl, ← put_DB hL, Maps.atKey_put_same (D := DB L) ⟨_, rfl⟩ (by simp [kOf, WideAt.IsKeyLit])] at h1
  exact (held_inj h1).symm
theorem get_put_ne (hL : Srt L) (h : m ≠ s) (r : Nat) : getR (putR L s r) m = getR L m := by
  cases hh : hasB L m
  · rw [get_miss hh, get_miss (by rw [has_put hL, decide_eq_false h, hh]; rfl)]
  · have h1 := at_DB (n := m) (hL.put (n := s) (r := r)) .nil
    rw [has_put hL, hh, Bool.or_true, if_pos rfl, ← put_DB hL, Maps.atKey_put_other (fun e' => h (kOf_inj e')), at_DB hL, hh, if_pos rfl] at h1
    exact (held_inj h1).symm
theorem get_del_ne (hL : Srt L) (h : m ≠ s) : getR (delR L s) m = getR L m := by
  cases hh : hasB L m
  · rw [get_miss hh, get_miss (by rw [has_del hL, hh, Bool.and_false])]
  · have h1 := at_DB (n := m) (hL.del (n := s)) .nil
    rw [has_del hL, hh, decide_eq_true h, Bool.and_true, if_pos rfl, ← del_DB hL, Maps.atKey_del_other (fun e' => h (kOf_inj e')), at_DB hL, hh, if_pos rfl] at h1
    exact (held_inj h1).symm
theorem mem_has (hL : Srt L) {p : Ent} (h : p ∈ L) : hasB L p.1 = true ∧ getR L p.1 = p.2 := by
  induction L with
  | nil => cases h
  | cons q t ih =>
    rcases List.mem_cons.1 h with rfl | h
    · have hp : nlt p.1 p.1 = false := nlt_irr _
      rw [has_ge hp, get_ge hp]
      simp
    · have hq := hL.head_ p h
      rw [has_lt hq, get_lt hq]
      exact ih hL.tail_ h
end
end Go.Proofs.YtbedddgfijpbcaaGreat
