/- Plain reckoning: how the code reads roman numerals. -/
import Derived.Test.YtaamjccffkdlhaaGreatDoorPa
import Derived.Lib.Strings
import Derived.Lib.Case
namespace Go.Proofs.YtaamjccffkdlhaaGreatDoor

theorem pre_some : ∀ {t l l' : List UInt8}, pre? t l = some l' → l = t ++ l'
  | [], _, _, h => by simpa [pre?] using h
  | _ :: _, [], _, h => by simp [pre?] at h
  | a :: t, b :: l, l', h => by
    unfold pre? at h
    split at h
    · rename_i e
      subst e
      rw [pre_some h]; rfl
    · cases h
theorem pre_app : ∀ (t l : List UInt8), pre? t (t ++ l) = some l
  | [], _ => rfl
  | a :: t, l => by
    show (if a = a then pre? t (t ++ l) else none) = some l
    rw [if_pos rfl, pre_app t l]
theorem pre_yes {t l : List UInt8} (h : Lib.hasPrefix l t = true) : pre? t l = some (l.drop t.length) := by
  unfold Lib.hasPrefix at h
  obtain ⟨r, rfl⟩ := List.isPrefixOf_iff_prefix.1 h
  rw [pre_app, List.drop_left]
theorem pre_no {t l : List UInt8} (h : Lib.hasPrefix l t = false) : pre? t l = none := by
  cases hp : pre? t l with
  | none => rfl
  | some l' =>
    have := pre_some hp
    have h2 : Lib.hasPrefix l t = true := by
      unfold Lib.hasPrefix
      exact List.isPrefixOf_iff_prefix.2 ⟨l', this.symm⟩
    rw [h] at h2; cases h2
/-- Enough rounds are enough. -/
theorem rd1_fuel (v : Nat) {t : List UInt8} (ht : t ≠ []) : ∀ (f : Nat) (l : List UInt8) (n : Nat), l.length < f → rd1 v t f l n = rd1 v t (l.length + 1) l n := by
  intro f
  induction f using Nat.strongRecOn with
  | ind f ih =>
    intro l n hf
    obtain ⟨g, rfl⟩ : ∃ g, f = g + 1 := ⟨f - 1, by omega⟩
    unfold rd1
    split
    · cases hp : pre? t l with
      | none => rfl
      | some l' =>
        simp only
        have hl := pre_some hp
        have htl : 0 < t.length := List.length_pos_iff.2 ht
        have hlen : l'.length < l.length := by rw [hl, List.length_append]; omega
        rw [ih g (by omega) l' (n + v) (by omega)]
        by_cases hg : l.length < g + 1
        · by_cases hlg : l.length = g
          · rw [hlg, ih g (by omega) l' (n + v) (by omega)]
          · rw [ih l.length (by omega) l' (n + v) hlen]
        · omega
    · rfl
theorem rdA_more {v : Nat} {t : List UInt8} {r : List (Nat × List UInt8)} {l : List UInt8} {n : Nat} (ht : t ≠ []) (hn : n ≤ 39999) (h : Lib.hasPrefix l t = true) :
    rdA ((v, t) :: r) l n = rdA ((v, t) :: r) (l.drop t.length) (n + v) := by
  have hp := pre_yes h
  have hl := pre_some hp
  have htl : 0 < t.length := List.length_pos_iff.2 ht
  have hlen : (l.drop t.length).length < l.length := by
    have := congrArg List.length hl
    rw [List.length_append] at this
    omega
  have e : rd1 v t (l.length + 1) l n = rd1 v t ((l.drop t.length).length + 1) (l.drop t.length) (n + v) := by
    rw [show rd1 v t (l.length + 1) l n = rd1 v t l.length (l.drop t.length) (n + v) by
      show (if n ≤ 39999 then match pre? t l with | some l' => rd1 v t l.length l' (n + v) | none => (l, n) else (l, n)) = _
      rw [if_pos hn, hp]]
    exact rd1_fuel v ht l.length _ _ hlen
  show rdA r (rd1 v t (l.length + 1) l n).1 (rd1 v t (l.length + 1) l n).2 = _
  rw [e]; rfl
theorem rdA_next {v : Nat} {t : List UInt8} {r : List (Nat × List UInt8)} {l : List UInt8} {n : Nat} (h : 39999 < n ∨ Lib.hasPrefix l t = false) : rdA ((v, t) :: r) l n = rdA r l n := by
  have e : rd1 v t (l.length + 1) l n = (l, n) := by
    show (if n ≤ 39999 then match pre? t l with | some l' => rd1 v t l.length l' (n + v) | none => (l, n) else (l, n)) = _
    by_cases hn : n ≤ 39999
    · rw [if_pos hn]
      rcases h with h | h
      · omega
      · rw [pre_no h]
    · rw [if_neg hn]
  show rdA r (rd1 v t (l.length + 1) l n).1 (rd1 v t (l.length + 1) l n).2 = _
  rw [e]
/-- What comes of reading a text in small letters. -/
def rdN (l : List UInt8) : Nat := (rdA rmTab l 0).2
theorem rdN_rom {n : Nat} (h : n ≤ 39999) : rdN (romL n) = n := by unfold rdN; rw [read_rom h]
theorem rd1_bd (v : Nat) (t : List UInt8) (hv : v ≤ 1000) : ∀ (f : Nat) (l : List UInt8) (n : Nat), n ≤ 40999 → (rd1 v t f l n).2 ≤ 40999
  | 0, _, _, h => h
  | f + 1, l, n, h => by
    unfold rd1
    split
    · cases pre? t l with
      | none => exact h
      | some l' => exact rd1_bd v t hv f l' (n + v) (by omega)
    · exact h
theorem rdA_bd : ∀ (T : List (Nat × List UInt8)) (_ : ∀ x ∈ T, x.1 ≤ 1000) (l : List UInt8) (n : Nat), n ≤ 40999 → (rdA T l n).2 ≤ 40999
  | [], _, _, _, h => h
  | (v, t) :: r, hT, _l, _n, h => rdA_bd r (fun x hx => hT x (List.mem_cons_of_mem _ hx)) _ _ (rd1_bd v t (hT (v, t) (List.mem_cons_self ..)) _ _ _ h)
theorem rdN_bd (l : List UInt8) : rdN l ≤ 40999 := rdA_bd rmTab (by decide) l 0 (by omega)
/-- Digits are no numerals. -/
theorem rdA_none : ∀ (T : List (Nat × List UInt8)) (_ : ∀ x ∈ T, ∃ c t, x.2 = c :: t ∧ 97 ≤ c.toNat) (c : UInt8) (l : List UInt8) (n : Nat), c.toNat ≤ 57 → rdA T (c :: l) n = (c :: l, n)
  | [], _, _, _, _, _ => rfl
  | (v, t) :: r, hT, c, l, n, hc => by
    obtain ⟨a, t', e, ha⟩ := hT (v, t) (List.mem_cons_self ..)
    simp only at e
    subst e
    have hne : ¬ a = c := fun e => by subst e; omega
    have : Lib.hasPrefix (c :: l) (a :: t') = false := by
      have h2 : (a == c) = false := by simpa using hne
      show (a == c && t'.isPrefixOf l) = false
      rw [h2]; rfl
    rw [rdA_next (.inr this)]
    exact rdA_none r (fun x hx => hT x (List.mem_cons_of_mem _ hx)) c l n hc
theorem rmTab_low : ∀ x ∈ rmTab, ∃ c t, x.2 = c :: t ∧ 97 ≤ c.toNat := by
  intro x hx
  have : (rmTab.all fun x => match x.2 with | c :: _ => decide (97 ≤ c.toNat) | [] => false) = true := by decide
  have := List.all_eq_true.1 this x hx
  match h : x.2, this with
  | c :: t, this => exact ⟨c, t, rfl, by simpa [h] using this⟩
theorem digL_head (n : Nat) : ∃ c l, digL n = c :: l ∧ c.toNat ≤ 57 := by
  cases h : digL n with
  | nil => have := digL_pos n; rw [h] at this; simp at this
  | cons c l => exact ⟨c, l, rfl, (digL_all n c (by rw [h]; exact List.mem_cons_self ..)).2⟩
theorem rdN_dig (n : Nat) : rdN (digL n) = 0 := by
  obtain ⟨c, l, h, hc⟩ := digL_head n
  unfold rdN
  rw [h, rdA_none rmTab rmTab_low c l 0 hc]

def upL (l : List UInt8) : List UInt8 := l.map Lib.upperB
def loL (l : List UInt8) : List UInt8 := l.map Lib.lowerB
theorem rm_lo : ∀ c : Fin 256, isRm c.val.toUInt8 = true → Lib.lowerB c.val.toUInt8 = c.val.toUInt8 ∧ Lib.lowerB (Lib.upperB c.val.toUInt8) = c.val.toUInt8 ∧ (Lib.upperB c.val.toUInt8).toNat < 91 := by decide +kernel
theorem rm_low (c : UInt8) (h : isRm c = true) : Lib.lowerB c = c ∧ Lib.lowerB (Lib.upperB c) = c ∧ (Lib.upperB c).toNat < 91 := by
  have := rm_lo ⟨c.toNat, c.toNat_lt⟩
  simpa [h] using this
theorem lo_rom (n : Nat) : loL (romL n) = romL n := by
  unfold loL
  refine (List.map_congr_left fun c hc => ?_).trans (List.map_id _)
  exact (rm_low c (romL_all n c hc)).1
theorem lo_up_rom (n : Nat) : loL (upL (romL n)) = romL n := by
  unfold loL upL
  rw [List.map_map]
  refine (List.map_congr_left fun c hc => ?_).trans (List.map_id _)
  exact (rm_low c (romL_all n c hc)).2.1
theorem dig_up : ∀ c : Fin 256, c.val ≤ 57 → Lib.upperB c.val.toUInt8 = c.val.toUInt8 ∧ Lib.lowerB c.val.toUInt8 = c.val.toUInt8 := by decide +kernel
theorem up_dig (n : Nat) : upL (digL n) = digL n ∧ loL (digL n) = digL n := by
  have h : ∀ c ∈ digL n, Lib.upperB c = c ∧ Lib.lowerB c = c := fun c hc => by
    have := dig_up ⟨c.toNat, c.toNat_lt⟩ (digL_all n c hc).2
    simpa using this
  exact ⟨(List.map_congr_left fun c hc => (h c hc).1).trans (List.map_id _), (List.map_congr_left fun c hc => (h c hc).2).trans (List.map_id _)⟩
theorem up_ascii {l : List UInt8} (h : ∀ c ∈ l, c.toNat < 128) : ∀ c ∈ upL l, c.toNat < 128 := by
  intro c hc
  obtain ⟨a, ha, rfl⟩ := List.mem_map.1 hc
  have := h a ha
  unfold Lib.upperB Lib.isLowerB
  split
  · rename_i hh
    simp only [Bool.and_eq_true, decide_eq_true_eq, UInt8.le_iff_toNat_le] at hh
    rw [UInt8.toNat_sub_of_le _ _ (by rw [UInt8.le_iff_toNat_le]; exact Nat.le_trans (by decide) hh.1)]
    have : (32 : UInt8).toNat = 32 := rfl
    omega
  · exact this
/-- What Roman answers: the number, 0 where there is none. -/
def romOk (l : List UInt8) (N : Nat) : Prop := 1 ≤ N ∧ N ≤ 39999 ∧ (l = romL N ∨ l = upL (romL N))
theorem romOk_rd {l : List UInt8} {N : Nat} (h : romOk l N) : rdN (loL l) = N ∧ ∀ c ∈ l, c.toNat < 128 := by
  obtain ⟨h1, h2, h3 | h3⟩ := h
  · subst h3; rw [lo_rom, rdN_rom h2]
    exact ⟨rfl, fun c hc => isRm_lt (romL_all N c hc)⟩
  · subst h3; rw [lo_up_rom, rdN_rom h2]
    exact ⟨rfl, up_ascii fun c hc => isRm_lt (romL_all N c hc)⟩
/-- The code's test at the end says just this. -/
theorem romOk_iff {l : List UInt8} {N : Nat} (hN : N = rdN (loL l)) (h1 : 1 ≤ N) : (l = romX N ∨ l = upL (romX N)) ↔ romOk l N := by
  unfold romX
  by_cases h : N ≤ 39999
  · rw [if_pos h]
    exact ⟨fun hh => ⟨h1, h, hh⟩, fun hh => hh.2.2⟩
  · rw [if_neg h, (up_dig N).1]
    constructor
    · intro hh
      have e : l = digL N := by rcases hh with hh | hh <;> exact hh
      rw [e, (up_dig N).2, rdN_dig] at hN
      omega
    · intro hh
      exact absurd hh.2.1 h
theorem rom_unique {l : List UInt8} {N M : Nat} (h : romOk l N) (h2 : romOk l M) : N = M := by rw [← (romOk_rd h).1, (romOk_rd h2).1]
end Go.Proofs.YtaamjccffkdlhaaGreatDoor
