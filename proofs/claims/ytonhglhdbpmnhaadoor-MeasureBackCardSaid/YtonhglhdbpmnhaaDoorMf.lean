/- Walks of package measure's reader: brackets, operands, expressions, by the fuel of the plain reckoning. -/
import Derived.Test.YtonhglhdbpmnhaaDoorMe
namespace Go.Proofs.YtonhglhdbpmnhaaDoor
open Go.RowKit

theorem sg1_within {M : Md} {c : Nat} {n m : Int} (h : sg1 M c n = some m) (hn : within n = true) : within m = true := by
  have hb := within_iff.1 hn
  unfold sg1 at h
  split at h
  · cases h; exact within_iff.2 (by omega)
  split at h
  · cases h
    split
    · decide
    · exact within_truth _
  split at h
  · split at h
    · cases h; decide
    · split at h
      · cases h; assumption
      · cases h
  · cases h; exact hn
/-- 57: sign. -/
theorem c57v (g : Nat) (M : Md) (c : Nat) (n m : Int) (w : World) (h7 : w.cell? ⟨g, 7, none⟩ = some (.bool M.fm)) (h6 : w.cell? ⟨g, 6, none⟩ = some (.int .i64 M.here)) (hn : within n = true) (hM : M.okay) (hr : sg1 M c n = some m) :
    Calls Tryd.prog 57 #[.pointer (some ⟨g, 0, none⟩), .int .u8 c, .int .i64 n] w fun e w' => e = .returned (.int .i64 m) ∧ w = w' := by
  obtain ⟨_, _, _, _, _, _, k1, k2⟩ := hM
  have hh : within M.here = true := within_iff.2 ⟨k1, k2⟩
  unfold sg1 at hr
  by_cases e1 : c = 45
  · subst e1; rw [if_pos rfl] at hr; cases hr; exact c57n g n w hn
  rw [if_neg e1] at hr
  by_cases e2 : c = 33
  · subst e2; rw [if_pos rfl] at hr
    rcases hfm : M.fm with _ | _
    · rw [hfm] at hr h7; cases hr; exact c57b g n w h7
    · rw [hfm] at hr h7; cases hr; exact c57bf g n w h7
  rw [if_neg e2] at hr
  by_cases e3 : c = 124
  · subst e3; rw [if_pos rfl] at hr
    rcases hfm : M.fm with _ | _
    · rw [hfm] at hr h7
      rw [if_neg (by decide)] at hr
      by_cases hd : within (n - M.here) = true
      · rw [if_pos hd] at hr; cases hr; exact c57h g n M.here w h7 h6 hn hh hd
      · rw [if_neg hd] at hr; cases hr
    · rw [hfm] at hr h7; cases hr; exact c57hf g n M.here w h7 h6
  rw [if_neg e3] at hr
  cases hr
  exact c57x g c n w (by simp; omega) (by simp; omega) (by simp; omega)
theorem c57e (g : Nat) (M : Md) (c : Nat) (n : Int) (w : World) (h7 : w.cell? ⟨g, 7, none⟩ = some (.bool M.fm)) (h6 : w.cell? ⟨g, 6, none⟩ = some (.int .i64 M.here)) (hn : within n = true) (hM : M.okay) (hr : sg1 M c n = none) :
    Calls Tryd.prog 57 #[.pointer (some ⟨g, 0, none⟩), .int .u8 c, .int .i64 n] w fun e w' => e = thrown 5 ∧ w = w' := by
  obtain ⟨_, _, _, _, _, _, k1, k2⟩ := hM
  have hh : within M.here = true := within_iff.2 ⟨k1, k2⟩
  unfold sg1 at hr
  by_cases e1 : c = 45
  · rw [if_pos e1] at hr; cases hr
  rw [if_neg e1] at hr
  by_cases e2 : c = 33
  · rw [if_pos e2] at hr; cases hr
  rw [if_neg e2] at hr
  by_cases e3 : c = 124
  · subst e3; rw [if_pos rfl] at hr
    rcases hfm : M.fm with _ | _
    · rw [hfm] at hr h7
      rw [if_neg (by decide)] at hr
      by_cases hd : within (n - M.here) = true
      · rw [if_pos hd] at hr; cases hr
      · exact c57hx g n M.here w h7 h6 hn hh (by simpa using hd)
    · rw [hfm] at hr; cases hr
  · rw [if_neg e3] at hr; cases hr

/-- What a reader's function that may throw has come to. -/
def CPost (w : World) (g : Nat) (s : ByteArray) (M : Md) (deep : Nat) (r : Res) (e : Ending) (w' : World) : Prop :=
  match r with
  | .ok n to => e = .returned (.int .i64 n) ∧ Moved w g s M to deep w'
  | .err x => e = thrown x ∧ w.grownBy w' (some g)
def nxt (s : ByteArray) (deep : Nat) : Res → Res
  | .ok n to => .ok n (skp s deep to)
  | .err x => .err x

theorem numF_ok {s : ByteArray} {M : Md} {i : Nat} {n : Int} {to : Nat} (h : numF s M i = .ok n to) (hi : i ≤ s.size) : within n = true ∧ i < to ∧ to ≤ s.size := by
  unfold numF at h
  split at h
  · cases h
  · rename_i hne
    split at h
    · rename_i m hm
      cases h
      refine ⟨?_, ?_, nTo_le hi⟩
      · unfold bdd at hm
        split at hm
        · cases hm; decide
        · split at hm
          · cases hm; assumption
          · cases hm
      · unfold nTo nEnd
        by_cases hp : nPart s i = true
        · rw [if_pos hp]; omega
        · rw [if_neg hp]
          have : ¬ dCount s i = 0 := fun h0 => hne ⟨h0, by simpa using hp⟩
          omega
    · cases h
theorem back_within {s : ByteArray} {M : Md} {i : Nat} : ∀ {k : Nat} {n m : Int}, back s M i k n = some m → within n = true → within m = true := by
  intro k
  induction k with
  | zero => intro n m h hn; cases h; exact hn
  | succ k ih =>
    intro n m h hn
    rw [back] at h
    rcases hs : sg1 M (bt s (i + k)) n with _ | a
    · rw [hs] at h; cases h
    · rw [hs] at h
      exact ih h (sg1_within hs hn)
theorem fin_ok {s : ByteArray} {M : Md} {i last : Nat} {r : Res} {n : Int} {to : Nat} (h : fin s M i last r = .ok n to) : ∃ n0, r = .ok n0 to ∧ back s M i (last - i) n0 = some n := by
  unfold fin at h
  split at h
  · split at h
    · cases h; exact ⟨_, rfl, by assumption⟩
    · cases h
  · cases h
theorem rk_within {fm : Bool} {j : Nat} {a b n : Int} (h : rk fm j a b = .val n) : within n = true := by
  unfold rk at h
  split at h
  · cases h; decide
  split at h
  · cases h
  split at h
  · cases h; assumption
  · cases h
theorem opIx_le (s : ByteArray) (p : Nat) : opIx s p ≤ 13 := opFor_le _ _
theorem op_end {s : ByteArray} {deep i : Nat} (h : ¬ opIx s (skp s deep i) = 13) : skp s deep i + (opS (opIx s (skp s deep i))).size ≤ s.size ∧ i < skp s deep i + (opS (opIx s (skp s deep i))).size := by
  have hl : opIx s (skp s deep i) < 13 := by have := opIx_le s (skp s deep i); omega
  have h1 := opIx_le_size hl
  have h2 := opS_size hl
  have h3 := skp_ge s deep i
  omega
/-- What is right of every value that comes of the reckoning. -/
theorem ev_ok (s : ByteArray) (M : Md) : ∀ (f : Nat) (k : Ki) (n : Int) (to : Nat), ev s M f k = some (.ok n to) →
    match k with
    | .opd i _ => i ≤ s.size → within n = true ∧ i < to ∧ to ≤ s.size
    | .sum i _ => i ≤ s.size → within n = true ∧ i < to ∧ to ≤ s.size
    | .loop m i _ => i ≤ s.size → within m = true → within n = true ∧ i ≤ to ∧ to ≤ s.size := by
  intro f
  induction f with
  | zero => intro k n to h; cases h
  | succ f ih =>
    intro k n to h
    cases k with
    | opd i deep =>
      intro hi
      have hr := rn_ge s deep i
      have hrl := rn_le (deep := deep) hi
      simp only [ev] at h
      by_cases h1 : bt s (rn s deep i) = 40
      · have hlt : rn s deep i < s.size := bt_lt (by omega)
        rw [if_pos h1] at h
        by_cases h2 : deep < 20
        · rw [if_pos h2] at h
          rcases hs : ev s M f (.sum (rn s deep i + 1) (deep + 1)) with _ | r
          · rw [hs] at h; cases h
          rw [hs] at h
          rcases r with ⟨a, t⟩ | e
          · simp only at h
            by_cases h3 : bt s (skp s (deep + 1) t) = 41
            · rw [if_pos h3] at h
              injection h with h
              obtain ⟨n0, he, hb⟩ := fin_ok h
              cases he
              obtain ⟨w1, w2, w3⟩ := ih _ _ _ hs (by omega)
              have hk := skp_ge s (deep + 1) t
              have hkl : skp s (deep + 1) t < s.size := bt_lt (by omega)
              exact ⟨back_within hb w1, by omega, by omega⟩
            · rw [if_neg h3] at h; cases h
          · cases h
        · rw [if_neg h2] at h; cases h
      · rw [if_neg h1] at h
        injection h with h
        obtain ⟨n0, he, hb⟩ := fin_ok h
        obtain ⟨w1, w2, w3⟩ := numF_ok he hrl
        exact ⟨back_within hb w1, by omega, w3⟩
    | sum i deep =>
      intro hi
      simp only [ev] at h
      rcases hs : ev s M f (.opd i deep) with _ | r
      · rw [hs] at h; cases h
      rw [hs] at h
      rcases r with ⟨a, t⟩ | e
      · simp only at h
        obtain ⟨w1, w2, w3⟩ := ih _ _ _ hs hi
        obtain ⟨v1, v2, v3⟩ := ih _ _ _ h w3 w1
        exact ⟨v1, by omega, v3⟩
      · cases h
    | loop m i deep =>
      intro hi hm
      simp only [ev] at h
      by_cases h1 : opIx s (skp s deep i) = 13
      · rw [if_pos h1] at h; cases h; exact ⟨hm, by omega, hi⟩
      rw [if_neg h1] at h
      obtain ⟨o1, o2⟩ := op_end h1
      rcases hs : ev s M f (.opd (skp s deep i + (opS (opIx s (skp s deep i))).size) deep) with _ | r
      · rw [hs] at h; cases h
      rw [hs] at h
      rcases r with ⟨a, t⟩ | e
      · simp only at h
        obtain ⟨w1, w2, w3⟩ := ih _ _ _ hs o1
        rcases hk : rk M.fm (opIx s (skp s deep i)) m a with v | e
        · rw [hk] at h
          obtain ⟨v1, v2, v3⟩ := ih _ _ _ h w3 (rk_within hk)
          exact ⟨v1, by omega, v3⟩
        · rw [hk] at h; cases h
      · simp only at h
        split at h
        · cases h; exact ⟨hm, by omega, hi⟩
        · cases h
end Go.Proofs.YtonhglhdbpmnhaaDoor
