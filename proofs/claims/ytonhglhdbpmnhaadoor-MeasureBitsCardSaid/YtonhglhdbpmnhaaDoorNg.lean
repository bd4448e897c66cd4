/- Walks of the document's own answers to layer 1: operands by the fuel of the plain reckoning. -/
import Derived.Test.YtonhglhdbpmnhaaDoorNf
namespace Go.Proofs.YtonhglhdbpmnhaaDoor
open Go.RowKit

theorem numF_end {s : ByteArray} {M : Md} {i : Nat} (h : s.size ≤ i) : numF s M i = .err 4 := by
  have h0 : ∀ j, i ≤ j → bt s j = 0 := fun j hj => by simp [bt]; omega
  have hd : dCount s i = 0 := dCount_eq (by omega) (fun j hj => by omega) (.inl (by rw [h0 _ (by omega)]; rfl))
  have hp : nPart s i = false := by unfold nPart; rw [hd, h0 _ (by omega)]; rfl
  unfold numF
  rw [if_pos ⟨hd, hp⟩]
/-- Signs ahead, one by one. -/
theorem n60run (s : ByteArray) (hs : s.size ≤ 100000) (sc : Nat) (sz vs here one : Int) (fm : Bool) (ho : argF sc sz vs here = some one) (deep last : Nat) (hd : deep ≤ 20) (hls : last ≤ s.size) (hl : runny s deep last = false) (B : Res) (hBe : ∀ x, B = .err x → x ≠ 0) (hBw : ∀ n en, B = .ok n en → within n = true)
    (hBase : ∀ i, i ≤ last → skp s deep i = last → ROpd s sc sz vs here fm i deep B) :
    ∀ (k i : Nat), last - i = k → i ≤ last → (∀ j, i ≤ j → j < last → runny s deep j = true) → ROpd s sc sz vs here fm i deep (fin s ⟨one, sz, vs, here, fm⟩ i last B) := by
  intro k
  induction k using Nat.strongRecOn with
  | ind k ih =>
    intro i hk hi hr
    have hbl : blk s deep last = false := by
      unfold runny at hl; simp only [Bool.or_eq_false_iff] at hl; exact hl.2
    have hpi := skp_ge s deep i
    have hpl : skp s deep i ≤ last := by
      rcases Nat.lt_or_ge last (skp s deep i) with h | h
      · have := skp_all (s := s) (deep := deep) hi h
        rw [hbl] at this; cases this
      · exact h
    have hfb := fin_blanks (M := ⟨one, sz, vs, here, fm⟩) (B := B) hpi hpl (fun l a b => skp_all a b)
    rw [hfb]
    by_cases hp : skp s deep i = last
    · rw [hp, fin_here]
      exact hBase i hi hp
    · have hlt : skp s deep i < last := by omega
      have hrp := hr (skp s deep i) hpi hlt
      have hst := skp_stop (deep := deep) (by omega : i ≤ s.size)
      have hsg : isSign (bt s (skp s deep i)) = true := by
        unfold runny at hrp
        rw [hst] at hrp
        simpa using hrp
      have hO := ih (last - (skp s deep i + 1)) (by omega) (skp s deep i + 1) rfl (by omega) (fun j a b => hr j (by omega) b)
      rw [fin_sign hlt]
      rcases hf : fin s ⟨one, sz, vs, here, fm⟩ (skp s deep i + 1) last B with ⟨n, en⟩ | x
      · rw [hf] at hO
        obtain ⟨n0, he, hb⟩ := fin_ok hf
        have hnw : within n = true := back_within hb (hBw _ _ he)
        cases fm
        · exact n60sf s hs sc sz vs here one ho i deep en n hnw (by omega) hd (by omega) hsg hO
        · have hsm : ∃ m, sgR ⟨one, sz, vs, here, true⟩ (bt s (skp s deep i)) (.ok n en) = .ok m en := by
            unfold sgR sg1
            simp only [if_true]
            split
            · exact ⟨_, rfl⟩
            · rename_i h
              exfalso
              split at h
              · cases h
              · split at h
                · cases h
                · split at h <;> cases h
          obtain ⟨m, hm⟩ := hsm
          rw [hm]
          exact n60st s hs sc sz vs here i deep en n m (by omega) hd (by omega) hsg hO
      · rw [hf] at hO
        exact n60se s hs sc sz vs here fm i deep x (by omega) hd (by omega) hsg (fin_err hf hBe) hO
/-- 60: operand. -/
theorem n60 (s : ByteArray) (hs : s.size ≤ 100000) (sc : Nat) (sz vs here one : Int) (fm : Bool) (ho : argF sc sz vs here = some one) (f i deep : Nat) (r : Res) (hi : i ≤ s.size) (hd : deep ≤ 20) (hev : ev s ⟨one, sz, vs, here, fm⟩ (f + 1) (.opd i deep) = some r)
    (ih : ∀ i' r', ev s ⟨one, sz, vs, here, fm⟩ f (.sum i' (deep + 1)) = some r' → i' ≤ s.size → deep < 20 → RSum s sc sz vs here fm i' (deep + 1) r') : ROpd s sc sz vs here fm i deep r := by
  rw [ev_opd_base] at hev
  rcases hB : baseR s ⟨one, sz, vs, here, fm⟩ f (rn s deep i) deep with _ | B
  · rw [hB] at hev; cases hev
  rw [hB] at hev
  injection hev with hev
  subst hev
  have hls := rn_le (deep := deep) hi
  have hl := rn_stop (deep := deep) hi
  refine n60run s hs sc sz vs here one fm ho deep (rn s deep i) hd hls hl B ?_ ?_ ?_ _ i rfl (rn_ge _ _ _) (fun j a b => rn_all a b)
  · intro x hx
    subst hx
    unfold baseR at hB
    split at hB
    · split at hB
      · split at hB
        · cases hB
        · rename_i x' hs'
          cases hB; exact ev_err _ _ _ _ _ hs'
        · split at hB
          · cases hB
          · cases hB; omega
      · cases hB; omega
    · injection hB with hB; exact numF_err hB
  · intro n en hx
    subst hx
    unfold baseR at hB
    split at hB
    · split at hB
      · split at hB
        · cases hB
        · cases hB
        · rename_i n' en' hs'
          split at hB
          · cases hB
            rename_i h40 _ _
            have hlt : rn s deep i < s.size := bt_lt (by omega)
            exact (ev_ok _ _ _ _ _ _ hs' (by omega)).1
          · cases hB
      · cases hB
    · injection hB with hB; exact (numF_ok hB hls).1
  · intro i0 hi0 hp
    generalize rn s deep i = last at hB hls hl hi0 hp
    subst hp
    have hnsg : isSign (bt s (skp s deep i0)) = false := by
      unfold runny at hl; simp only [Bool.or_eq_false_iff] at hl; exact hl.1
    by_cases hlt : skp s deep i0 < s.size
    · unfold baseR at hB
      by_cases h40 : bt s (skp s deep i0) = 40
      · rw [if_pos h40] at hB
        by_cases h20 : deep < 20
        · rw [if_pos h20] at hB
          rcases hsv : ev s ⟨one, sz, vs, here, fm⟩ f (.sum (skp s deep i0 + 1) (deep + 1)) with _ | r1
          · rw [hsv] at hB; cases hB
          rw [hsv] at hB
          have hS := ih _ _ hsv (by omega) h20
          rcases r1 with ⟨n, en⟩ | x
          · have hok := ev_ok _ _ _ _ _ _ hsv (by omega)
            have hb := n60b s hs sc sz vs here fm i0 deep n en (by omega) h20 hlt h40 hok.2.2 hS
            simp only at hB
            by_cases h41 : bt s (skp s (deep + 1) en) = 41
            · rw [if_pos h41] at hB hb
              cases hB; exact hb
            · rw [if_neg h41] at hB hb
              cases hB; exact hb
          · cases hB
            exact n60e s hs sc sz vs here fm i0 deep x (by omega) h20 hlt h40 (ev_err _ _ _ _ _ hsv) hS
        · rw [if_neg h20] at hB
          cases hB
          obtain rfl : deep = 20 := by omega
          exact n60d s hs sc sz vs here fm i0 (by omega) hlt h40
      · rw [if_neg h40] at hB
        injection hB with hB
        subst hB
        exact n60n s hs sc sz vs here one fm ho i0 deep (by omega) hd hlt h40 hnsg
    · have h40 : ¬ bt s (skp s deep i0) = 40 := by simp [bt, hlt]
      unfold baseR at hB
      rw [if_neg h40] at hB
      injection hB with hB
      subst hB
      rw [numF_end (by omega)]
      exact n60z s hs sc sz vs here fm i0 deep (by omega) hd (by omega)
end Go.Proofs.YtonhglhdbpmnhaaDoor
