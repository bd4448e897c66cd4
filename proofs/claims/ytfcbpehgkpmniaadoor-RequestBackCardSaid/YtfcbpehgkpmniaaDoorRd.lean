/- Control lines as bytes: an argument that is read again by itself is read again among others. -/
import Derived.Test.YtfcbpehgkpmniaaDoorAe
import Derived.Test.YtfcbpehgkpmniaaDoorAg
namespace Go.Proofs.YtfcbpehgkpmniaaDoor

def tailR (r : List UInt8) : Prop := r = [] ∨ ∃ t, r = 32 :: t
theorem tl_rest {r : List UInt8} (h : tailR r) : tlL r = ([], r) := by
  rcases h with rfl | ⟨t, rfl⟩
  · rfl
  · exact tlL_stop rfl
theorem tl_emb : ∀ (l r : List UInt8), tlL l = (l, []) → oddE false l = false → tailR r → tlL (l ++ r) = (l, r)
  | [], r, _, _, hr => tl_rest hr
  | [c], r, h, ho, hr => by
    have hb : blB c = false := by
      cases hb : blB c
      · rfl
      · rw [tlL_stop hb] at h; cases h
    have hc : c.toNat ≠ 92 := by
      intro e
      rw [oddE_cons] at ho
      simp [e, oddE] at ho
    show tlL (c :: r) = _
    rw [tlL_one hb (.inl hc), tl_rest hr]
  | c :: d :: t, r, h, ho, hr => by
    have hb : blB c = false := by
      cases hb : blB c
      · rfl
      · rw [tlL_stop hb] at h; cases h
    by_cases e : c.toNat = 92
    · rw [tlL_two hb e] at h
      injection h with h1 h2
      injection h1 with _ h1
      injection h1 with _ h1
      have ho' : oddE false t = false := by
        rw [oddE_cons, oddE_cons] at ho
        simpa [e] using ho
      have := tl_emb t r (Prod.ext h1 h2) ho' hr
      show tlL (c :: d :: (t ++ r)) = _
      rw [tlL_two hb e, this]
    · rw [tlL_one hb (.inl e)] at h
      injection h with h1 h2
      injection h1 with _ h1
      have ho' : oddE false (d :: t) = false := by
        rw [oddE_cons] at ho
        simpa [e] using ho
      have := tl_emb (d :: t) r (Prod.ext h1 h2) ho' hr
      show tlL (c :: ((d :: t) ++ r)) = _
      rw [tlL_one hb (.inl e), this]
theorem tl_len : ∀ l : List UInt8, (tlL l).1.length + (tlL l).2.length = l.length
  | [] => rfl
  | [c] => by unfold tlL; split <;> rfl
  | c :: d :: t => by
    have h1 := tl_len t
    have h2 := tl_len (d :: t)
    unfold tlL
    split
    · simp
    · split
      · simp only [List.length_cons]; omega
      · simp only [List.length_cons] at h2 ⊢; omega
theorem tl_suf : ∀ l : List UInt8, ∃ p, l = p ++ (tlL l).2
  | [] => ⟨[], rfl⟩
  | [c] => by
    unfold tlL
    split
    · exact ⟨[], rfl⟩
    · exact ⟨[c], rfl⟩
  | c :: d :: t => by
    obtain ⟨p1, h1⟩ := tl_suf t
    obtain ⟨p2, h2⟩ := tl_suf (d :: t)
    unfold tlL
    split
    · exact ⟨[], rfl⟩
    · split
      · exact ⟨c :: d :: p1, by simp only [List.cons_append]; rw [← h1]⟩
      · exact ⟨c :: p2, by simp only [List.cons_append]; rw [← h2]⟩
/-- Whether a text within quotes is closed. -/
def clo : List UInt8 → Bool
  | [] => false
  | [c] => decide (c.toNat = 34)
  | c :: d :: t => if c.toNat = 34 then (if d.toNat = 34 then clo t else true) else if c.toNat = 92 then clo t else clo (d :: t)
def qn (l : List UInt8) : Nat := l.countP (fun c => decide (c.toNat = 34))
theorem qn_cons (c : UInt8) (t : List UInt8) : qn (c :: t) = qn t + (if c.toNat = 34 then 1 else 0) := by
  unfold qn
  rw [List.countP_cons]
  simp
theorem qt_suf : ∀ l : List UInt8, ∃ p, l = p ++ (qtL l).2
  | [] => ⟨[], rfl⟩
  | [c] => by
    unfold qtL
    split <;> exact ⟨[c], rfl⟩
  | c :: d :: t => by
    obtain ⟨p1, h1⟩ := qt_suf t
    obtain ⟨p2, h2⟩ := qt_suf (d :: t)
    unfold qtL
    split
    · split
      · exact ⟨c :: d :: p1, by simp only [List.cons_append]; rw [← h1]⟩
      · exact ⟨[c], rfl⟩
    · split
      · exact ⟨c :: d :: p1, by simp only [List.cons_append]; rw [← h1]⟩
      · exact ⟨c :: p2, by simp only [List.cons_append]; rw [← h2]⟩
theorem qt_count : ∀ l : List UInt8, ∃ p : Nat, l.length = (qtL l).1.length + (qtL l).2.length + p + (clo l).toNat ∧ 2 * p + (clo l).toNat + qn (qtL l).2 ≤ qn l
  | [] => ⟨0, rfl, Nat.zero_le _⟩
  | [c] => by
    refine ⟨0, ?_, ?_⟩
    · unfold qtL clo
      by_cases e : c.toNat = 34
      · simp [e]
      · simp [e]
    · unfold qtL clo
      rw [qn_cons]
      by_cases e : c.toNat = 34
      · simp [e, qn]
      · simp [e, qn]
  | c :: d :: t => by
    obtain ⟨p1, a1, a2⟩ := qt_count t
    obtain ⟨p2, b1, b2⟩ := qt_count (d :: t)
    unfold qtL clo
    rw [qn_cons, qn_cons]
    rw [qn_cons] at b2
    by_cases e : c.toNat = 34
    · rw [if_pos e, if_pos e, if_pos e]
      by_cases e2 : d.toNat = 34
      · rw [if_pos e2, if_pos e2, if_pos e2]
        exact ⟨p1 + 1, by simp only [List.length_cons]; omega, by simp only; omega⟩
      · rw [if_neg e2, if_neg e2, if_neg e2]
        exact ⟨0, by simp only [List.length_cons, List.length_nil, Bool.toNat_true]; omega, by simp only [Bool.toNat_true]; rw [qn_cons, if_neg e2]; omega⟩
    · rw [if_neg e, if_neg e, if_neg e]
      by_cases e2 : c.toNat = 92
      · rw [if_pos e2, if_pos e2]
        exact ⟨p1, by simp only [List.length_cons]; omega, by simp only; omega⟩
      · rw [if_neg e2, if_neg e2]
        exact ⟨p2, by simp only [List.length_cons] at b1 ⊢; omega, by simp only; omega⟩
theorem qt_app : ∀ (l r : List UInt8), clo l = true → tailR r → qtL (l ++ r) = ((qtL l).1, (qtL l).2 ++ r)
  | [], r, h, _ => by cases h
  | [c], r, h, hr => by
    unfold clo at h
    have e : c.toNat = 34 := by simpa using h
    show qtL (c :: r) = _
    rw [qtL_end e]
    rcases hr with rfl | ⟨t, rfl⟩
    · rw [qtL_end e]; rfl
    · rw [qtL_stop e (by decide)]; rfl
  | c :: d :: t, r, h, hr => by
    unfold clo at h
    show qtL (c :: d :: (t ++ r)) = _
    by_cases e : c.toNat = 34
    · rw [if_pos e] at h
      by_cases e2 : d.toNat = 34
      · rw [if_pos e2] at h
        rw [qtL_dbl e e2, qtL_dbl e e2, qt_app t r h hr]
      · rw [qtL_stop e e2, qtL_stop e e2]
        rfl
    · rw [if_neg e] at h
      by_cases e2 : c.toNat = 92
      · rw [if_pos e2] at h
        rw [qtL_two e2, qtL_two e2, qt_app t r h hr]
      · rw [if_neg e2] at h
        have := qt_app (d :: t) r h hr
        rw [List.cons_append] at this
        rw [qtL_one e (.inl e2), qtL_one e (.inl e2), this]
theorem dbl_len (a : List UInt8) : (dblL a).length = a.length + qn a ∧ qn (dblL a) = 2 * qn a := by
  induction a with
  | nil => exact ⟨rfl, rfl⟩
  | cons c t ih =>
    by_cases e : c.toNat = 34
    · rw [dblL_q e, qn_cons, qn_cons, qn_cons]
      simp only [List.length_cons, e, if_true]
      have : (34 : UInt8).toNat = 34 := rfl
      rw [this]
      simp only [if_true]
      omega
    · rw [dblL_p e, qn_cons, qn_cons]
      simp only [List.length_cons, e, if_false]
      omega
theorem last_q {m p r : List UInt8} (h : m ++ [34] = p ++ r) (hr : r ≠ []) : 0 < qn r ∧ r.all blB = false := by
  have hl : r.getLast hr = 34 := by
    have h1 : (p ++ r).getLast (by simp [hr]) = r.getLast hr := List.getLast_append_of_ne_nil _ hr
    rw [← h1]
    simp [← h]
  have hm : (34 : UInt8) ∈ r := by rw [← hl]; exact List.getLast_mem hr
  constructor
  · unfold qn
    rw [List.countP_pos_iff]
    exact ⟨34, hm, rfl⟩
  · rw [List.all_eq_false]
    exact ⟨34, hm, by decide⟩
theorem sk_nil : ∀ {l : List UInt8}, skL l = [] → l.all blB = true
  | [], _ => rfl
  | c :: t, h => by
    rw [skL_cons] at h
    cases hb : blB c
    · rw [hb] at h; cases h
    · rw [hb] at h
      rw [List.all_cons, hb, sk_nil h]
      rfl
theorem wds_nil {l : List UInt8} (h : wdsL l = []) : l.all blB = true := by
  rw [wdsL_eq] at h
  cases hs : skL l with
  | nil => exact sk_nil hs
  | cons c t => rw [hs] at h; cases h
/-- A quoted argument that is read again by itself ends with its last quote. -/
theorem quo_end {a : List UInt8} (h : wdsL (34 :: (dblL a ++ [34])) = [a]) : qtL (dblL a ++ [34]) = (a, []) ∧ clo (dblL a ++ [34]) = true := by
  rw [wdsL_at rfl (show blB 34 = false from rfl), agL1_q rfl] at h
  injection h with h1 h2
  simp only at h1 h2
  obtain ⟨p1, s1⟩ := qt_suf (dblL a ++ [34])
  obtain ⟨p2, s2⟩ := tl_suf (qtL (dblL a ++ [34])).2
  have hw := wds_nil h2
  have hz : (tlL (qtL (dblL a ++ [34])).2).2 = [] := by
    by_cases e : (tlL (qtL (dblL a ++ [34])).2).2 = []
    · exact e
    · have := (last_q (m := dblL a) (p := p1 ++ p2) (r := (tlL (qtL (dblL a ++ [34])).2).2) (by rw [List.append_assoc, ← s2, ← s1]) e).2
      rw [hw] at this
      cases this
  have hl := tl_len (qtL (dblL a ++ [34])).2
  rw [hz] at hl
  obtain ⟨p, c1, c2⟩ := qt_count (dblL a ++ [34])
  have hd := dbl_len a
  have hq : qn (dblL a ++ [34]) = 2 * qn a + 1 := by
    unfold qn at hd ⊢
    rw [List.countP_append, hd.2]
    rfl
  have h1l := congrArg List.length h1
  rw [List.length_append] at h1l c1
  simp only [List.length_cons, List.length_nil] at c1 hl
  have hb : (clo (dblL a ++ [34])).toNat ≤ 1 := Bool.toNat_le _
  have hr : (qtL (dblL a ++ [34])).2 = [] := by
    by_cases e : (qtL (dblL a ++ [34])).2 = []
    · exact e
    · have := (last_q (m := dblL a) s1 e).1
      omega
  rw [hr, show tlL [] = ([], []) from rfl, List.append_nil] at h1
  refine ⟨Prod.ext h1 hr, ?_⟩
  cases hc : clo (dblL a ++ [34])
  · rw [hc, Bool.toNat_false] at c1 c2
    omega
  · rfl
/-- An argument among others. -/
theorem emb {a word rest : List UInt8} (hw : (word = a ∧ a ≠ [] ∧ (∀ c t, a = c :: t → c.toNat ≠ 34) ∧ oddE false a = false) ∨ word = 34 :: (dblL a ++ [34])) (hW : wdsL word = [a]) (hr : tailR rest) : wdsL (word ++ rest) = a :: wdsL rest := by
  rcases hw with ⟨rfl, h0, h34, ho⟩ | rfl
  · rw [wdsL_eq] at hW
    cases hs : skL word with
    | nil => rw [hs] at hW; cases hW
    | cons c t =>
      rw [hs] at hW
      injection hW with h1 h2
      have hb := skL_head hs
      have hlen : (agL1 (c :: t)).1.length ≤ (c :: t).length := by
        by_cases e : c.toNat = 34
        · rw [agL1_q e]
          have q1 := qt_count t
          obtain ⟨p, q1, _⟩ := q1
          have q2 := tl_len (qtL t).2
          simp only [List.length_append, List.length_cons]
          omega
        · rw [agL1_p e]
          have := tl_len (c :: t)
          omega
      have hsk := skL_le word
      rw [hs] at hsk
      rw [h1] at hlen
      have he : word = c :: t := by
        have hd : word = word.takeWhile blB ++ skL word := (List.takeWhile_append_dropWhile ..).symm
        have hdl := congrArg List.length hd
        rw [List.length_append, hs] at hdl
        have : word.takeWhile blB = [] := List.eq_nil_of_length_eq_zero (by omega)
        rw [this, hs] at hd
        exact hd
      have hne := h34 c t he
      rw [agL1_p hne] at h1
      have hl2 := tl_len (c :: t)
      rw [h1, ← he] at hl2
      have hz : (tlL (c :: t)).2 = [] := List.eq_nil_of_length_eq_zero (by rw [he] at hl2; omega)
      have htl : tlL word = (word, []) := by rw [he]; exact Prod.ext (by rw [h1, he]) hz
      have hem := tl_emb word rest htl ho hr
      have hca : word ++ rest = c :: (t ++ rest) := by rw [he]; rfl
      rw [wdsL_at hca hb, hca, agL1_p hne, ← hca, hem]
  · obtain ⟨q1, q2⟩ := quo_end hW
    have ha := qt_app _ rest q2 hr
    have hca : (34 :: (dblL a ++ [34])) ++ rest = 34 :: ((dblL a ++ [34]) ++ rest) := rfl
    rw [wdsL_at hca rfl, hca, agL1_q rfl, ha, q1]
    simp only [List.nil_append]
    rw [tl_rest hr, List.append_nil]
end Go.Proofs.YtfcbpehgkpmniaaDoor
