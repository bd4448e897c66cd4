/- Plain reckoning: a text in which each \ stands twice; what it comes to in copy mode. -/
import Derived.Test.YtbkcnopkibdlbaaDoorAo
import Derived.Lib.Replace
import Derived.Lib.CountLaws
import Derived.Lib.SplitLaws
import Derived.Lib.IndexBytes
namespace Go.Proofs.YtbkcnopkibdlbaaDoor
open Go.RowKit

/-- Each \ twice. -/
def twice : List UInt8 → List UInt8
  | [] => []
  | c :: l => if c = 92 then 92 :: 92 :: twice l else c :: twice l
theorem twice_len : ∀ l : List UInt8, (twice l).length ≤ 2 * l.length
  | [] => Nat.le_refl _
  | c :: l => by
    have := twice_len l
    unfold twice
    split <;> simp <;> omega
theorem twice_mem {b : UInt8} : ∀ {l : List UInt8}, b ∈ twice l → b ∈ l
  | [], h => h
  | c :: l, h => by
    unfold twice at h
    split at h
    · rename_i e
      simp only [List.mem_cons] at h ⊢
      rcases h with h | h | h
      · exact .inl (by rw [h, e])
      · exact .inl (by rw [h, e])
      · exact .inr (twice_mem h)
    · simp only [List.mem_cons] at h ⊢
      rcases h with h | h
      · exact .inl h
      · exact .inr (twice_mem h)
theorem twice_none : ∀ {l : List UInt8}, (∀ b ∈ l, b ≠ 92) → twice l = l
  | [], _ => rfl
  | c :: l, h => by
    unfold twice
    rw [if_neg (h c (List.mem_cons_self ..)), twice_none fun b hb => h b (List.mem_cons_of_mem _ hb)]
theorem twice_app : ∀ {p : List UInt8} (q : List UInt8), (∀ b ∈ p, b ≠ 92) → twice (p ++ 92 :: q) = p ++ 92 :: 92 :: twice q
  | [], q, _ => by rw [List.nil_append, twice, if_pos rfl]; rfl
  | c :: p, q, h => by
    rw [List.cons_append, twice, if_neg (h c (List.mem_cons_self ..)), twice_app q fun b hb => h b (List.mem_cons_of_mem _ hb), List.cons_append]
theorem parts : ∀ l : List UInt8, (∀ b ∈ l, b ≠ 92) ∨ ∃ p q, l = p ++ 92 :: q ∧ ∀ b ∈ p, b ≠ 92
  | [] => .inl fun _ h => by cases h
  | c :: l => by
    by_cases e : c = 92
    · subst e
      exact .inr ⟨[], l, rfl, fun _ h => by cases h⟩
    · rcases parts l with h | ⟨p, q, rfl, h⟩
      · exact .inl fun b hb => by
          rcases List.mem_cons.1 hb with rfl | hb
          · exact e
          · exact h b hb
      · exact .inr ⟨c :: p, q, rfl, fun b hb => by
          rcases List.mem_cons.1 hb with rfl | hb
          · exact e
          · exact h b hb⟩
open Go.Lib in
/-- What ReplaceAll makes of a text. -/
theorem rep_twice (k : Nat) : ∀ l : List UInt8, count l [92] = k → replaceK [92] [92, 92] k l = twice l := by
  induction k with
  | zero =>
    intro l h
    rw [count_one] at h
    exact (twice_none fun b hb e => by
      subst e
      exact absurd h (Nat.pos_iff_ne_zero.1 (List.count_pos_iff.2 hb))).symm
  | succ k ih =>
    intro l h
    rcases parts l with h2 | ⟨p, q, rfl, h2⟩
    · rw [count_one, List.count_eq_zero.2 (fun hb => h2 _ hb rfl)] at h
      omega
    · have hix : index (p ++ 92 :: q) [92] = (p.length : Nat) := by
        clear h
        induction p with
        | nil => rw [List.nil_append, index]; simp [List.isPrefixOf]
        | cons c p ih2 =>
          have := ih2 fun b hb => h2 b (List.mem_cons_of_mem _ hb)
          have hc : c ≠ 92 := h2 c (List.mem_cons_self ..)
          rw [List.cons_append, index, if_neg (by simp [List.isPrefixOf]; exact fun e => hc e.symm), this, if_neg (by rw [beq_iff_eq]; omega)]
          simp
      rw [count_hit (by simp) hix] at h
      rw [replaceK_hit _ _ _ _ _ hix, ih _ (by omega), twice_app q h2]
      simp
theorem rep_all (l : List UInt8) : Lib.replaceAll l [92] [92, 92] = twice l := by
  unfold Lib.replaceAll Lib.replace Lib.replaceNum
  rw [if_neg (by decide), if_pos (.inl (by decide))]
  exact rep_twice _ l rfl

theorem bt_mk (l : List UInt8) (j : Nat) : bt ⟨l.toArray⟩ j = match l[j]? with | some c => c.toNat | none => 0 := by
  unfold bt
  by_cases h : j < (⟨l.toArray⟩ : ByteArray).size
  · rw [dif_pos h]
    have h' : j < l.length := by simpa [ByteArray.size] using h
    rw [List.getElem?_eq_getElem h']
    rfl
  · rw [dif_neg h]
    have h' : l.length ≤ j := by simpa [ByteArray.size] using h
    rw [List.getElem?_eq_none h']
theorem fdF_none (s : ByteArray) (cp : Bool) : ∀ (k i : Nat), s.size ≤ i + k → (∀ j, i ≤ j → j < s.size → bt s j ≠ 92) → fdF s cp i = none
  | 0, i, h, _ => fdF_end (by omega)
  | k + 1, i, h, hn => by
    by_cases h1 : i + 1 < s.size
    · rw [fdF_step h1, if_pos (hn i (Nat.le_refl _) (by omega))]
      exact fdF_none s cp k (i + 1) (by omega) fun j hj => hn j (by omega)
    · exact fdF_end h1
theorem fdF_skip (s : ByteArray) (cp : Bool) : ∀ (k i : Nat), i + k + 1 < s.size → (∀ j, i ≤ j → j < i + k → bt s j ≠ 92) → fdF s cp i = fdF s cp (i + k)
  | 0, _, _, _ => rfl
  | k + 1, i, h, hn => by
    rw [fdF_step (by omega), if_pos (hn i (Nat.le_refl _) (by omega)), fdF_skip s cp k (i + 1) (by omega) fun j hj h2 => hn j (by omega) (by omega)]
    congr 1
    omega
theorem mk_size (l : List UInt8) : (⟨l.toArray⟩ : ByteArray).size = l.length := by simp [ByteArray.size]
theorem es_plain {l : List UInt8} (h : ∀ b ∈ l, b ≠ 92) (cp : Bool) : esF ⟨l.toArray⟩ cp = none := by
  refine fdF_none _ _ _ 0 (Nat.le_of_eq (Nat.zero_add _).symm) fun j _ hj => ?_
  rw [mk_size] at hj
  rw [bt_mk, List.getElem?_eq_getElem hj]
  intro e
  have := h l[j] (List.getElem_mem hj)
  exact this (UInt8.toNat_inj.1 e)
theorem es_twice {p r : List UInt8} (h : ∀ b ∈ p, b ≠ 92) : esF ⟨(p ++ 92 :: 92 :: r).toArray⟩ true = some ⟨92, ⟨#[]⟩, 0, p.length, p.length + 2⟩ := by
  have hz : (⟨(p ++ 92 :: 92 :: r).toArray⟩ : ByteArray).size = p.length + 2 + r.length := by rw [mk_size]; simp; omega
  have h0 : bt ⟨(p ++ 92 :: 92 :: r).toArray⟩ p.length = 92 := by rw [bt_mk]; simp
  have hx : (⟨(p ++ 92 :: 92 :: r).toArray⟩ : ByteArray).extract p.length (⟨(p ++ 92 :: 92 :: r).toArray⟩ : ByteArray).size = ⟨(92 :: 92 :: r).toArray⟩ := by
    refine ba_eq ?_
    rw [ext_data, mk_size]
    show ((p ++ 92 :: 92 :: r).take (p ++ 92 :: 92 :: r).length).drop p.length = 92 :: 92 :: r
    rw [List.take_length, List.drop_left]
  have h1 : bt ⟨(92 :: 92 :: r : List UInt8).toArray⟩ 1 = 92 := by rw [bt_mk]; rfl
  have hr : rdF ⟨(92 :: 92 :: r : List UInt8).toArray⟩ true = some ⟨92, ⟨#[]⟩, 0, 0, 2⟩ := by
    unfold rdF
    rw [h1]
    rfl
  have hs := fdF_skip ⟨(p ++ 92 :: 92 :: r).toArray⟩ true p.length 0 (by omega) (fun j _ hj => by
    rw [bt_mk, List.getElem?_append_left (by omega), List.getElem?_eq_getElem (by omega)]
    intro e
    exact h p[j] (List.getElem_mem _) (UInt8.toNat_inj.1 e))
  unfold esF
  rw [hs, Nat.zero_add, fdF_step (by omega), if_neg (by rw [h0]; simp), hx, hr]
theorem Exp.inv_lit {cp : Bool} {A : Esc → ByteArray} {n : Nat} {D R : ByteArray} {o : Option ByteArray} {m : Nat} {x : Esc} (h : Exp cp A n D R o m) (he : esF R cp = some x) (hk : x.k = 92) : Exp cp A n (D ++ hdE R x ++ ⟨#[92]⟩) (tlE R x) o m := by
  cases h with
  | stop e => rw [he] at e; cases e
  | quote e k => rw [he] at e; injection e with e; subst e; omega
  | lit e _ r => rw [he] at e; injection e with e; subst e; rw [hk] at r; exact r
  | no e k _ => rw [he] at e; injection e with e; subst e; rcases k with k | k | k <;> omega
  | num e k => rw [he] at e; injection e with e; subst e; omega
  | again e k => rw [he] at e; injection e with e; subst e; omega
  | wFell e k => rw [he] at e; injection e with e; subst e; omega
  | wNo e k => rw [he] at e; injection e with e; subst e; omega
  | wNum e k => rw [he] at e; injection e with e; subst e; omega
/-- In copy mode such a text is the text again, and nobody is asked. -/
theorem exp_twice {A : Esc → ByteArray} {n m : Nat} {o : Option ByteArray} : ∀ (k : Nat) (l : List UInt8) (D : ByteArray), l.length ≤ k → Exp true A n D ⟨(twice l).toArray⟩ o m → o = some (D ++ ⟨l.toArray⟩) ∧ m = n := by
  intro k
  induction k with
  | zero =>
    intro l D hl h
    obtain rfl : l = [] := List.length_eq_zero_iff.1 (by omega)
    exact h.inv_stop (es_plain (fun _ h => by cases h) true)
  | succ k ih =>
    intro l D hl h
    rcases parts l with h2 | ⟨p, q, rfl, h2⟩
    · rw [twice_none h2] at h
      exact h.inv_stop (es_plain h2 true)
    · rw [twice_app q h2] at h
      have h3 := h.inv_lit (es_twice h2) rfl
      have hh : hdE ⟨(p ++ 92 :: 92 :: twice q).toArray⟩ ⟨92, ⟨#[]⟩, 0, p.length, p.length + 2⟩ = ⟨p.toArray⟩ := by
        refine ba_eq ?_
        unfold hdE
        rw [ext_data]
        simp
      have ht : tlE ⟨(p ++ 92 :: 92 :: twice q).toArray⟩ ⟨92, ⟨#[]⟩, 0, p.length, p.length + 2⟩ = ⟨(twice q).toArray⟩ := by
        refine ba_eq ?_
        unfold tlE
        rw [ext_data, mk_size]
        show ((p ++ 92 :: 92 :: twice q).take (p ++ 92 :: 92 :: twice q).length).drop (p.length + 2) = twice q
        rw [List.take_length, ← List.drop_drop, List.drop_left]
        rfl
      rw [hh, ht] at h3
      simp at hl
      obtain ⟨e1, e2⟩ := ih q _ (by omega) h3
      refine ⟨?_, e2⟩
      rw [e1]
      congr 1
      refine ba_eq ?_
      simp
end Go.Proofs.YtbkcnopkibdlbaaDoor
