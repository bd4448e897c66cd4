/- Plain reckoning: names that lead to numbers (of blocks, of places), as a list, ascending by name, and as a map's datum. -/
import GoSem.Op.String
import Derived.Laws.Strings
import Derived.Maps.OwnSet
namespace Go.Proofs.YtbedddgfijpbcaaGreat

/-! ### the order of names -/
abbrev bl := Op.bytesLess
theorem bl_irr : ∀ a : List UInt8, bl a a = false
  | [] => rfl
  | x :: a => by simp [bl, Op.bytesLess]; exact bl_irr a
theorem bl_asy : ∀ {a b : List UInt8}, bl a b = true → bl b a = false
  | _, [], h => by cases ‹List UInt8› <;> simp [bl, Op.bytesLess] at h
  | [], _ :: _, _ => rfl
  | x :: a, y :: b, h => by
    simp only [bl, Op.bytesLess, Bool.or_eq_true, decide_eq_true_eq, Bool.and_eq_true, beq_iff_eq, Bool.or_eq_false_iff, decide_eq_false_iff_not, Bool.and_eq_false_iff] at h ⊢
    rcases h with h | ⟨rfl, h⟩
    · refine ⟨?_, .inl ?_⟩
      · rw [UInt8.lt_iff_toNat_lt] at h ⊢; omega
      · rw [UInt8.lt_iff_toNat_lt] at h
        simp only [beq_eq_false_iff_ne, ne_eq]
        intro e; subst e; omega
    · exact ⟨by rw [UInt8.lt_iff_toNat_lt]; omega, .inr (bl_asy h)⟩
theorem bl_tri : ∀ {a b : List UInt8}, bl a b = false → a ≠ b → bl b a = true
  | [], [], _, h => absurd rfl h
  | [], _ :: _, h, _ => by simp [bl, Op.bytesLess] at h
  | _ :: _, [], _, _ => rfl
  | x :: a, y :: b, h, hne => by
    simp only [bl, Op.bytesLess, Bool.or_eq_true, decide_eq_true_eq, Bool.and_eq_true, beq_iff_eq, Bool.or_eq_false_iff, decide_eq_false_iff_not, Bool.and_eq_false_iff, beq_eq_false_iff_ne, ne_eq] at h ⊢
    by_cases e : x = y
    · subst e
      right
      refine ⟨rfl, bl_tri (h.2.resolve_left (fun h => h rfl)) (fun e => hne (by rw [e]))⟩
    · left
      have h1 := h.1
      rw [UInt8.lt_iff_toNat_lt] at h1 ⊢
      have : x.toNat ≠ y.toNat := fun e' => e (UInt8.toNat_inj.1 e')
      omega
theorem bl_trans : ∀ {a b c : List UInt8}, bl a b = true → bl b c = true → bl a c = true
  | a, [], _, h, _ => by cases a <;> simp [bl, Op.bytesLess] at h
  | _, _ :: _, [], _, h => by simp [bl, Op.bytesLess] at h
  | [], _ :: _, _ :: _, _, _ => rfl
  | x :: a, y :: b, z :: c, h, h' => by
    simp only [bl, Op.bytesLess, Bool.or_eq_true, decide_eq_true_eq, Bool.and_eq_true, beq_iff_eq] at h h' ⊢
    simp only [UInt8.lt_iff_toNat_lt] at h h' ⊢
    rcases h with h | ⟨rfl, h⟩ <;> rcases h' with h' | ⟨rfl, h'⟩
    · left; omega
    · left; omega
    · left; omega
    · right; exact ⟨rfl, bl_trans h h'⟩
theorem bb_bl : ∀ a b : List UInt8, bytesBefore a b = bl a b
  | [], [] => rfl
  | [], _ :: _ => rfl
  | _ :: _, [] => rfl
  | x :: a, y :: b => by simp [bytesBefore, bl, Op.bytesLess, bb_bl a b]

/-! ### a book as the list of its registers, ascending by name -/
abbrev Reg := Nat
def regVal (r : Reg) : Value := .pointer (some ⟨r, 0, none⟩)
abbrev Ent := ByteArray × Reg
def nlt (a b : ByteArray) : Bool := bl a.data.toList b.data.toList
theorem ba_ext {a b : ByteArray} (h : a.data.toList = b.data.toList) : a = b := ByteArray.ext (Array.ext' h)
theorem nlt_tri {a b : ByteArray} (h : nlt a b = false) (hne : a ≠ b) : nlt b a = true := bl_tri h (fun e => hne (ba_ext e))
theorem nlt_irr (a : ByteArray) : nlt a a = false := bl_irr _
def Srt (L : List Ent) : Prop := L.Pairwise fun p q => nlt p.1 q.1 = true
def zeroReg : Reg := 0
def idx : List Ent → ByteArray → Nat
  | [], _ => 0
  | p :: t, n => if nlt p.1 n then idx t n + 1 else 0
def hasB (L : List Ent) (n : ByteArray) : Bool := match L[idx L n]? with | some p => decide (p.1 = n) | none => false
def getR (L : List Ent) (n : ByteArray) : Reg := match L[idx L n]? with | some p => if p.1 = n then p.2 else zeroReg | none => zeroReg
def putR (L : List Ent) (n : ByteArray) (r : Reg) : List Ent := if hasB L n then L.set (idx L n) (n, r) else L.take (idx L n) ++ (n, r) :: L.drop (idx L n)
def delR (L : List Ent) (n : ByteArray) : List Ent := if hasB L n then L.take (idx L n) ++ L.drop (idx L n + 1) else L
theorem idx_le (n : ByteArray) : ∀ L : List Ent, idx L n ≤ L.length
  | [] => Nat.le_refl _
  | p :: t => by unfold idx; split <;> simp; exact idx_le n t
section
variable {p : Ent} {t : List Ent} {n : ByteArray} {r : Reg}
theorem has_lt (h : nlt p.1 n = true) : hasB (p :: t) n = hasB t n := by simp [hasB, idx, h]
theorem has_ge (h : nlt p.1 n = false) : hasB (p :: t) n = decide (p.1 = n) := by simp [hasB, idx, h]
theorem get_lt (h : nlt p.1 n = true) : getR (p :: t) n = getR t n := by simp [getR, idx, h]
theorem get_ge (h : nlt p.1 n = false) : getR (p :: t) n = if p.1 = n then p.2 else zeroReg := by simp [getR, idx, h]
theorem put_lt (h : nlt p.1 n = true) : putR (p :: t) n r = p :: putR t n r := by
  unfold putR; rw [has_lt h]; simp [idx, h]; split <;> rfl
theorem put_ge (h : nlt p.1 n = false) : putR (p :: t) n r = if p.1 = n then (n, r) :: t else (n, r) :: p :: t := by
  unfold putR; rw [has_ge h]; simp [idx, h]
theorem del_lt (h : nlt p.1 n = true) : delR (p :: t) n = p :: delR t n := by
  unfold delR; rw [has_lt h]; simp [idx, h]; split <;> rfl
theorem del_ge (h : nlt p.1 n = false) : delR (p :: t) n = if p.1 = n then t else p :: t := by
  unfold delR; rw [has_ge h]; simp [idx, h]
end
theorem Srt.tail_ {p : Ent} {t : List Ent} (h : Srt (p :: t)) : Srt t := (List.pairwise_cons.1 h).2
theorem Srt.head_ {p : Ent} {t : List Ent} (h : Srt (p :: t)) : ∀ q ∈ t, nlt p.1 q.1 = true := (List.pairwise_cons.1 h).1
theorem mem_put {n : ByteArray} {r : Reg} : ∀ {L : List Ent} {q : Ent}, q ∈ putR L n r → q = (n, r) ∨ q ∈ L
  | [], q, h => by simpa [putR, hasB, idx] using h
  | p :: t, q, h => by
    by_cases hp : nlt p.1 n = true
    · rw [put_lt hp] at h
      rcases List.mem_cons.1 h with rfl | h
      · exact .inr (List.mem_cons_self ..)
      · rcases mem_put h with e | e
        · exact .inl e
        · exact .inr (List.mem_cons_of_mem _ e)
    · rw [put_ge (by simpa using hp)] at h
      split at h
      · rcases List.mem_cons.1 h with rfl | h
        · exact .inl rfl
        · exact .inr (List.mem_cons_of_mem _ h)
      · rcases List.mem_cons.1 h with rfl | h
        · exact .inl rfl
        · exact .inr h
theorem Srt.put {n : ByteArray} {r : Reg} : ∀ {L : List Ent}, Srt L → Srt (putR L n r)
  | [], _ => by simp [putR, hasB, idx, Srt]
  | p :: t, h => by
    by_cases hp : nlt p.1 n = true
    · rw [put_lt hp]
      refine List.pairwise_cons.2 ⟨fun q hq => ?_, Srt.put h.tail_⟩
      rcases mem_put hq with rfl | hq
      · exact hp
      · exact h.head_ q hq
    · have hp' : nlt p.1 n = false := by simpa using hp
      rw [put_ge hp']
      split
      · rename_i e
        exact List.pairwise_cons.2 ⟨fun q hq => by rw [← e]; exact h.head_ q hq, h.tail_⟩
      · rename_i e
        have hn := nlt_tri hp' e
        refine List.pairwise_cons.2 ⟨fun q hq => ?_, h⟩
        rcases List.mem_cons.1 hq with rfl | hq
        · exact hn
        · exact bl_trans hn (h.head_ q hq)
theorem del_sub (n : ByteArray) (L : List Ent) : (delR L n).Sublist L := by
  unfold delR
  split
  · have : (L.take (idx L n) ++ L.drop (idx L n + 1)).Sublist (L.take (idx L n) ++ L.drop (idx L n)) :=
      List.Sublist.append_left (by rw [← List.drop_drop]; exact List.drop_sublist 1 _) _
    rwa [List.take_append_drop] at this
  · exact List.Sublist.refl _
theorem Srt.del {n : ByteArray} {L : List Ent} (h : Srt L) : Srt (delR L n) := List.Pairwise.sublist (del_sub n L) h

/-! ### as a map's datum -/
theorem ins_le {x y : Lit × DataW Value} {r : List (Lit × DataW Value)} (h : x.1.before y.1 = false) : DataW.insert x (y :: r) = y :: DataW.insert x r := by
  rw [DataW.insert, if_neg (by rw [h]; simp)]
theorem ins_lt {x y : Lit × DataW Value} {r : List (Lit × DataW Value)} (h : x.1.before y.1 = true) : DataW.insert x (y :: r) = x :: y :: r := by
  rw [DataW.insert, if_pos h]
def kOf (n : ByteArray) : Lit := .string n.data.toList
def eOf (p : Ent) : Lit × DataW Value := (kOf p.1, .held (regVal p.2))
def DB (L : List Ent) : DataW Value := .map (L.map eOf)
theorem same_k (a b : ByteArray) : (kOf a).sameKey (kOf b) = decide (a = b) := by
  show (a.data.toList == b.data.toList) = _
  rw [Bool.eq_iff_iff]
  simp only [beq_iff_eq, decide_eq_true_eq]
  exact ⟨ba_ext, fun e => by rw [e]⟩
theorem before_k (a b : ByteArray) : (kOf a).before (kOf b) = nlt a b := bb_bl _ _
theorem ne_of_nlt {a b : ByteArray} (h : nlt a b = true) : a ≠ b := fun e => by subst e; rw [nlt_irr] at h; cases h
theorem filter_all {n : ByteArray} {L : List Ent} (h : ∀ q ∈ L, nlt n q.1 = true) : (L.map eOf).filter (ChangeMaps.notKey (kOf n)) = L.map eOf := by
  rw [List.filter_eq_self]
  intro x hx
  obtain ⟨q, hq, rfl⟩ := List.mem_map.1 hx
  simp [ChangeMaps.notKey, eOf, same_k, (ne_of_nlt (h q hq)).symm]
theorem DB_put {n : ByteArray} {r : Reg} : ∀ {L : List Ent}, Srt L → ChangeMaps.putKey (kOf n) (.held (regVal r)) (L.map eOf) = (putR L n r).map eOf
  | [], _ => rfl
  | p :: t, h => by
    unfold ChangeMaps.putKey
    have ih := DB_put (n := n) (r := r) h.tail_
    unfold ChangeMaps.putKey at ih
    by_cases hp : nlt p.1 n = true
    · have h1 : ChangeMaps.notKey (kOf n) (eOf p) = true := by simp [ChangeMaps.notKey, eOf, same_k, ne_of_nlt hp]
      have h2 : (kOf n).before (eOf p).1 = false := (before_k _ _).trans (bl_asy hp)
      rw [put_lt hp, List.map_cons, List.map_cons, List.filter_cons_of_pos h1, ← ih, ins_le h2]
    · have hp' : nlt p.1 n = false := by simpa using hp
      rw [put_ge hp']
      by_cases e : p.1 = n
      · have h1 : ¬ ChangeMaps.notKey (kOf n) (eOf p) = true := by simp [ChangeMaps.notKey, eOf, same_k, e]
        rw [if_pos e, List.map_cons, List.filter_cons_of_neg h1, filter_all (by rw [← e]; exact h.head_)]
        cases t with
        | nil => rfl
        | cons q t =>
          have h2 : (kOf n).before (eOf q).1 = true := (before_k _ _).trans (by rw [← e]; exact h.head_ q (List.mem_cons_self ..))
          rw [List.map_cons, ins_lt h2]
          rfl
      · have hn := nlt_tri hp' e
        have h2 : (kOf n).before (eOf p).1 = true := (before_k _ _).trans hn
        rw [if_neg e, filter_all (L := p :: t) (fun q hq => by
          rcases List.mem_cons.1 hq with rfl | hq
          · exact hn
          · exact bl_trans hn (h.head_ q hq)), List.map_cons, ins_lt h2]
        rfl
theorem DB_del {n : ByteArray} : ∀ {L : List Ent}, Srt L → ChangeMaps.delKey (kOf n) (L.map eOf) = (delR L n).map eOf
  | [], _ => rfl
  | p :: t, h => by
    unfold ChangeMaps.delKey
    have ih := DB_del (n := n) h.tail_
    unfold ChangeMaps.delKey at ih
    by_cases hp : nlt p.1 n = true
    · have h1 : ChangeMaps.notKey (kOf n) (eOf p) = true := by simp [ChangeMaps.notKey, eOf, same_k, ne_of_nlt hp]
      rw [del_lt hp, List.map_cons, List.filter_cons_of_pos h1, ih, List.map_cons]
    · have hp' : nlt p.1 n = false := by simpa using hp
      rw [del_ge hp']
      by_cases e : p.1 = n
      · have h1 : ¬ ChangeMaps.notKey (kOf n) (eOf p) = true := by simp [ChangeMaps.notKey, eOf, same_k, e]
        rw [if_pos e, List.map_cons, List.filter_cons_of_neg h1, filter_all (by rw [← e]; exact h.head_)]
      · have hn := nlt_tri hp' e
        rw [if_neg e, filter_all (L := p :: t) (fun q hq => by
          rcases List.mem_cons.1 hq with rfl | hq
          · exact hn
          · exact bl_trans hn (h.head_ q hq))]
theorem put_DB {n : ByteArray} {r : Reg} {L : List Ent} (h : Srt L) : (DB L).put (kOf n) (.held (regVal r)) = DB (putR L n r) := by
  unfold DB; rw [DataW.put_eq, DB_put h]
theorem del_DB {n : ByteArray} {L : List Ent} (h : Srt L) : (DB L).del (kOf n) = DB (delR L n) := by
  unfold DB; rw [DataW.del_eq, DB_del h]
theorem find_DB {n : ByteArray} : ∀ {L : List Ent}, Srt L → (L.map eOf).find? (fun p => p.1.sameKey (kOf n)) = if hasB L n then some (kOf n, .held (regVal (getR L n))) else none
  | [], _ => rfl
  | p :: t, h => by
    have ih := find_DB (n := n) h.tail_
    rw [List.map_cons, List.find?_cons]
    by_cases hp : nlt p.1 n = true
    · have h1 : (eOf p).1.sameKey (kOf n) = false := (same_k _ _).trans (by simpa using ne_of_nlt hp)
      rw [has_lt hp, get_lt hp, h1]
      exact ih
    · have hp' : nlt p.1 n = false := by simpa using hp
      rw [has_ge hp', get_ge hp']
      by_cases e : p.1 = n
      · have h1 : (eOf p).1.sameKey (kOf n) = true := (same_k _ _).trans (by simpa using e)
        rw [h1]; simp [e, eOf]
      · have h1 : (eOf p).1.sameKey (kOf n) = false := (same_k _ _).trans (by simpa using e)
        rw [h1]
        have hn := nlt_tri hp' e
        simp only [e, decide_false, Bool.false_eq_true, if_false]
        rw [List.find?_eq_none]
        intro x hx
        obtain ⟨q, hq, rfl⟩ := List.mem_map.1 hx
        have := ne_of_nlt (bl_trans hn (h.head_ q hq))
        simp [eOf, same_k, Ne.symm this]
theorem has_DB {n : ByteArray} {L : List Ent} (h : Srt L) : Maps.has (DB L) (kOf n) = hasB L n := by
  show (L.map eOf).any (fun p => p.1.sameKey (kOf n)) = _
  have : (L.map eOf).any (fun p => p.1.sameKey (kOf n)) = ((L.map eOf).find? (fun p => p.1.sameKey (kOf n))).isSome := by
    rw [List.isSome_find?]
  rw [this, find_DB h]
  split <;> simp_all
theorem at_DB {n : ByteArray} {L : List Ent} (h : Srt L) (z : DataW Value) : (DB L).atKey (kOf n) z = if hasB L n then .held (regVal (getR L n)) else z := by
  unfold DB DataW.atKey
  simp only
  rw [find_DB h]
  by_cases hh : hasB L n = true <;> simp [hh]
theorem size_DB (L : List Ent) : Maps.size (DB L) = L.length := by simp [DB, Maps.size]
theorem get_miss {L : List Ent} {n : ByteArray} (h : hasB L n = false) : getR L n = zeroReg := by
  unfold hasB at h; unfold getR
  split <;> simp_all
theorem len_put {L : List Ent} {n : ByteArray} {r : Reg} : (putR L n r).length = if hasB L n then L.length else L.length + 1 := by
  have := idx_le n L
  unfold putR; split <;> simp; omega
theorem len_del {L : List Ent} {n : ByteArray} : (delR L n).length ≤ L.length := (del_sub n L).length_le
end Go.Proofs.YtbedddgfijpbcaaGreat
