/- Plain reckoning: names that lead to numbers (of blocks, of places), as a list, ascending by name, and as a map's datum. Blocks in memory; what has turned; strings whose bytes are as asked. Walks: names and texts. The code's store in memory: names that lead to blocks of entries. -/
import Derived.Test.YtpgkhhchpojlaaaGreatDoorEd
import Derived.Test.YtpgkhhchpojlaaaGreatDoorProg
import GoSem.Op.String
import Derived.Laws.Strings
import Derived.Maps.OwnSet
import Derived.Handy
import Derived.WalkLawsBesides
import Derived.WalkSpells
import Derived.Lib.Hide
import Derived.Laws.OwnMore
import Derived.Deep.Draws
import Derived.Outline
import Derived.BigQuiet
import Derived.Deep.QuietTactic
import Derived.IntWalk
import Derived.Maps.RangeWalk
import Derived.ProofKit
namespace Go.Proofs.YtpgkhhchpojlaaaGreatDoor.Sto

/-! ### the order of names -/
abbrev bl := Op.bytesLess
theorem bl_irr : ∀ a : List UInt8, bl a a = false
  | [] => rfl
  | x :: a => by simp [bl, Op.bytesLess]; exact bl_irr a
theorem bl_asy : ∀ {a b : List UInt8}, bl a b = true → bl b a = false
  | _, [], h => by cases ‹List UInt8› <;> simp [bl, Op.bytesLess] at h
  | [], _ :: _, _ => rfl
  | x :: a, y :: b, h => by
    simp only [bl, Op.bytesLess, Bool.or_eq_true, decide_eq_true_eq, Bool.and_eq_true, beq_iff_eq, Bool.or_eq_false_iff, decide_eq_false_iff_not, Bool.and_eq_false_iff] at h ⊢
    rcases h with h | ⟨rfl, h⟩
    · refine ⟨?_, .inl ?_⟩
      · rw [UInt8.lt_iff_toNat_lt] at h ⊢; omega
      · rw [UInt8.lt_iff_toNat_lt] at h
        simp only [beq_eq_false_iff_ne, ne_eq]
        intro e; subst e; omega
    · exact ⟨by rw [UInt8.lt_iff_toNat_lt]; omega, .inr (bl_asy h)⟩
theorem bl_tri : ∀ {a b : List UInt8}, bl a b = false → a ≠ b → bl b a = true
  | [], [], _, h => absurd rfl h
  | [], _ :: _, h, _ => by simp [bl, Op.bytesLess] at h
  | _ :: _, [], _, _ => rfl
  | x :: a, y :: b, h, hne => by
    simp only [bl, Op.bytesLess, Bool.or_eq_true, decide_eq_true_eq, Bool.and_eq_true, beq_iff_eq, Bool.or_eq_false_iff, decide_eq_false_iff_not, Bool.and_eq_false_iff, beq_eq_false_iff_ne, ne_eq] at h ⊢
    by_cases e : x = y
    · subst e
      right
      refine ⟨rfl, bl_tri (h.2.resolve_left (fun h => h rfl)) (fun e => hne (by rw [e]))⟩
    · left
      have h1 := h.1
      rw [UInt8.lt_iff_toNat_lt] at h1 ⊢
      have : x.toNat ≠ y.toNat := fun e' => e (UInt8.toNat_inj.1 e')
      omega
theorem bl_trans : ∀ {a b c : List UInt8}, bl a b = true → bl b c = true → bl a c = true
  | a, [], _, h, _ => by cases a <;> simp [bl, Op.bytesLess] at h
  | _, _ :: _, [], _, h => by simp [bl, Op.bytesLess] at h
  | [], _ :: _, _ :: _, _, _ => rfl
  | x :: a, y :: b, z :: c, h, h' => by
    simp only [bl, Op.bytesLess, Bool.or_eq_true, decide_eq_true_eq, Bool.and_eq_true, beq_iff_eq] at h h' ⊢
    simp only [UInt8.lt_iff_toNat_lt] at h h' ⊢
    rcases h with h | ⟨rfl, h⟩ <;> rcases h' with h' | ⟨rfl, h'⟩
    · left; omega
    · left; omega
    · left; omega
    · right; exact ⟨rfl, bl_trans h h'⟩
theorem bb_bl : ∀ a b : List UInt8, bytesBefore a b = bl a b
  | [], [] => rfl
  | [], _ :: _ => rfl
  | _ :: _, [] => rfl
  | x :: a, y :: b => by simp [bytesBefore, bl, Op.bytesLess, bb_bl a b]

/-! ### a book as the list of its registers, ascending by name -/
abbrev Reg := Nat
def regVal (r : Reg) : Value := .pointer (some ⟨r, 0, none⟩)
abbrev Ent := ByteArray × Reg
def nlt (a b : ByteArray) : Bool := bl a.data.toList b.data.toList
theorem ba_ext {a b : ByteArray} (h : a.data.toList = b.data.toList) : a = b := ByteArray.ext (Array.ext' h)
theorem nlt_tri {a b : ByteArray} (h : nlt a b = false) (hne : a ≠ b) : nlt b a = true := bl_tri h (fun e => hne (ba_ext e))
theorem nlt_irr (a : ByteArray) : nlt a a = false := bl_irr _
def Srt (L : List Ent) : Prop := L.Pairwise fun p q => nlt p.1 q.1 = true
def zeroReg : Reg := 0
def idx : List Ent → ByteArray → Nat
  | [], _ => 0
  | p :: t, n => if nlt p.1 n then idx t n + 1 else 0
def hasB (L : List Ent) (n : ByteArray) : Bool := match L[idx L n]? with | some p => decide (p.1 = n) | none => false
def getR (L : List Ent) (n : ByteArray) : Reg := match L[idx L n]? with | some p => if p.1 = n then p.2 else zeroReg | none => zeroReg
def putR (L : List Ent) (n : ByteArray) (r : Reg) : List Ent := if hasB L n then L.set (idx L n) (n, r) else L.take (idx L n) ++ (n, r) :: L.drop (idx L n)
def delR (L : List Ent) (n : ByteArray) : List Ent := if hasB L n then L.take (idx L n) ++ L.drop (idx L n + 1) else L
theorem idx_le (n : ByteArray) : ∀ L : List Ent, idx L n ≤ L.length
  | [] => Nat.le_refl _
  | p :: t => by unfold idx; split <;> simp; exact idx_le n t
section
variable {p : Ent} {t : List Ent} {n : ByteArray} {r : Reg}
theorem has_lt (h : nlt p.1 n = true) : hasB (p :: t) n = hasB t n := by simp [hasB, idx, h]
theorem has_ge (h : nlt p.1 n = false) : hasB (p :: t) n = decide (p.1 = n) := by simp [hasB, idx, h]
theorem get_lt (h : nlt p.1 n = true) : getR (p :: t) n = getR t n := by simp [getR, idx, h]
theorem get_ge (h : nlt p.1 n = false) : getR (p :: t) n = if p.1 = n then p.2 else zeroReg := by simp [getR, idx, h]
theorem put_lt (h : nlt p.1 n = true) : putR (p :: t) n r = p :: putR t n r := by
  unfold putR; rw [has_lt h]; simp [idx, h]; split <;> rfl
theorem put_ge (h : nlt p.1 n = false) : putR (p :: t) n r = if p.1 = n then (n, r) :: t else (n, r) :: p :: t := by
  unfold putR; rw [has_ge h]; simp [idx, h]
theorem del_lt (h : nlt p.1 n = true) : delR (p :: t) n = p :: delR t n := by
  unfold delR; rw [has_lt h]; simp [idx, h]; split <;> rfl
theorem del_ge (h : nlt p.1 n = false) : delR (p :: t) n = if p.1 = n then t else p :: t := by
  unfold delR; rw [has_ge h]; simp [idx, h]
end
theorem Srt.tail_ {p : Ent} {t : List Ent} (h : Srt (p :: t)) : Srt t := (List.pairwise_cons.1 h).2
theorem Srt.head_ {p : Ent} {t : List Ent} (h : Srt (p :: t)) : ∀ q ∈ t, nlt p.1 q.1 = true := (List.pairwise_cons.1 h).1
theorem mem_put {n : ByteArray} {r : Reg} : ∀ {L : List Ent} {q : Ent}, q ∈ putR L n r → q = (n, r) ∨ q ∈ L
  | [], q, h => by simpa [putR, hasB, idx] using h
  | p :: t, q, h => by
    by_cases hp : nlt p.1 n = true
    · rw [put_lt hp] at h
      rcases List.mem_cons.1 h with rfl | h
      · exact .inr (List.mem_cons_self ..)
      · rcases mem_put h with e | e
        · exact .inl e
        · exact .inr (List.mem_cons_of_mem _ e)
    · rw [put_ge (by simpa using hp)] at h
      split at h
      · rcases List.mem_cons.1 h with rfl | h
        · exact .inl rfl
        · exact .inr (List.mem_cons_of_mem _ h)
      · rcases List.mem_cons.1 h with rfl | h
        · exact .inl rfl
        · exact .inr h
theorem Srt.put {n : ByteArray} {r : Reg} : ∀ {L : List Ent}, Srt L → Srt (putR L n r)
  | [], _ => by simp [putR, hasB, idx, Srt]
  | p :: t, h => by
    by_cases hp : nlt p.1 n = true
    · rw [put_lt hp]
      refine List.pairwise_cons.2 ⟨fun q hq => ?_, Srt.put h.tail_⟩
      rcases mem_put hq with rfl | hq
      · exact hp
      · exact h.head_ q hq
    · have hp' : nlt p.1 n = false := by simpa using hp
      rw [put_ge hp']
      split
      · rename_i e
        exact List.pairwise_cons.2 ⟨fun q hq => by rw [← e]; exact h.head_ q hq, h.tail_⟩
      · rename_i e
        have hn := nlt_tri hp' e
        refine List.pairwise_cons.2 ⟨fun q hq => ?_, h⟩
        rcases List.mem_cons.1 hq with rfl | hq
        · exact hn
        · exact bl_trans hn (h.head_ q hq)
theorem del_sub (n : ByteArray) (L : List Ent) : (delR L n).Sublist L := by
  unfold delR
  split
  · have : (L.take (idx L n) ++ L.drop (idx L n + 1)).Sublist (L.take (idx L n) ++ L.drop (idx L n)) :=
      List.Sublist.append_left (by rw [← List.drop_drop]; exact List.drop_sublist 1 _) _
    rwa [List.take_append_drop] at this
  · exact List.Sublist.refl _
theorem Srt.del {n : ByteArray} {L : List Ent} (h : Srt L) : Srt (delR L n) := List.Pairwise.sublist (del_sub n L) h

/-! ### as a map's datum -/
theorem ins_le {x y : Lit × DataW Value} {r : List (Lit × DataW Value)} (h : x.1.before y.1 = false) : DataW.insert x (y :: r) = y :: DataW.insert x r := by
  rw [DataW.insert, if_neg (by rw [h]; simp)]
theorem ins_lt {x y : Lit × DataW Value} {r : List (Lit × DataW Value)} (h : x.1.before y.1 = true) : DataW.insert x (y :: r) = x :: y :: r := by
  rw [DataW.insert, if_pos h]
def kOf (n : ByteArray) : Lit := .string n.data.toList
def eOf (p : Ent) : Lit × DataW Value := (kOf p.1, .held (regVal p.2))
def DB (L : List Ent) : DataW Value := .map (L.map eOf)
theorem same_k (a b : ByteArray) : (kOf a).sameKey (kOf b) = decide (a = b) := by
  show (a.data.toList == b.data.toList) = _
  rw [Bool.eq_iff_iff]
  simp only [beq_iff_eq, decide_eq_true_eq]
  exact ⟨ba_ext, fun e => by rw [e]⟩
theorem before_k (a b : ByteArray) : (kOf a).before (kOf b) = nlt a b := bb_bl _ _
theorem ne_of_nlt {a b : ByteArray} (h : nlt a b = true) : a ≠ b := fun e => by subst e; rw [nlt_irr] at h; cases h
theorem filter_all {n : ByteArray} {L : List Ent} (h : ∀ q ∈ L, nlt n q.1 = true) : (L.map eOf).filter (ChangeMaps.notKey (kOf n)) = L.map eOf := by
  rw [List.filter_eq_self]
  intro x hx
  obtain ⟨q, hq, rfl⟩ := List.mem_map.1 hx
  simp [ChangeMaps.notKey, eOf, same_k, (ne_of_nlt (h q hq)).symm]
theorem DB_put {n : ByteArray} {r : Reg} : ∀ {L : List Ent}, Srt L → ChangeMaps.putKey (kOf n) (.held (regVal r)) (L.map eOf) = (putR L n r).map eOf
  | [], _ => rfl
  | p :: t, h => by
    unfold ChangeMaps.putKey
    have ih := DB_put (n := n) (r := r) h.tail_
    unfold ChangeMaps.putKey at ih
    by_cases hp : nlt p.1 n = true
    · have h1 : ChangeMaps.notKey (kOf n) (eOf p) = true := by simp [ChangeMaps.notKey, eOf, same_k, ne_of_nlt hp]
      have h2 : (kOf n).before (eOf p).1 = false := (before_k _ _).trans (bl_asy hp)
      rw [put_lt hp, List.map_cons, List.map_cons, List.filter_cons_of_pos h1, ← ih, ins_le h2]
    · have hp' : nlt p.1 n = false := by simpa using hp
      rw [put_ge hp']
      by_cases e : p.1 = n
      · have h1 : ¬ ChangeMaps.notKey (kOf n) (eOf p) = true := by simp [ChangeMaps.notKey, eOf, same_k, e]
        rw [if_pos e, List.map_cons, List.filter_cons_of_neg h1, filter_all (by rw [← e]; exact h.head_)]
        cases t with
        | nil => rfl
        | cons q t =>
          have h2 : (kOf n).before (eOf q).1 = true := (before_k _ _).trans (by rw [← e]; exact h.head_ q (List.mem_cons_self ..))
          rw [List.map_cons, ins_lt h2]
          rfl
      · have hn := nlt_tri hp' e
        have h2 : (kOf n).before (eOf p).1 = true := (before_k _ _).trans hn
        rw [if_neg e, filter_all (L := p :: t) (fun q hq => by
          rcases List.mem_cons.1 hq with rfl | hq
          · exact hn
          · exact bl_trans hn (h.head_ q hq)), List.map_cons, ins_lt h2]
        rfl
theorem DB_del {n : ByteArray} : ∀ {L : List Ent}, Srt L → ChangeMaps.delKey (kOf n) (L.map eOf) = (delR L n).map eOf
  | [], _ => rfl
  | p :: t, h => by
    unfold ChangeMaps.delKey
    have ih := DB_del (n := n) h.tail_
    unfold ChangeMaps.delKey at ih
    by_cases hp : nlt p.1 n = true
    · have h1 : ChangeMaps.notKey (kOf n) (eOf p) = true := by simp [ChangeMaps.notKey, eOf, same_k, ne_of_nlt hp]
      rw [del_lt hp, List.map_cons, List.filter_cons_of_pos h1, ih, List.map_cons]
    · have hp' : nlt p.1 n = false := by simpa using hp
      rw [del_ge hp']
      by_cases e : p.1 = n
      · have h1 : ¬ ChangeMaps.notKey (kOf n) (eOf p) = true := by simp [ChangeMaps.notKey, eOf, same_k, e]
        rw [if_pos e, List.map_cons, List.filter_cons_of_neg h1, filter_all (by rw [← e]; exact h.head_)]
      · have hn := nlt_tri hp' e
        rw [if_neg e, filter_all (L := p :: t) (fun q hq => by
          rcases List.mem_cons.1 hq with rfl | hq
          · exact hn
          · exact bl_trans hn (h.head_ q hq))]
theorem put_DB {n : ByteArray} {r : Reg} {L : List Ent} (h : Srt L) : (DB L).put (kOf n) (.held (regVal r)) = DB (putR L n r) := by
  unfold DB; rw [DataW.put_eq, DB_put h]
theorem del_DB {n : ByteArray} {L : List Ent} (h : Srt L) : (DB L).del (kOf n) = DB (delR L n) := by
  unfold DB; rw [DataW.del_eq, DB_del h]
theorem find_DB {n : ByteArray} : ∀ {L : List Ent}, Srt L → (L.map eOf).find? (fun p => p.1.sameKey (kOf n)) = if hasB L n then some (kOf n, .held (regVal (getR L n))) else none
  | [], _ => rfl
  | p :: t, h => by
    have ih := find_DB (n := n) h.tail_
    rw [List.map_cons, List.find?_cons]
    by_cases hp : nlt p.1 n = true
    · have h1 : (eOf p).1.sameKey (kOf n) = false := (same_k _ _).trans (by simpa using ne_of_nlt hp)
      rw [has_lt hp, get_lt hp, h1]
      exact ih
    · have hp' : nlt p.1 n = false := by simpa using hp
      rw [has_ge hp', get_ge hp']
      by_cases e : p.1 = n
      · have h1 : (eOf p).1.sameKey (kOf n) = true := (same_k _ _).trans (by simpa using e)
        rw [h1]; simp [e, eOf]
      · have h1 : (eOf p).1.sameKey (kOf n) = false := (same_k _ _).trans (by simpa using e)
        rw [h1]
        have hn := nlt_tri hp' e
        simp only [e, decide_false, Bool.false_eq_true, if_false]
        rw [List.find?_eq_none]
        intro x hx
        obtain ⟨q, hq, rfl⟩ := List.mem_map.1 hx
        have := ne_of_nlt (bl_trans hn (h.head_ q hq))
        simp [eOf, same_k, Ne.symm this]
theorem has_DB {n : ByteArray} {L : List Ent} (h : Srt L) : Maps.has (DB L) (kOf n) = hasB L n := by
  show (L.map eOf).any (fun p => p.1.sameKey (kOf n)) = _
  have : (L.map eOf).any (fun p => p.1.sameKey (kOf n)) = ((L.map eOf).find? (fun p => p.1.sameKey (kOf n))).isSome := by
    rw [List.isSome_find?]
  rw [this, find_DB h]
  split <;> simp_all
theorem at_DB {n : ByteArray} {L : List Ent} (h : Srt L) (z : DataW Value) : (DB L).atKey (kOf n) z = if hasB L n then .held (regVal (getR L n)) else z := by
  unfold DB DataW.atKey
  simp only
  rw [find_DB h]
  by_cases hh : hasB L n = true <;> simp [hh]
theorem size_DB (L : List Ent) : Maps.size (DB L) = L.length := by simp [DB, Maps.size]
theorem get_miss {L : List Ent} {n : ByteArray} (h : hasB L n = false) : getR L n = zeroReg := by
  unfold hasB at h; unfold getR
  split <;> simp_all
theorem len_put {L : List Ent} {n : ByteArray} {r : Reg} : (putR L n r).length = if hasB L n then L.length else L.length + 1 := by
  have := idx_le n L
  unfold putR; split <;> simp; omega
theorem len_del {L : List Ent} {n : ByteArray} : (delR L n).length ≤ L.length := (del_sub n L).length_le
end Go.Proofs.YtpgkhhchpojlaaaGreatDoor.Sto
namespace Go.Proofs.YtpgkhhchpojlaaaGreatDoor.Sto
open Go.RowKit Go.Maps Go.WideMaps


section
variable {w w' : World} {g : Nat} {t : TypeId} {cs : Array Value}
end


def nmB (c : Nat) : Bool := decide (33 ≤ c) && decide (c ≤ 126) && decide (c ≠ 93)
def nameB (s : ByteArray) : Bool := decide (1 ≤ s.size) && decide (s.size ≤ 20) && allB nmB s
end Go.Proofs.YtpgkhhchpojlaaaGreatDoor.Sto
namespace Go.Proofs.YtpgkhhchpojlaaaGreatDoor.Sto
open Go.RowKit

/-- validName. -/
theorem cName (s : ByteArray) (hs : s.size ≤ maxLen) (w : World) :
    Calls Tryz.prog 85 #[.string s] w fun e w' => e = .returned (.bool (nameB s)) ∧ w = w' := by
  unfold maxLen at hs
  go_enter Tryz.func85, Tryz.ntmps85
  go_wp2
  go_loop [7] (fun v7 => ∃ k : Nat, k ≤ s.size ∧ v7 = .int .i64 k ∧ ∀ (j : Nat) (hj : j < s.size), j < k → nmB s[j].toNat = true) (fun v7 => s.size - (intOf v7).toNat)
  case atStart => exact ⟨0, Nat.zero_le _, rfl, fun j hj h => by omega⟩
  case round =>
    obtain ⟨k, hk, rfl, hb⟩ := hrel
    have HB := Lib.hid hb
    clear hb
    by_cases hlt : k < s.size
    · have hno : nmB s[k].toNat = false → nameB s = false := fun h => by
        unfold nameB
        rw [allB_no k hlt h]; simp
      by_cases h1 : (s[k].toNat : Int) < 33
      · have hf := hno (by
          have : ¬ 33 ≤ s[k].toNat := by omega
          simp [nmB, this])
        clear hno
        go_wp2
        go_ret
        exact ⟨rfl, rfl⟩
      · by_cases h2 : 126 < (s[k].toNat : Int)
        · have hf := hno (by
            have : ¬ s[k].toNat ≤ 126 := by omega
            simp [nmB, this])
          clear hno
          go_wp2
          go_ret
          exact ⟨rfl, rfl⟩
        · by_cases h3 : (s[k].toNat : Int) = 93
          · have hf := hno (by
              have : s[k].toNat = 93 := by omega
              simp [nmB, this])
            have hB : ((s[k].toNat : Int) == 93) = true := by simp [h3]
            clear h3 hno
            go_wp2
            go_ret
            exact ⟨rfl, rfl⟩
          · have hf : nmB s[k].toNat = true := by
              have e1 : s[k].toNat ≠ 93 := by omega
              have e2 : 33 ≤ s[k].toNat := by omega
              have e3 : s[k].toNat ≤ 126 := by omega
              simp [nmB, e1, e2, e3]
            have hB : ((s[k].toNat : Int) == 93) = false := by simp [h3]
            clear h3 hno
            go_wp2
            go_round
            case rel => exact ⟨k + 1, by omega, by go_num, fun j hj h => by
              by_cases e : j = k
              · subst e; exact hf
              · exact HB.out j hj (by omega)⟩
            case measure => simp [intOf]; omega
    · have hall : allB nmB s = true := allB_yes fun j hj => HB.out j hj (by omega)
      by_cases h0 : s.size = 0
      · have hn : nameB s = false := by unfold nameB; rw [h0]; rfl
        have e : s = ⟨#[]⟩ := by
          obtain ⟨⟨l⟩⟩ := s
          have : l = [] := List.length_eq_zero_iff.1 h0
          subst this; rfl
        have hB : (s != ⟨#[]⟩) = false := by subst e; rfl
        subst e
        clear hall HB
        go_wp2
        go_ret
        exact ⟨rfl, rfl⟩
      · obtain ⟨he1, he2⟩ := toList_ne h0
        have hn : nameB s = decide (s.size ≤ 20) := by
          unfold nameB
          rw [hall, show decide (1 ≤ s.size) = true from decide_eq_true (by omega)]; simp
        by_cases h9 : (s.size : Int) ≤ 20
        · rw [decide_eq_true (by omega : s.size ≤ 20)] at hn
          go_wp2
          go_ret
          exact ⟨rfl, rfl⟩
        · rw [decide_eq_false (by omega : ¬ s.size ≤ 20)] at hn
          go_wp2
          go_ret
          exact ⟨rfl, rfl⟩
end Go.Proofs.YtpgkhhchpojlaaaGreatDoor.Sto
namespace Go.Proofs.YtpgkhhchpojlaaaGreatDoor.Sto
open Go.RowKit Go.Maps Go.WideMaps

/-- An entry: a string's text, or a macro's lines. -/
inductive En where
  | str (t : ByteArray)
  | mac (ls : List Ln)
def En.size : En → Nat
  | .str t => t.size
  | .mac ls => ls.length
def En.kind : En → Int
  | .str _ => 1
  | .mac _ => 2
/-- Lines in a row that nobody else has, from the row r. -/
def OwnLns (r : Option Nat) (F : Nat → Prop) (w : World) (v : Value) (ls : List Ln) : Prop :=
  ∃ A cap, v = .slice A ls.length cap ∧ ls.length ≤ cap ∧ cap ≤ maxLen ∧ (cap = 0 → r = none) ∧
    (0 < cap → ∃ g off cs, A = some ⟨g, off, none⟩ ∧ r = some g ∧ Blk w g 31 cs ∧ off + cap * 5 ≤ cs.size ∧ ∀ (i : Nat) l, ls[i]? = some l → lnR F w g (off + i * 5) l)
/-- The three fields of an entry. -/
def EnVal (r : Option Nat) (F : Nat → Prop) (w : World) (k : Int) (t : ByteArray) (v : Value) : En → Prop
  | .str s => k = 1 ∧ t = s ∧ v = .slice none 0 0 ∧ s.size ≤ 2000 ∧ r = none
  | .mac ls => k = 2 ∧ t = ⟨#[]⟩ ∧ OwnLns r F w v ls ∧ ls.length ≤ 2000
def EnAt (r : Option Nat) (F : Nat → Prop) (w : World) (e : Nat) (en : En) : Prop :=
  ∃ k t v, Blk w e 103 #[.int .i64 k, .string t, v] ∧ EnVal r F w k t v en
theorem OwnLns.stay {r : Option Nat} {F F' : Nat → Prop} {w w' : World} {v : Value} {ls : List Ln} (h : OwnLns r F w v ls) (hw : Kept (fun i => r = some i ∨ F i) w w') (hF : ∀ i, F i → F' i) : OwnLns r F' w' v ls := by
  obtain ⟨A, cap, e, h1, h2, h3, h4⟩ := h
  refine ⟨A, cap, e, h1, h2, h3, fun h0 => ?_⟩
  obtain ⟨g, off, cs, eA, er, hb, hs, hl⟩ := h4 h0
  refine ⟨g, off, cs, eA, er, (hw g (.inl er) hb.lt).trans hb, hs, fun i l hi => ?_⟩
  have hr := hl i l hi
  have c : ∀ {o : Nat} {v : Value}, w.cell? ⟨g, o, none⟩ = some v → w'.cell? ⟨g, o, none⟩ = some v := fun hc => hw.cell (.inl er) hc
  obtain ⟨v, hv, hn⟩ := hr.c4
  exact ⟨c hr.c0, c hr.c1, c hr.c2, c hr.c3, ⟨v, c hv, hn.stay (fun i hi => hw i (.inr hi)) hF⟩, hr.s0, hr.s4⟩
theorem EnVal.stay {r : Option Nat} {F F' : Nat → Prop} {w w' : World} {k : Int} {t : ByteArray} {v : Value} {en : En} (h : EnVal r F w k t v en) (hw : Kept (fun i => r = some i ∨ F i) w w') (hF : ∀ i, F i → F' i) : EnVal r F' w' k t v en := by
  cases en with
  | str s => exact h
  | mac ls => exact ⟨h.1, h.2.1, h.2.2.1.stay hw hF, h.2.2.2⟩
theorem EnAt.stay {r : Option Nat} {F F' : Nat → Prop} {w w' : World} {e : Nat} {en : En} (h : EnAt r F w e en) (hw : Kept (fun i => i = e ∨ r = some i ∨ F i) w w') (hF : ∀ i, F i → F' i) : EnAt r F' w' e en := by
  obtain ⟨k, t, v, hb, hv⟩ := h
  exact ⟨k, t, v, (hw e (.inl rfl) hb.lt).trans hb, hv.stay (fun i hi => hw i (.inr hi)) hF⟩
theorem EnAt.lt {r : Option Nat} {F : Nat → Prop} {w : World} {e : Nat} {en : En} (h : EnAt r F w e en) : e < w.heap.size := by
  obtain ⟨k, t, v, hb, _⟩ := h
  exact hb.lt
theorem EnAt.row {r : Option Nat} {F : Nat → Prop} {w : World} {e g : Nat} {en : En} (h : EnAt r F w e en) (hr : r = some g) : ∃ cs, Blk w g 31 cs := by
  obtain ⟨k, t, v, hb, hv⟩ := h
  cases en with
  | str s => rw [hv.2.2.2.2] at hr; cases hr
  | mac ls =>
    obtain ⟨A, cap, e, h1, h2, h3, h4⟩ := hv.2.2.1
    by_cases h0 : cap = 0
    · rw [h3 h0] at hr; cases hr
    · obtain ⟨g', off, cs, eA, er, hb, hs, hl⟩ := h4 (by omega)
      rw [er] at hr
      injection hr with hr
      subst hr
      exact ⟨cs, hb⟩
/-- How a pointer reads in a map: as itself. -/
def RR (v : Value) : Option (DataW Value × List MemPlace) := some (.held v, [])
theorem law : Keyed Tryz.prog 9 := string_keyed Tryz.underlying9
theorem zeroE (w : World) : (zeroValue 107).run Tryz.prog w = .ok (.pointer none) w := by kernel_rfl
structure StAt (U F : Nat → Prop) (R : Nat → Option Nat) (w : World) (g bm : Nat) (L : List Ent) (E : Nat → En) : Prop where
  blk : Blk w g 99 #[.map (some bm)]
  own : w.ownsMap Tryz.prog 9 RR bm L.length (DB L)
  srt : Srt L
  len : L.length ≤ 500
  good : ∀ p ∈ L, nameB p.1 = true
  ubm : U bm
  ug : ¬ U g
  uf : ∀ i, U i → ¬ F i
  ul : ∀ i, U i → i < w.heap.size
  fl : ∀ i, F i → i < w.heap.size
  ent : ∀ p ∈ L, EnAt (R p.2) F w p.2 (E p.2)
  ue : ∀ p ∈ L, U p.2
  ur : ∀ p ∈ L, ∀ i, R p.2 = some i → U i
  sep : ∀ p ∈ L, ∀ q ∈ L, ∀ i, R p.2 = some i → R q.2 = some i → p.2 = q.2
section
variable {U F : Nat → Prop} {R : Nat → Option Nat} {w w' : World} {g bm : Nat} {L : List Ent} {E : Nat → En}
theorem StAt.turn {S : Nat → Prop} (h : StAt U F R w g bm L E) (hT : Turn S w w') (h1 : ∀ i, U i → ¬ S i) (h2 : ∀ i, F i → ¬ S i) (h3 : ¬ S g) : StAt U F R w' g bm L E :=
  ⟨hT.blk h.blk h3, ownsMap_turn h.own hT (h1 _ h.ubm), h.srt, h.len, h.good, h.ubm, h.ug, h.uf, fun i hi => Nat.lt_of_lt_of_le (h.ul i hi) hT.size, fun i hi => Nat.lt_of_lt_of_le (h.fl i hi) hT.size,
   fun p hp => (h.ent p hp).stay (Kept.of_turn hT (fun i hi => by
     rcases hi with rfl | hi | hi
     · exact h1 _ (h.ue p hp)
     · exact h1 _ (h.ur p hp i hi)
     · exact h2 _ hi)) (fun _ h => h), h.ue, h.ur, h.sep⟩
theorem StAt.below (h : StAt U F R w g bm L E) (hb : Below w.heap.size w w') : StAt U F R w' g bm L E :=
  h.turn (S := fun _ => False) (Turn.of_below hb) (fun _ _ => id) (fun _ _ => id) id
theorem StAt.c0 (h : StAt U F R w g bm L E) : w.cell? ⟨g, 0, none⟩ = some (.map (some bm)) := h.blk.cell 0
theorem StAt.ids (h : StAt U F R w g bm L E) : ∀ p ∈ L, p.2 < w.heap.size := fun p hp => (h.ent p hp).lt
theorem StAt.wide (h : StAt U F R w g bm L E) {U' F' : Nat → Prop} (hU : ∀ i, U i → U' i) (hF : ∀ i, F i → F' i) (hg : ¬ U' g) (huf : ∀ i, U' i → ¬ F' i) (hul : ∀ i, U' i → i < w.heap.size) (hfl : ∀ i, F' i → i < w.heap.size) : StAt U' F' R w g bm L E :=
  ⟨h.blk, h.own, h.srt, h.len, h.good, hU _ h.ubm, hg, huf, hul, hfl, fun p hp => (h.ent p hp).stay (fun _ _ _ => rfl) hF, fun p hp => hU _ (h.ue p hp), fun p hp i hi => hU _ (h.ur p hp i hi), h.sep⟩
def upd {α : Type} (f : Nat → α) (e : Nat) (x : α) : Nat → α := fun i => if i = e then x else f i
theorem upd_at {α : Type} (f : Nat → α) (e : Nat) (x : α) : upd f e x e = x := if_pos rfl
theorem upd_ne {α : Type} {f : Nat → α} {e i : Nat} {x : α} (h : i ≠ e) : upd f e x i = f i := if_neg h
/-- An entry that is not among the names' ones. -/
theorem StAt.fresh (h : StAt U F R w g bm L E) {e : Nat} (r : Option Nat) (en : En) (he : ∀ p ∈ L, p.2 ≠ e) : StAt U F (upd R e r) w g bm L (upd E e en) :=
  ⟨h.blk, h.own, h.srt, h.len, h.good, h.ubm, h.ug, h.uf, h.ul, h.fl, fun p hp => by rw [upd_ne (he p hp), upd_ne (he p hp)]; exact h.ent p hp, h.ue, fun p hp i hi => by rw [upd_ne (he p hp)] at hi; exact h.ur p hp i hi,
   fun p hp q hq i h1 h2 => by rw [upd_ne (he p hp)] at h1; rw [upd_ne (he q hq)] at h2; exact h.sep p hp q hq i h1 h2⟩
/-- An entry is written anew. -/
theorem StAt.store (h : StAt U F R w g bm L E) {e : Nat} {r : Option Nat} {k : Int} {t : ByteArray} {v : Value} {en : En} {cs0 : Array Value} (hb0 : Blk w e 103 cs0) (hT : Turn (· = e) w w') (hb : Blk w' e 103 #[.int .i64 k, .string t, v]) (hv : EnVal r F w k t v en)
    (hu : U e) (hr : ∀ i, r = some i → ¬ U i ∧ ¬ F i ∧ i ≠ g ∧ i < w.heap.size) : StAt (fun i => U i ∨ r = some i) F (upd R e r) w' g bm L (upd E e en) := by
  have hne : ∀ i, F i → i ≠ e := fun i hi e' => h.uf e hu (e' ▸ hi)
  have hre : ∀ i, r = some i → i ≠ e := fun i hi e' => (hr i hi).1 (e' ▸ hu)
  have hge : g ≠ e := fun e' => h.ug (e' ▸ hu)
  have hbe : bm ≠ e := fun e' => map_ne_cells hb0 h.own e'.symm
  refine ⟨hT.blk h.blk hge, ownsMap_turn h.own hT hbe, h.srt, h.len, h.good, .inl h.ubm, ?_, ?_, ?_, fun i hi => Nat.lt_of_lt_of_le (h.fl i hi) hT.size, ?_, fun p hp => .inl (h.ue p hp), ?_, ?_⟩
  · rintro (h1 | h1)
    · exact h.ug h1
    · exact (hr g h1).2.2.1 rfl
  · rintro i (h1 | h1)
    · exact h.uf i h1
    · exact (hr i h1).2.1
  · rintro i (h1 | h1)
    · exact Nat.lt_of_lt_of_le (h.ul i h1) hT.size
    · exact Nat.lt_of_lt_of_le (hr i h1).2.2.2 hT.size
  · intro p hp
    by_cases e1 : p.2 = e
    · rw [e1, upd_at, upd_at]
      exact ⟨k, t, v, hb, hv.stay (Kept.of_turn hT (fun i hi => by
        rcases hi with hi | hi
        · exact hre i hi
        · exact hne i hi)) (fun _ h => h)⟩
    · rw [upd_ne e1, upd_ne e1]
      refine (h.ent p hp).stay (Kept.of_turn hT (fun i hi => ?_)) (fun _ h => h)
      rcases hi with rfl | hi | hi
      · exact e1
      · intro e2
        obtain ⟨cs, hcs⟩ := (h.ent p hp).row hi
        exact blk_ne hcs hb0 (by decide) e2
      · exact hne i hi
  · intro p hp i hi
    by_cases e1 : p.2 = e
    · rw [e1, upd_at] at hi; exact .inr hi
    · rw [upd_ne e1] at hi; exact .inl (h.ur p hp i hi)
  · intro p hp q hq i h1 h2
    by_cases e1 : p.2 = e
    · by_cases e2 : q.2 = e
      · rw [e1, e2]
      · rw [e1, upd_at] at h1
        rw [upd_ne e2] at h2
        exact absurd (h.ur q hq i h2) (hr i h1).1
    · rw [upd_ne e1] at h1
      by_cases e2 : q.2 = e
      · rw [e2, upd_at] at h2
        exact absurd (h.ur p hp i h1) (hr i h2).1
      · rw [upd_ne e2] at h2
        exact h.sep p hp q hq i h1 h2
/-- A name leads to an entry. -/
theorem StAt.link (h : StAt U F R w g bm L E) {n e : Nat} {s : ByteArray} (ho : w'.ownsMap Tryz.prog 9 RR bm n ((DB L).put (kOf s) (.held (regVal e)))) (hg : w.grownBy w' (some bm))
    (hl : hasB L s = true ∨ L.length < 500) (hs : nameB s = true) (he : EnAt (R e) F w e (E e)) (hu : U e) (hr : ∀ i, R e = some i → U i) (hsep : ∀ q ∈ L, ∀ i, R q.2 = some i → R e = some i → q.2 = e) : StAt U F R w' g bm (putR L s e) E := by
  have hT := Turn.of_grown hg
  have hmem : ∀ p ∈ putR L s e, p = (s, e) ∨ p ∈ L := fun p hp => mem_put hp
  have hent : ∀ p, p = (s, e) ∨ p ∈ L → EnAt (R p.2) F w p.2 (E p.2) := fun p hp => by
    rcases hp with rfl | hp
    · exact he
    · exact h.ent p hp
  refine ⟨hT.blk h.blk (fun e' => h.ug (e' ▸ h.ubm)), ?_, h.srt.put, ?_, ?_, h.ubm, h.ug, h.uf, fun i hi => Nat.lt_of_lt_of_le (h.ul i hi) hT.size, fun i hi => Nat.lt_of_lt_of_le (h.fl i hi) hT.size, ?_, ?_, ?_, ?_⟩
  · rw [put_DB h.srt] at ho
    have := ownsMap_tight ho
    rwa [size_DB] at this
  · rw [len_put]
    have := h.len
    split
    · exact this
    · rename_i hh
      rcases hl with hl | hl
      · exact absurd hl hh
      · omega
  · intro p hp
    rcases hmem p hp with rfl | hp
    · exact hs
    · exact h.good p hp
  · intro p hp
    have hen := hent p (hmem p hp)
    refine hen.stay (Kept.of_turn hT (fun i hi e' => ?_)) (fun _ h => h)
    subst e'
    rcases hi with hi | hi | hi
    · obtain ⟨k, t, v, hb, _⟩ := hen
      exact map_ne_cells hb h.own hi.symm
    · obtain ⟨cs, hcs⟩ := hen.row hi
      exact map_ne_cells hcs h.own rfl
    · exact h.uf _ h.ubm hi
  · intro p hp
    rcases hmem p hp with rfl | hp
    · exact hu
    · exact h.ue p hp
  · intro p hp i hi
    rcases hmem p hp with rfl | hp
    · exact hr i hi
    · exact h.ur p hp i hi
  · intro p hp q hq i h1 h2
    rcases hmem p hp with rfl | hp <;> rcases hmem q hq with rfl | hq
    · rfl
    · exact (hsep q hq i h2 h1).symm
    · exact hsep p hp i h1 h2
    · exact h.sep p hp q hq i h1 h2
/-- A name is taken away. -/
theorem StAt.unlink (h : StAt U F R w g bm L E) {n : Nat} {s : ByteArray} (ho : w'.ownsMap Tryz.prog 9 RR bm n ((DB L).del (kOf s))) (hg : w.grownBy w' (some bm)) : StAt U F R w' g bm (delR L s) E := by
  have hT := Turn.of_grown hg
  have hmem : ∀ p ∈ delR L s, p ∈ L := fun p hp => (del_sub s L).subset hp
  refine ⟨hT.blk h.blk (fun e' => h.ug (e' ▸ h.ubm)), ?_, h.srt.del, Nat.le_trans len_del h.len, fun p hp => h.good p (hmem p hp), h.ubm, h.ug, h.uf, fun i hi => Nat.lt_of_lt_of_le (h.ul i hi) hT.size, fun i hi => Nat.lt_of_lt_of_le (h.fl i hi) hT.size, ?_, fun p hp => h.ue p (hmem p hp), fun p hp => h.ur p (hmem p hp), fun p hp q hq => h.sep p (hmem p hp) q (hmem q hq)⟩
  · rw [del_DB h.srt] at ho
    have := ownsMap_tight ho
    rwa [size_DB] at this
  · intro p hp
    have hen := h.ent p (hmem p hp)
    refine hen.stay (Kept.of_turn hT (fun i hi e' => ?_)) (fun _ h => h)
    subst e'
    rcases hi with hi | hi | hi
    · obtain ⟨k, t, v, hb, _⟩ := hen
      exact map_ne_cells hb h.own hi.symm
    · obtain ⟨cs, hcs⟩ := hen.row hi
      exact map_ne_cells hcs h.own rfl
    · exact h.uf _ h.ubm hi
theorem mem_get {s : ByteArray} (h : hasB L s = true) : (s, getR L s) ∈ L := by
  unfold hasB at h
  unfold getR
  cases he : L[idx L s]? with
  | none => rw [he] at h; cases h
  | some p =>
    rw [he] at h
    have e : p.1 = s := by simpa using h
    simp only [e, if_true]
    rw [← e]
    exact List.mem_of_getElem? he
end
theorem hasB_name {L : List Ent} (hg : ∀ p ∈ L, nameB p.1 = true) {s : ByteArray} (h : hasB L s = true) : nameB s = true := hg _ (mem_get h)
/-- What a look-up hands back. -/
def lkV (L : List Ent) (s : ByteArray) : Value := if hasB L s then .pointer (some ⟨getR L s, 0, none⟩) else .pointer none
theorem wpList_look (w : World) {ops : Array Oper} {rest : List Oper} {o : Oper} {a : Act} {Q : Exit → Act → World → Prop} (hg : o.guard = none) (m x : Operand) (hop : o.op = Op.lookup 97 m x true)
    (bm n : Nat) (L : List Ent) (hm : a.eval m = .map (some bm)) (hown : w.ownsMap Tryz.prog 9 RR bm n (DB L)) (hL : Srt L) (s : ByteArray) (hs : s.size ≤ maxLen) (hx : a.eval x = .string s)
    (hK : wpList Tryz.prog ops Q rest (a.put o.dst (.tuple #[lkV L s, .bool (hasB L s)])) w) : wpList Tryz.prog ops Q (o :: rest) a w := by
  refine wpList_lookup_own_ok w hg m x 97 hop 9 107 law Tryz.underlying97 RR (zeroE w) (.held (.pointer none)) [] rfl bm n (DB L) hm hown (.string s) (kOf s) hx (keyOf_string_mk Tryz.underlying9 hs) ?_
  intro v ps hv
  rw [has_DB hL]
  rw [at_DB hL] at hv
  have hv' : v = lkV L s := by
    unfold RR at hv
    injection hv with hv
    injection hv with hv _
    unfold lkV
    split at hv
    · rename_i h
      rw [if_pos h]
      injection hv
    · rename_i h
      rw [if_neg h]
      injection hv
  rw [hv']
  exact hK
theorem lenB {U F : Nat → Prop} {R : Nat → Option Nat} {w : World} {g bm : Nat} {L : List Ent} {E : Nat → En} (h : StAt U F R w g bm L E) (ty : TypeId) : (Builtin.len_ #[97] ty #[.map (some bm)]).run Tryz.prog w = .ok (.int .i64 (L.length : Nat)) w := by
  have := h.own.len (t := 97) Tryz.underlying97 ty
  rw [size_DB] at this
  exact this
end Go.Proofs.YtpgkhhchpojlaaaGreatDoor.Sto
