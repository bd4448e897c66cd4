/- The code's store in memory: names that lead to blocks of entries. -/
import Derived.Test.YtbedddgfijpbcaaGreatQd
namespace Go.Proofs.YtbedddgfijpbcaaGreat
open Go.RowKit Go.Maps Go.WideMaps

/-- An entry: a string's text, or a macro's lines. -/
inductive En where
  | str (t : ByteArray)
  | mac (ls : List Ln)
def En.size : En → Nat
  | .str t => t.size
  | .mac ls => ls.length
def En.kind : En → Int
  | .str _ => 1
  | .mac _ => 2
/-- Lines in a row that nobody else has, from the row r. -/
def OwnLns (r : Option Nat) (F : Nat → Prop) (w : World) (v : Value) (ls : List Ln) : Prop :=
  ∃ A cap, v = .slice A ls.length cap ∧ ls.length ≤ cap ∧ cap ≤ maxLen ∧ (cap = 0 → r = none) ∧
    (0 < cap → ∃ g off cs, A = some ⟨g, off, none⟩ ∧ r = some g ∧ Blk w g 39 cs ∧ off + cap * 5 ≤ cs.size ∧ ∀ (i : Nat) l, ls[i]? = some l → lnR F w g (off + i * 5) l)
/-- The three fields of an entry. -/
def EnVal (r : Option Nat) (F : Nat → Prop) (w : World) (k : Int) (t : ByteArray) (v : Value) : En → Prop
  | .str s => k = 1 ∧ t = s ∧ v = .slice none 0 0 ∧ s.size ≤ 2000 ∧ r = none
  | .mac ls => k = 2 ∧ t = ⟨#[]⟩ ∧ OwnLns r F w v ls ∧ ls.length ≤ 2000
def EnAt (r : Option Nat) (F : Nat → Prop) (w : World) (e : Nat) (en : En) : Prop :=
  ∃ k t v, Blk w e 59 #[.int .i64 k, .string t, v] ∧ EnVal r F w k t v en
theorem OwnLns.stay {r : Option Nat} {F F' : Nat → Prop} {w w' : World} {v : Value} {ls : List Ln} (h : OwnLns r F w v ls) (hw : Kept (fun i => r = some i ∨ F i) w w') (hF : ∀ i, F i → F' i) : OwnLns r F' w' v ls := by
  obtain ⟨A, cap, e, h1, h2, h3, h4⟩ := h
  refine ⟨A, cap, e, h1, h2, h3, fun h0 => ?_⟩
  obtain ⟨g, off, cs, eA, er, hb, hs, hl⟩ := h4 h0
  refine ⟨g, off, cs, eA, er, (hw g (.inl er) hb.lt).trans hb, hs, fun i l hi => ?_⟩
  have hr := hl i l hi
  have c : ∀ {o : Nat} {v : Value}, w.cell? ⟨g, o, none⟩ = some v → w'.cell? ⟨g, o, none⟩ = some v := fun hc => hw.cell (.inl er) hc
  obtain ⟨v, hv, hn⟩ := hr.c4
  exact ⟨c hr.c0, c hr.c1, c hr.c2, c hr.c3, ⟨v, c hv, hn.stay (fun i hi => hw i (.inr hi)) hF⟩, hr.s0, hr.s4⟩
theorem EnVal.stay {r : Option Nat} {F F' : Nat → Prop} {w w' : World} {k : Int} {t : ByteArray} {v : Value} {en : En} (h : EnVal r F w k t v en) (hw : Kept (fun i => r = some i ∨ F i) w w') (hF : ∀ i, F i → F' i) : EnVal r F' w' k t v en := by
  cases en with
  | str s => exact h
  | mac ls => exact ⟨h.1, h.2.1, h.2.2.1.stay hw hF, h.2.2.2⟩
theorem EnAt.stay {r : Option Nat} {F F' : Nat → Prop} {w w' : World} {e : Nat} {en : En} (h : EnAt r F w e en) (hw : Kept (fun i => i = e ∨ r = some i ∨ F i) w w') (hF : ∀ i, F i → F' i) : EnAt r F' w' e en := by
  obtain ⟨k, t, v, hb, hv⟩ := h
  exact ⟨k, t, v, (hw e (.inl rfl) hb.lt).trans hb, hv.stay (fun i hi => hw i (.inr hi)) hF⟩
theorem EnAt.lt {r : Option Nat} {F : Nat → Prop} {w : World} {e : Nat} {en : En} (h : EnAt r F w e en) : e < w.heap.size := by
  obtain ⟨k, t, v, hb, _⟩ := h
  exact hb.lt
theorem EnAt.row {r : Option Nat} {F : Nat → Prop} {w : World} {e g : Nat} {en : En} (h : EnAt r F w e en) (hr : r = some g) : ∃ cs, Blk w g 39 cs := by
  obtain ⟨k, t, v, hb, hv⟩ := h
  cases en with
  | str s => rw [hv.2.2.2.2] at hr; cases hr
  | mac ls =>
    obtain ⟨A, cap, e, h1, h2, h3, h4⟩ := hv.2.2.1
    by_cases h0 : cap = 0
    · rw [h3 h0] at hr; cases hr
    · obtain ⟨g', off, cs, eA, er, hb, hs, hl⟩ := h4 (by omega)
      rw [er] at hr
      injection hr with hr
      subst hr
      exact ⟨cs, hb⟩
/-- How a pointer reads in a map: as itself. -/
def RR (v : Value) : Option (DataW Value × List MemPlace) := some (.held v, [])
theorem law : Keyed Tryz.prog 9 := string_keyed Tryz.underlying9
theorem zeroE (w : World) : (zeroValue 57).run Tryz.prog w = .ok (.pointer none) w := by kernel_rfl
structure StAt (U F : Nat → Prop) (R : Nat → Option Nat) (w : World) (g bm : Nat) (L : List Ent) (E : Nat → En) : Prop where
  blk : Blk w g 46 #[.map (some bm)]
  own : w.ownsMap Tryz.prog 9 RR bm L.length (DB L)
  srt : Srt L
  len : L.length ≤ 500
  good : ∀ p ∈ L, nameB p.1 = true
  ubm : U bm
  ug : ¬ U g
  uf : ∀ i, U i → ¬ F i
  ul : ∀ i, U i → i < w.heap.size
  fl : ∀ i, F i → i < w.heap.size
  ent : ∀ p ∈ L, EnAt (R p.2) F w p.2 (E p.2)
  ue : ∀ p ∈ L, U p.2
  ur : ∀ p ∈ L, ∀ i, R p.2 = some i → U i
  sep : ∀ p ∈ L, ∀ q ∈ L, ∀ i, R p.2 = some i → R q.2 = some i → p.2 = q.2
section
variable {U F : Nat → Prop} {R : Nat → Option Nat} {w w' : World} {g bm : Nat} {L : List Ent} {E : Nat → En}
theorem StAt.turn {S : Nat → Prop} (h : StAt U F R w g bm L E) (hT : Turn S w w') (h1 : ∀ i, U i → ¬ S i) (h2 : ∀ i, F i → ¬ S i) (h3 : ¬ S g) : StAt U F R w' g bm L E :=
  ⟨hT.blk h.blk h3, ownsMap_turn h.own hT (h1 _ h.ubm), h.srt, h.len, h.good, h.ubm, h.ug, h.uf, fun i hi => Nat.lt_of_lt_of_le (h.ul i hi) hT.size, fun i hi => Nat.lt_of_lt_of_le (h.fl i hi) hT.size,
   fun p hp => (h.ent p hp).stay (Kept.of_turn hT (fun i hi => by
     rcases hi with rfl | hi | hi
     · exact h1 _ (h.ue p hp)
     · exact h1 _ (h.ur p hp i hi)
     · exact h2 _ hi)) (fun _ h => h), h.ue, h.ur, h.sep⟩
theorem StAt.below (h : StAt U F R w g bm L E) (hb : Below w.heap.size w w') : StAt U F R w' g bm L E :=
  h.turn (S := fun _ => False) (Turn.of_below hb) (fun _ _ => id) (fun _ _ => id) id
theorem StAt.c0 (h : StAt U F R w g bm L E) : w.cell? ⟨g, 0, none⟩ = some (.map (some bm)) := h.blk.cell 0
theorem StAt.ids (h : StAt U F R w g bm L E) : ∀ p ∈ L, p.2 < w.heap.size := fun p hp => (h.ent p hp).lt
theorem StAt.wide (h : StAt U F R w g bm L E) {U' F' : Nat → Prop} (hU : ∀ i, U i → U' i) (hF : ∀ i, F i → F' i) (hg : ¬ U' g) (huf : ∀ i, U' i → ¬ F' i) (hul : ∀ i, U' i → i < w.heap.size) (hfl : ∀ i, F' i → i < w.heap.size) : StAt U' F' R w g bm L E :=
  ⟨h.blk, h.own, h.srt, h.len, h.good, hU _ h.ubm, hg, huf, hul, hfl, fun p hp => (h.ent p hp).stay (fun _ _ _ => rfl) hF, fun p hp => hU _ (h.ue p hp), fun p hp i hi => hU _ (h.ur p hp i hi), h.sep⟩
def upd {α : Type} (f : Nat → α) (e : Nat) (x : α) : Nat → α := fun i => if i = e then x else f i
theorem upd_at {α : Type} (f : Nat → α) (e : Nat) (x : α) : upd f e x e = x := if_pos rfl
theorem upd_ne {α : Type} {f : Nat → α} {e i : Nat} {x : α} (h : i ≠ e) : upd f e x i = f i := if_neg h
/-- An entry that is not among the names' ones. -/
theorem StAt.fresh (h : StAt U F R w g bm L E) {e : Nat} (r : Option Nat) (en : En) (he : ∀ p ∈ L, p.2 ≠ e) : StAt U F (upd R e r) w g bm L (upd E e en) :=
  ⟨h.blk, h.own, h.srt, h.len, h.good, h.ubm, h.ug, h.uf, h.ul, h.fl, fun p hp => by rw [upd_ne (he p hp), upd_ne (he p hp)]; exact h.ent p hp, h.ue, fun p hp i hi => by rw [upd_ne (he p hp)] at hi; exact h.ur p hp i hi,
   fun p hp q hq i h1 h2 => by rw [upd_ne (he p hp)] at h1; rw [upd_ne (he q hq)] at h2; exact h.sep p hp q hq i h1 h2⟩
/-- An entry is written anew. -/
theorem StAt.store (h : StAt U F R w g bm L E) {e : Nat} {r : Option Nat} {k : Int} {t : ByteArray} {v : Value} {en : En} {cs0 : Array Value} (hb0 : Blk w e 59 cs0) (hT : Turn (· = e) w w') (hb : Blk w' e 59 #[.int .i64 k, .string t, v]) (hv : EnVal r F w k t v en)
    (hu : U e) (hr : ∀ i, r = some i → ¬ U i ∧ ¬ F i ∧ i ≠ g ∧ i < w.heap.size) : StAt (fun i => U i ∨ r = some i) F (upd R e r) w' g bm L (upd E e en) := by
  have hne : ∀ i, F i → i ≠ e := fun i hi e' => h.uf e hu (e' ▸ hi)
  have hre : ∀ i, r = some i → i ≠ e := fun i hi e' => (hr i hi).1 (e' ▸ hu)
  have hge : g ≠ e := fun e' => h.ug (e' ▸ hu)
  have hbe : bm ≠ e := fun e' => map_ne_cells hb0 h.own e'.symm
  refine ⟨hT.blk h.blk hge, ownsMap_turn h.own hT hbe, h.srt, h.len, h.good, .inl h.ubm, ?_, ?_, ?_, fun i hi => Nat.lt_of_lt_of_le (h.fl i hi) hT.size, ?_, fun p hp => .inl (h.ue p hp), ?_, ?_⟩
  · rintro (h1 | h1)
    · exact h.ug h1
    · exact (hr g h1).2.2.1 rfl
  · rintro i (h1 | h1)
    · exact h.uf i h1
    · exact (hr i h1).2.1
  · rintro i (h1 | h1)
    · exact Nat.lt_of_lt_of_le (h.ul i h1) hT.size
    · exact Nat.lt_of_lt_of_le (hr i h1).2.2.2 hT.size
  · intro p hp
    by_cases e1 : p.2 = e
    · rw [e1, upd_at, upd_at]
      exact ⟨k, t, v, hb, hv.stay (Kept.of_turn hT (fun i hi => by
        rcases hi with hi | hi
        · exact hre i hi
        · exact hne i hi)) (fun _ h => h)⟩
    · rw [upd_ne e1, upd_ne e1]
      refine (h.ent p hp).stay (Kept.of_turn hT (fun i hi => ?_)) (fun _ h => h)
      rcases hi with rfl | hi | hi
      · exact e1
      · intro e2
        obtain ⟨cs, hcs⟩ := (h.ent p hp).row hi
        exact blk_ne hcs hb0 (by decide) e2
      · exact hne i hi
  · intro p hp i hi
    by_cases e1 : p.2 = e
    · rw [e1, upd_at] at hi; exact .inr hi
    · rw [upd_ne e1] at hi; exact .inl (h.ur p hp i hi)
  · intro p hp q hq i h1 h2
    by_cases e1 : p.2 = e
    · by_cases e2 : q.2 = e
      · rw [e1, e2]
      · rw [e1, upd_at] at h1
        rw [upd_ne e2] at h2
        exact absurd (h.ur q hq i h2) (hr i h1).1
    · rw [upd_ne e1] at h1
      by_cases e2 : q.2 = e
      · rw [e2, upd_at] at h2
        exact absurd (h.ur p hp i h1) (hr i h2).1
      · rw [upd_ne e2] at h2
        exact h.sep p hp q hq i h1 h2
/-- A name leads to an entry. -/
theorem StAt.link (h : StAt U F R w g bm L E) {n e : Nat} {s : ByteArray} (ho : w'.ownsMap Tryz.prog 9 RR bm n ((DB L).put (kOf s) (.held (regVal e)))) (hg : w.grownBy w' (some bm))
    (hl : hasB L s = true ∨ L.length < 500) (hs : nameB s = true) (he : EnAt (R e) F w e (E e)) (hu : U e) (hr : ∀ i, R e = some i → U i) (hsep : ∀ q ∈ L, ∀ i, R q.2 = some i → R e = some i → q.2 = e) : StAt U F R w' g bm (putR L s e) E := by
  have hT := Turn.of_grown hg
  have hmem : ∀ p ∈ putR L s e, p = (s, e) ∨ p ∈ L := fun p hp => mem_put hp
  have hent : ∀ p, p = (s, e) ∨ p ∈ L → EnAt (R p.2) F w p.2 (E p.2) := fun p hp => by
    rcases hp with rfl | hp
    · exact he
    · exact h.ent p hp
  refine ⟨hT.blk h.blk (fun e' => h.ug (e' ▸ h.ubm)), ?_, h.srt.put, ?_, ?_, h.ubm, h.ug, h.uf, fun i hi => Nat.lt_of_lt_of_le (h.ul i hi) hT.size, fun i hi => Nat.lt_of_lt_of_le (h.fl i hi) hT.size, ?_, ?_, ?_, ?_⟩
  · rw [put_DB h.srt] at ho
    have := ownsMap_tight ho
    rwa [size_DB] at this
  · rw [len_put]
    have := h.len
    split
    · exact this
    · rename_i hh
      rcases hl with hl | hl
      · exact absurd hl hh
      · omega
  · intro p hp
    rcases hmem p hp with rfl | hp
    · exact hs
    · exact h.good p hp
  · intro p hp
    have hen := hent p (hmem p hp)
    refine hen.stay (Kept.of_turn hT (fun i hi e' => ?_)) (fun _ h => h)
    subst e'
    rcases hi with hi | hi | hi
    · obtain ⟨k, t, v, hb, _⟩ := hen
      exact map_ne_cells hb h.own hi.symm
    · obtain ⟨cs, hcs⟩ := hen.row hi
      exact map_ne_cells hcs h.own rfl
    · exact h.uf _ h.ubm hi
  · intro p hp
    rcases hmem p hp with rfl | hp
    · exact hu
    · exact h.ue p hp
  · intro p hp i hi
    rcases hmem p hp with rfl | hp
    · exact hr i hi
    · exact h.ur p hp i hi
  · intro p hp q hq i h1 h2
    rcases hmem p hp with rfl | hp <;> rcases hmem q hq with rfl | hq
    · rfl
    · exact (hsep q hq i h2 h1).symm
    · exact hsep p hp i h1 h2
    · exact h.sep p hp q hq i h1 h2
/-- A name is taken away. -/
theorem StAt.unlink (h : StAt U F R w g bm L E) {n : Nat} {s : ByteArray} (ho : w'.ownsMap Tryz.prog 9 RR bm n ((DB L).del (kOf s))) (hg : w.grownBy w' (some bm)) : StAt U F R w' g bm (delR L s) E := by
  have hT := Turn.of_grown hg
  have hmem : ∀ p ∈ delR L s, p ∈ L := fun p hp => (del_sub s L).subset hp
  refine ⟨hT.blk h.blk (fun e' => h.ug (e' ▸ h.ubm)), ?_, h.srt.del, Nat.le_trans len_del h.len, fun p hp => h.good p (hmem p hp), h.ubm, h.ug, h.uf, fun i hi => Nat.lt_of_lt_of_le (h.ul i hi) hT.size, fun i hi => Nat.lt_of_lt_of_le (h.fl i hi) hT.size, ?_, fun p hp => h.ue p (hmem p hp), fun p hp => h.ur p (hmem p hp), fun p hp q hq => h.sep p (hmem p hp) q (hmem q hq)⟩
  · rw [del_DB h.srt] at ho
    have := ownsMap_tight ho
    rwa [size_DB] at this
  · intro p hp
    have hen := h.ent p (hmem p hp)
    refine hen.stay (Kept.of_turn hT (fun i hi e' => ?_)) (fun _ h => h)
    subst e'
    rcases hi with hi | hi | hi
    · obtain ⟨k, t, v, hb, _⟩ := hen
      exact map_ne_cells hb h.own hi.symm
    · obtain ⟨cs, hcs⟩ := hen.row hi
      exact map_ne_cells hcs h.own rfl
    · exact h.uf _ h.ubm hi
theorem mem_get {s : ByteArray} (h : hasB L s = true) : (s, getR L s) ∈ L := by
  unfold hasB at h
  unfold getR
  cases he : L[idx L s]? with
  | none => rw [he] at h; cases h
  | some p =>
    rw [he] at h
    have e : p.1 = s := by simpa using h
    simp only [e, if_true]
    rw [← e]
    exact List.mem_of_getElem? he
end
theorem hasB_name {L : List Ent} (hg : ∀ p ∈ L, nameB p.1 = true) {s : ByteArray} (h : hasB L s = true) : nameB s = true := hg _ (mem_get h)
/-- What a look-up hands back. -/
def lkV (L : List Ent) (s : ByteArray) : Value := if hasB L s then .pointer (some ⟨getR L s, 0, none⟩) else .pointer none
theorem wpList_look (w : World) {ops : Array Oper} {rest : List Oper} {o : Oper} {a : Act} {Q : Exit → Act → World → Prop} (hg : o.guard = none) (m x : Operand) (hop : o.op = Op.lookup 44 m x true)
    (bm n : Nat) (L : List Ent) (hm : a.eval m = .map (some bm)) (hown : w.ownsMap Tryz.prog 9 RR bm n (DB L)) (hL : Srt L) (s : ByteArray) (hs : s.size ≤ maxLen) (hx : a.eval x = .string s)
    (hK : wpList Tryz.prog ops Q rest (a.put o.dst (.tuple #[lkV L s, .bool (hasB L s)])) w) : wpList Tryz.prog ops Q (o :: rest) a w := by
  refine wpList_lookup_own_ok w hg m x 44 hop 9 57 law Tryz.underlying44 RR (zeroE w) (.held (.pointer none)) [] rfl bm n (DB L) hm hown (.string s) (kOf s) hx (keyOf_string_mk Tryz.underlying9 hs) ?_
  intro v ps hv
  rw [has_DB hL]
  rw [at_DB hL] at hv
  have hv' : v = lkV L s := by
    unfold RR at hv
    injection hv with hv
    injection hv with hv _
    unfold lkV
    split at hv
    · rename_i h
      rw [if_pos h]
      injection hv
    · rename_i h
      rw [if_neg h]
      injection hv
  rw [hv']
  exact hK
theorem lenB {U F : Nat → Prop} {R : Nat → Option Nat} {w : World} {g bm : Nat} {L : List Ent} {E : Nat → En} (h : StAt U F R w g bm L E) (ty : TypeId) : (Builtin.len_ #[44] ty #[.map (some bm)]).run Tryz.prog w = .ok (.int .i64 (L.length : Nat)) w := by
  have := h.own.len (t := 44) Tryz.underlying44 ty
  rw [size_DB] at this
  exact this
end Go.Proofs.YtbedddgfijpbcaaGreat
